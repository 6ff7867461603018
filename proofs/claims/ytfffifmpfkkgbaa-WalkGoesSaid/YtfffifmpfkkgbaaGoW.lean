/- WalkGoes: the walk of the law. -/
import Derived.Test.YtfffifmpfkkgbaaGoT
import Derived.Test.YtfffifmpfkkgbaaAwakeW
import Derived.Sort.CutIn
import Derived.Test.YtfffifmpfkkgbaaMix
namespace Go.Proofs.Ytfffifmpfkkgbaa
open Go.RowKit Go.Shelf
attribute [local go_sem] Oper.semAt_some
set_option maxRecDepth 1000000
set_option maxHeartbeats 4000000

theorem go_out (ao ao2 : Option Addr) (len cap len2 cap2 : Nat) (s : ByteArray) (w : World) (hs : 200 < s.size) :
    Calls Try.prog 3 #[.slice ao len cap, .slice ao2 len2 cap2, .string s] w fun e w' => e = .returned (.bool true) ∧ Below w.heap.size w w' := by
  obtain ⟨w0, hw0⟩ : ∃ w0, w0 = (w.alloc (.cells #[.slice ao2 len2 cap2] 22)).alloc (.cells #[.bool false] 4) := ⟨_, rfl⟩
  have b0 : Below w.heap.size w w0 := by rw [hw0]; exact Below.new (Below.new (Below.refl _ _) _) _
  have fr0 : Fresh w0 (w.heap.size + 1) #[.bool false] 4 := by rw [hw0]; exact Fresh.new _ _ _ _ (by simp)
  have HW0 := Lib.hid hw0
  have H0 := Lib.hid (And.intro b0 fr0)
  have HA := Lib.hid (awake_any w0)
  obtain ⟨ns, hns⟩ : ∃ ns, s.size = ns := ⟨_, rfl⟩
  have j1 : (200 : Int) < (ns : Int) := by omega
  clear hs hw0 b0 fr0
  go_enter Try.func3, Try.ntmps3
  go_upto_region 1 with fail
  rw [← HW0.out]
  go_wp2_with (go_at_call 7; refine HA.out.mono ?_; rintro e1 w1 ⟨rfl, hb1⟩; have f3 := H0.out.2.below hb1; have t0 := f3.thawed 0; have d0 := f3.cell 0; simp only [List.getElem?_toArray, List.getElem?_cons_zero] at d0; have H1 := Lib.hid (And.intro hb1 f3); clear hb1 f3)
  have g1 := H1.out.2.set 0 (.bool true)
  have r0 := g1.cell 0
  simp at r0
  refine bodyPost_ret (v := .bool true) (by simp [results, Try.results3, go_sem, r0]) rfl ?_
  exact ⟨rfl, Turned.below (S := [w.heap.size + 1]) (Below.step H0.out.1 H1.out.1) ((Turned.refl _ _).setCell (.inl (by simp)) _ _) (by simp) (Nat.le_trans H0.out.1.size H1.out.1.size)⟩
theorem go_in (ao ao2 : Option Addr) (len cap len2 cap2 : Nat) (hlen : len ≤ 9223372036854775807) (hcap2 : len2 ≤ cap2 ∧ cap2 ≤ maxLen) (s : ByteArray) (hs : s.size ≤ 200) (w : World) (ds ds2 : Nat → Dd) (hD : HasD w ao len ds) (hD2 : HasD w ao2 len2 ds2) :
    Calls Try.prog 3 #[.slice ao len cap, .slice ao2 len2 cap2, .string s] w fun e w' => e = .returned (.bool true) ∧ Below w.heap.size w w' := by
  obtain ⟨l0, hl0⟩ : ∃ l0, runD ds (min len 50) [] = l0 := ⟨_, rfl⟩
  have hll : l0.length ≤ 50 := by
    have := run_length ds (min len 50) []
    rw [hl0] at this
    simp at this
    omega
  obtain ⟨N, hN⟩ : ∃ N, min len2 50 = N := ⟨_, rfl⟩
  obtain ⟨w0, hw0⟩ : ∃ w0, w0 = (w.alloc (.cells #[.slice ao2 len2 cap2] 22)).alloc (.cells #[.bool false] 4) := ⟨_, rfl⟩
  have b0 : Below w.heap.size w w0 := by rw [hw0]; exact Below.new (Below.new (Below.refl _ _) _) _
  have fd0 : Fresh w0 w.heap.size #[.slice ao2 len2 cap2] 22 := by rw [hw0]; exact (Fresh.new _ _ _ _ rfl).alloc _
  have fr0 : Fresh w0 (w.heap.size + 1) #[.bool false] 4 := by rw [hw0]; exact Fresh.new _ _ _ _ (by simp)
  have HW0 := Lib.hid hw0
  have H0 := Lib.hid (And.intro b0 (And.intro fd0 fr0))
  have HD := Lib.hid (And.intro hlen (And.intro hD (And.intro hl0 hll)))
  have HD2 := Lib.hid (And.intro hcap2 (And.intro hD2 hN))
  obtain ⟨ns, hns⟩ : ∃ ns, s.size = ns := ⟨_, rfl⟩
  have j1 : ¬ (200 : Int) < (ns : Int) := by omega
  clear hs hw0 b0 fd0 fr0 hlen hD hl0 hll hcap2 hD2 hN
  refine (callsIn_wide (n := 10)).1 ?_
  refine callsIn_of_wp_marks Try.func3 rfl trivial ?_ rfl
  simp only [Try.ntmps3, List.size_toArray, List.length_cons, List.length_nil, Nat.reduceAdd, Nat.reduceSub, Array.replicate_succ, Array.replicate_zero, List.push_toArray, List.append_toArray, List.nil_append, List.cons_append]
  refine wpIn_wide.2 ?_
  refine wp_mono (Q := calmQ _) ?_ calmQ_out
  go_upto_region 1 with fail
  rw [← HW0.out]
  go_upto_region 4 with (go_at_call 8; refine (new_any _).mono ?_; rintro e1 w1 ⟨p, q, m, hp, hq, hm, rfl, hb1, ha1⟩; have H1 := Lib.hid (And.intro hp (And.intro hq (And.intro hm (And.intro hb1 ha1)))); clear hp hq hm hb1 ha1)
  obtain ⟨w3, hw3⟩ : ∃ w3, w3 = w1.alloc (.cells #[.pointer (some ⟨p, 0, none⟩)] 24) := ⟨_, rfl⟩
  rw [← hw3]
  have b3 : Below w1.heap.size w1 w3 := by rw [hw3]; exact Below.new (Below.refl _ _) _
  have fa3 : Fresh w3 w1.heap.size #[.pointer (some ⟨p, 0, none⟩)] 24 := by rw [hw3]; exact Fresh.new _ _ _ _ rfl
  have c3 := fa3.cell 0
  simp only [List.getElem?_toArray, List.getElem?_cons_zero] at c3
  have b13 := Below.step H1.out.2.2.2.1 b3
  have H3 := Lib.hid (And.intro b13 (And.intro fa3 (And.intro (H0.out.2.1.below b13) (And.intro (H0.out.2.2.below b13) (H1.out.2.2.2.2.below b3)))))
  have HTW : Hid (Two w w3 p q q m (.slice none 0 0) []) := by
    obtain ⟨k1, k2, k3, k4, k5⟩ := H1.out
    have hz := H0.out.1.size
    exact ⟨Below.step H0.out.1 b13, Nat.le_trans hz k2, Nat.le_trans hz k2, Nat.le_trans hz k3, k5.below b3, Seg.nil _⟩
  clear hw3 b3 fa3 b13
  go_upto_region 5 with (go_at_call 9; refine (both_any HTW.out (by decide) ao len cap HD.out.1 ds HD.out.2.1).mono ?_; rintro e4 w4 ⟨v4, e2, rfl, h4, he4, ht4⟩; rw [HD.out.2.2.1] at h4; obtain ⟨a4, k4, rfl, _, _⟩ := h4.seg.form; have H4 := Lib.hid (And.intro h4 (And.intro he4 ht4)); clear h4 he4 ht4; unfold rb)
  obtain ⟨w5, hw5⟩ : ∃ w5, w5 = w4.alloc (.cells #[.slice a4 l0.length k4] 28) := ⟨_, rfl⟩
  rw [← hw5]
  have b5 : Below w4.heap.size w4 w5 := by rw [hw5]; exact Below.new (Below.refl _ _) _
  have fm5 : Fresh w5 w4.heap.size #[.slice a4 l0.length k4] 28 := by rw [hw5]; exact Fresh.new _ _ _ _ rfl
  have s5 : w5.heap.size = w4.heap.size + 1 := by rw [hw5]; simp
  clear hw5
  go_upto_region 6 with fail
  obtain ⟨w6, hw6⟩ : ∃ w6, w6 = w5.alloc (.cells #[.string s] 9) := ⟨_, rfl⟩
  rw [← hw6]
  have b6 : Below w5.heap.size w5 w6 := by rw [hw6]; exact Below.new (Below.refl _ _) _
  have fb6 : Fresh w6 (w4.heap.size + 1) #[.string s] 9 := by rw [hw6]; exact Fresh.new _ _ _ _ s5
  have s6 : w6.heap.size = w4.heap.size + 2 := by rw [hw6]; simp; omega
  clear hw6
  try rw [s5]
  go_upto_region 7 with fail
  obtain ⟨w7, hw7⟩ : ∃ w7, w7 = w6.alloc (.cells #[.int .i64 0] 3) := ⟨_, rfl⟩
  rw [← hw7]
  have b7 : Below w6.heap.size w6 w7 := by rw [hw7]; exact Below.new (Below.refl _ _) _
  have fn7 : Fresh w7 (w4.heap.size + 2) #[.int .i64 0] 3 := by rw [hw7]; exact Fresh.new _ _ _ _ s6
  have s7 : w7.heap.size = w4.heap.size + 3 := by rw [hw7]; simp; omega
  clear hw7
  try rw [s6]
  have b47 : Below w4.heap.size w4 w7 := Below.step b5 (Below.step b6 b7)
  have hlt3 := H3.out.2.2.2.2.lt
  have z0 := H0.out.2.2.lt
  have z3 := H3.out.2.1.lt
  have z1 := H1.out.2.2.2.1.size
  have hq1 := H1.out.2.1
  have hm1 := H1.out.2.2.1
  have hp1 := H1.out.1
  have hl1 := H1.out.2.2.2.2.lt
  have hlt4 := H4.out.1.art.lt
  have z4 := H4.out.2.2.size
  have fa7 := (H4.out.2.2.other H3.out.2.1 (by simp; omega)).below b47
  have fd7 := (H4.out.2.2.other H3.out.2.2.1 (by simp; omega)).below b47
  have fr7 := (H4.out.2.2.other H3.out.2.2.2.1 (by simp; omega)).below b47
  have fm7 := fm5.below (Below.step b6 b7)
  have fb7 := fb6.below b7
  have t7 := H4.out.1.below b47
  have c7 := fa7.cell 0
  simp only [List.getElem?_toArray, List.getElem?_cons_zero] at c7
  obtain ⟨C4, hC4⟩ : ∃ C4, w4.heap.size = C4 := ⟨_, rfl⟩
  obtain ⟨C1, hC1⟩ : ∃ C1, w1.heap.size = C1 := ⟨_, rfl⟩
  rw [hC4] at s7 fn7 fb7 fm7 hlt4 z4
  rw [hC1] at fa7 z3 z1 hl1 c7
  have H7 := Lib.hid (And.intro fa7 (And.intro fd7 (And.intro fr7 (And.intro fm7 (And.intro fb7 (And.intro fn7 t7))))))
  have HSZ7 : Hid (w7.heap.size = C4 + 3 ∧ C1 < C4 ∧ w.heap.size + 1 < C1 ∧ p < C1 ∧ q < C1 ∧ m < C1 ∧ w.heap.size + 1 < q ∧ w.heap.size + 1 < m ∧ w.heap.size + 1 < p ∧ e2 < C4) := by show _ ∧ _; omega
  have hc1s : w1.heap.size = C1 := hC1
  rw [hC1, hC4]
  clear b5 fm5 s5 b6 fb6 s6 b7 fn7 s7 b47 hlt3 z0 z3 z1 hq1 hm1 hp1 hl1 hlt4 z4 fa7 fd7 fr7 fm7 fb7 t7 c3 hC4 hC1 hc1s
  go_wp2_with (go_at_call 10; refine (goes_any p _ _).mono ?_; rintro e WL ⟨wg, hbg, rfl, hWL⟩; have HWL := Lib.hid (And.intro hbg hWL); clear hbg hWL)
  have BL : Below w7.heap.size w7 WL := by rw [HWL.out.2]; exact Below.new (Below.new HWL.out.1 _) _
  have fw : Fresh WL wg.heap.size #[.pointer (some ⟨p, 0, none⟩)] 74 := by rw [HWL.out.2]; exact (Fresh.new _ _ _ _ rfl).alloc _
  have ff : Fresh WL (wg.heap.size + 1) #[.string s] 9 := by rw [HWL.out.2]; exact Fresh.new _ _ _ _ (by simp)
  have cw := fw.cell 0
  have cf := ff.cell 0
  simp only [List.getElem?_toArray, List.getElem?_cons_zero] at cw cf
  have hsz : w7.heap.size ≤ wg.heap.size ∧ wg.heap.size < WL.heap.size := ⟨HWL.out.1.size, fw.lt⟩
  have hsrt0 : SrtP l0 := H7.out.2.2.2.2.2.2.art.good.1
  have HS0 := Lib.hid hsrt0
  have rel0 : GoG w WL s ds2 N l0 p q m C1 w.heap.size C4 (C4 + 1) (C4 + 2) (w.heap.size + 1) wg.heap.size (.slice ao2 len2 cap2) [] WL := by
    obtain ⟨y1, y2, y3, y4, y5, y6, y7⟩ := H7.out
    have hg := HSZ7.out
    have hL0 : LL ds2 N l0 0 = l0 := by unfold LL; rw [Nat.zero_min]; rfl
    have hNN := HD2.out.2.2
    refine ⟨?_, ⟨e2, .slice a4 l0.length k4, by show Two w WL p q e2 m (.slice a4 l0.length k4) (LL ds2 N l0 0); rw [hL0]; exact y7.below BL, y4.below BL, by omega⟩, y1.below BL, y2.below BL, y5.below BL, y6.below BL, y3.below BL, fw⟩
    have h1 := HD.out.2.2.2
    have h2 : restN l0 s ≤ l0.length := by unfold restN; omega
    show 0 + gMu ds2 N l0 0 s ≤ 200
    unfold gMu
    rw [hL0]
    omega
  obtain ⟨S', hS'⟩ : ∃ S', S' = [WL.heap.size + 1, q, m, C4, C4 + 1, C4 + 2] := ⟨_, rfl⟩
  have HSP := Lib.hid hS'
  have nS : ∀ k, w7.heap.size ≤ k ∧ k ≠ WL.heap.size + 1 → k ∉ S' := fun k h1 h2 => by
    have hg := HSZ7.out
    rw [hS'] at h2
    simp at h2
    omega
  have HBY : WalkBy WL wg.heap.size p s (LL ds2 N l0) (gMu ds2 N l0) none (KT S') (fun pre A => GoG w WL s ds2 N l0 p q m C1 w.heap.size C4 (C4 + 1) (C4 + 2) (w.heap.size + 1) wg.heap.size (.slice ao2 len2 cap2) pre A) := by
    have hNN := HD2.out.2.2
    refine ⟨fun i => ?_, fun A B hk hc => hk.fresh hc (nS _ (by omega)) (by decide), fun pre A h => ?_, fun c hc => (by cases hc), fun pre A c v g hc h => (by cases hc), fun A B b cs hb hk hn hf => hk.fresh hf (nS _ (by omega)) (by decide), fun i b z hz => gMu_lt ds2 HS0.out hz⟩
    · have h1 := LL_len ds2 N l0 i
      have h2 := HD.out.2.2.2
      omega
    · obtain ⟨e, v, h1, _⟩ := h.two
      exact ⟨q, e, m, h1.art⟩
  have HBY := Lib.hid HBY
  have HNS := Lib.hid nS
  have HR0 := Lib.hid rel0
  have HSZ := Lib.hid hsz
  have hmx : Try.prog.follows .mixedOrders = true := by kernel_rfl
  clear nS rel0 BL ff hsz c7 hsrt0 hS'
  refine (wpIn_wide (n := 10)).1 ?_
  generalize hA0 : ({ tmps := _, defers := _ } : Act) = A0
  refine range_st rfl (by omega) (gf := 50) (lb := #[.pointer (some ⟨wg.heap.size, 0, none⟩), .pointer (some ⟨wg.heap.size + 1, 0, none⟩)]) (by rw [← hA0]; rfl) trivial (enters_of Try.func50 (by kernel_rfl) rfl)
    (walk_own (10 - 1) (by omega) wg.heap.size (wg.heap.size + 1) p s (LL ds2 N l0) (gMu ds2 N l0) none (KT S') _ WL HBY.out fw cf)
    (fun h k => h.trans k) (fun Wc o hw => (KT.of_turned (Turned.put (S := [WL.heap.size + 1]) (by simp) o)).wide (by rw [HSP.out]; simp)) (Below.refl _ _) (fun _ => rfl)
    (fun pre Wc => GoG w WL s ds2 N l0 p q m C1 w.heap.size C4 (C4 + 1) (C4 + 2) (w.heap.size + 1) wg.heap.size (.slice ao2 len2 cap2) pre Wc)
    (fun _ _ _ => False)
    (fun pre X Y row h hg hr => h.grown hg (fun r e => ⟨by have := (hr r e).1; have := HSZ.out; have := HSZ7.out; omega, by have := (hr r e).1; have := HSZ.out; have := HSZ7.out; omega, (hr r e).2⟩))
    (fun c pre X Y row h hg hr => h)
    HR0.out (fun _ _ h => h)
    (fun x a' Wc => ∃ b, a' = { tmps := (A0.tmps.setIfInBounds 31 (pairV x)).setIfInBounds 11 (.pointer (some ⟨b, 0, none⟩)), defers := [] } ∧ Fresh Wc b (prV x) 34)
    (fun x a' _ X Y row h hg hr => ?_)
    ?assignment ?round1 ?done ?stop
  · obtain ⟨b, h1, h2⟩ := h
    exact ⟨b, h1, h2.kept hg (fun r e => (hr r e).2)⟩
  all_goals subst hA0
  case assignment =>
    rintro l' pre x Wc K' hG hI hK'
    obtain ⟨W9, hW9⟩ : ∃ W9, W9 = Wc.alloc (.cells (prV x) 34) := ⟨_, rfl⟩
    have B9 : Below Wc.heap.size Wc W9 := by rw [hW9]; exact Below.new (Below.refl _ _) _
    have HK' := hK' _ W9 (KeepsFrom.of_turned (S := []) (Turned.of_below B9) (by simp)) ((KT.of_turned (S := []) (Turned.of_below B9)).wide (by simp)) (hI.below B9) ⟨Wc.heap.size, rfl, by rw [hW9]; exact Fresh.new _ _ _ _ rfl⟩
    rw [hW9] at HK'
    clear hK' hI hG B9 hW9
    simp only [List.setIfInBounds_toArray, List.set_cons_succ, List.set_cons_zero] at HK'
    replace HK' := Lib.hid HK'
    unfold pairV prV at *
    gi_wp2
    exact HK'.out
  case round1 =>
    rintro l' pre x a' W5 hG hI5 ⟨b, rfl, hb5⟩ hz
    simp only [List.setIfInBounds_toArray, List.set_cons_succ, List.set_cons_zero]
    obtain ⟨pre', z', hpz, hnx⟩ := hG
    obtain ⟨rfl, rfl⟩ : pre = pre' ∧ x = z' := by
      have := List.append_inj' hpz rfl
      exact ⟨this.1, by simpa using this.2⟩
    obtain ⟨xk, xv⟩ := x
    have HZ : Hid (GoZ w p q m C1 C4 wg.heap.size) := by
      have hg := HSZ7.out
      have hs := HSZ.out
      show GoZ _ _ _ _ _ _ _
      exact ⟨by omega, by omega, by omega, by omega, by omega, by omega⟩
    obtain ⟨e, v, two, fM, heB⟩ := hI5.two
    obtain ⟨av, kv, rfl, _, _⟩ := two.seg.form
    have hLl := LL_len ds2 N l0 pre.length
    have hl50 := HD.out.2.2.2
    have hN50 := HD2.out.2.2
    have hcnt := hI5.cnt
    have HNX := rnext_any two.seg two.art.good.1 two.art.good.2 (by omega) (bdOf s pre)
    rw [hnx] at HNX
    unfold nextV rb at HNX
    dsimp only at HNX
    obtain ⟨ku, hku⟩ : ∃ ku, zup xk = ku := ⟨_, rfl⟩
    rw [hku] at HNX
    obtain ⟨nl, hnl⟩ : ∃ nl, (LL ds2 N l0 pre.length).length = nl := ⟨_, rfl⟩
    rw [hnl] at HNX fM
    obtain ⟨bd, hbd⟩ : ∃ bd, bdOf s pre = bd := ⟨_, rfl⟩
    rw [hbd] at HNX
    have ca := hI5.fa.cell 0
    have cb := hI5.bb.cell 0
    have cm := fM.cell 0
    rw [hbd] at cb
    simp only [List.getElem?_toArray, List.getElem?_cons_zero] at ca cb cm
    replace HNX := Lib.hid HNX
    have H5r := Lib.hid (And.intro hI5 (And.intro hb5 (And.intro hnx (And.intro hku hcnt))))
    obtain ⟨j, hj⟩ : ∃ j, pre.length = j := ⟨_, rfl⟩
    have HJ := Lib.hid hj
    have hj200 : j ≤ 200 := by omega
    have jg : ¬ (200 : Int) < (j : Int) := by omega
    have j0 : (0 : Int) ≤ (j : Int) := by omega
    have jw : IntKind.i64.wrap ((j : Int) + 1) = (j : Int) + 1 := by rw [IntKind.wrap_i64]; omega
    clear hpz hnx hI5 hb5 two fM heB hLl hl50 hN50 hcnt hku hnl hbd hj
    gi_upto_region 10 with (refine ⟨trivial, ?_⟩; gi_at_call 11; refine (callsIn_round HNX.out).mono ?_; rintro e6 W6 ⟨rfl, hb6⟩; have H6 := Lib.hid hb6; clear hb6)
    obtain ⟨W8, hW8⟩ : ∃ W8, W8 = W6.alloc (.cells #[.string xk, .string xv] 34) := ⟨_, rfl⟩
    rw [← hW8]
    have b8 : Below W5.heap.size W5 W8 := by rw [hW8]; exact Below.new H6.out _
    have fx8 := H5r.out.2.1.below b8
    have fq8 : Fresh W8 W6.heap.size #[.string xk, .string xv] 34 := by rw [hW8]; exact Fresh.new _ _ _ _ rfl
    have hI8 := H5r.out.1.below b8
    have x0 := fx8.cell 0
    have x1 := fx8.cell 1
    have q0 := fq8.cell 0
    have q1 := fq8.cell 1
    have cn := hI8.nb.cell 0
    have cb := hI8.bb.cell 0
    have tb := hI8.bb.thawed 0
    unfold prV at x0 x1
    rw [HJ.out] at cn
    simp only [List.getElem?_toArray, List.getElem?_cons_zero, List.getElem?_cons_succ] at x0 x1 q0 q1 cn cb
    have H8 := Lib.hid (And.intro b8 hI8)
    clear hW8 b8 fx8 fq8 hI8 ca cm
    gi_upto_region 13 with fail
    have HB9 := Lib.hid (H8.out.2.bound HZ.out ku)
    obtain ⟨W9, hW9⟩ : ∃ W9, W9 = W8.setCell ⟨C4 + 1, 0, none⟩ (.string ku) := ⟨_, rfl⟩
    rw [← hW9] at HB9 ⊢
    clear hW9 x0 x1 q0 q1 cn cb tb
    obtain ⟨k9, e9, v9, hG9⟩ := HB9.out
    obtain ⟨a9, n9, rfl, _, _⟩ := hG9.two.seg.form
    obtain ⟨nl9, hnl9⟩ : ∃ nl9, (LL ds2 N l0 pre.length).length = nl9 := ⟨_, rfl⟩
    rw [hnl9] at hG9
    have cn := hG9.nb.cell 0
    have cd := hG9.fd.cell 0
    rw [HJ.out] at cn
    simp only [List.getElem?_toArray, List.getElem?_cons_zero] at cn cd
    have H9 := Lib.hid (And.intro k9 hG9)
    have HNL9 := Lib.hid hnl9
    have hNN := HD2.out.2.2
    clear k9 hG9 hnl9 HB9
    by_cases hjN : j < N
    · have jl : (j : Int) < (len2 : Int) := by omega
      have jl2 : decide (j < len2) = true := decide_eq_true (by omega)
      have j50 : (j : Int) < 50 := by omega
      have j51 : decide (j < 50) = true := decide_eq_true (by omega)
      have jle : (j : Int) ≤ (j : Int) + 1 := by omega
      have jcap : (j : Int) + 1 ≤ (cap2 : Int) := by have := HD2.out.1.1; omega
      have HJN := Lib.hid (And.intro hjN (show j < len2 by omega))
      clear hjN hNN
      gi_upto_region 14 with fail
      obtain ⟨blk, off, hao, _⟩ := HD2.out.2.1.at_ j HJN.out.2
      subst hao
      have jne : ¬ cap2 = j := by have := HD2.out.1.1; have := HJN.out.2; omega
      have bD : Below W9.heap.size W9 W9.drew := (Below.refl _ _).drew
      have HGD := Lib.hid (H9.out.2.below bD)
      have HKD : Hid (KT [q, m, C4, C4 + 1, C4 + 2] W9 W9.drew) := (KT.of_turned (S := []) (Turned.of_below bD)).wide (by simp)
      have ca := HGD.out.fa.cell 0
      have cm := HGD.out.fm.cell 0
      have cn := HGD.out.nb.cell 0
      have cd := HGD.out.fd.cell 0
      rw [HJ.out] at cn
      simp only [List.getElem?_toArray, List.getElem?_cons_zero] at ca cm cn cd
      have HLN : Hid (runD (fun i => ds2 (j + i)) (min 1 50) (LL ds2 N l0 pre.length) = LL ds2 N l0 (pre.length + 1)) := by
        show _ = _
        rw [LL_next ds2 l0 (by rw [HJ.out]; exact HJN.out.1), show min 1 50 = 1 from rfl]
        show stepD (ds2 (j + 0)) _ = stepD (ds2 pre.length) _
        rw [HJ.out, Nat.add_zero]
        rfl
      have HBO := both_any HGD.out.two (by have h1 := LL_len ds2 N l0 pre.length; have h2 := HD.out.2.2.2; have h3 := HD2.out.2.2; omega) _ 1 (cap2 - j) (by omega) _ (HD2.out.2.1.one HJN.out.2 HD2.out.1.1)
      unfold rb fromD at HBO
      rw [if_neg jne, Option.map_some, Addr.add_lit] at HBO
      replace HBO := Lib.hid HBO
      clear bD jl jl2 j50 j51
      refine region_mix_round l' [5, 6] [0, 0, 0, 0, 0, 16, 60, 127, 255] [0, 1, 2, 3, 4, 5, 6, 7, 8] (by kernel_rfl) (by kernel_rfl) (by kernel_rfl) ?_
      refine mix_step (by simp only [List.getElem?_toArray, List.getElem?_cons_zero] <;> rfl) (by kernel_rfl) (fun K hK => ?_)
      go_simp
      refine hK _ _ ?_
      clear hK K
      refine mix_step (by simp only [List.getElem?_toArray, List.getElem?_cons_succ, List.getElem?_cons_zero] <;> rfl) (by kernel_rfl) (fun K hK => ?_)
      go_simp
      refine hK _ _ ?_
      clear hK K
      refine mix_step (by simp only [List.getElem?_toArray, List.getElem?_cons_succ, List.getElem?_cons_zero] <;> rfl) (by kernel_rfl) (fun K hK => ?_)
      go_simp
      refine hK _ _ ?_
      clear hK K
      refine mix_step (by simp only [List.getElem?_toArray, List.getElem?_cons_succ, List.getElem?_cons_zero] <;> rfl) (by kernel_rfl) (fun K hK => ?_)
      go_simp
      refine hK _ _ ?_
      clear hK K
      refine mix_step (by simp only [List.getElem?_toArray, List.getElem?_cons_succ, List.getElem?_cons_zero] <;> rfl) (by kernel_rfl) (fun K hK => ?_)
      go_simp
      refine hK _ _ ?_
      clear hK K
      refine mix_pure (v := ?_) (by simp only [List.getElem?_toArray, List.getElem?_cons_succ, List.getElem?_cons_zero] <;> rfl) (by kernel_rfl) ⟨Or.inl ⟨by kernel_rfl, ?_⟩, fun _ => (by rfl)⟩ ?_; rotate_left 1; focus (intro w; go_simp; try with_reducible rfl)
      simp only [Act.put, List.setIfInBounds_toArray, List.set_cons_zero, List.set_cons_succ]
      refine mix_pure (v := ?_) (by simp only [List.getElem?_toArray, List.getElem?_cons_succ, List.getElem?_cons_zero] <;> rfl) (by kernel_rfl) ⟨Or.inl ⟨by kernel_rfl, ?_⟩, fun _ => (by rfl)⟩ ?_; rotate_left 1; focus (intro w; go_simp; try with_reducible rfl)
      simp only [Act.put, List.setIfInBounds_toArray, List.set_cons_zero, List.set_cons_succ]
      refine mix_step (by simp only [List.getElem?_toArray, List.getElem?_cons_succ, List.getElem?_cons_zero] <;> rfl) (by kernel_rfl) (fun K hK => ?_)
      go_simp
      refine ⟨trivial, ?_⟩
      refine (callsIn_wide.2 HBO.out).mono ?_
      rintro e10x w10 ⟨v10, e10, rfl, t10, he10, hT10⟩
      rw [HLN.out] at t10
      obtain ⟨a10, k10, rfl, _, _⟩ := t10.seg.form
      obtain ⟨nl10, hnl10⟩ : ∃ nl10, (LL ds2 N l0 (pre.length + 1)).length = nl10 := ⟨_, rfl⟩
      rw [hnl10] at t10 ⊢
      obtain ⟨fm10, kt10, hG10⟩ := GoH.both HGD.out HZ.out t10 he10 hT10
      have c10 := fm10.cell 0
      have t10c := fm10.thawed 0
      simp only [List.getElem?_toArray, List.getElem?_cons_zero] at c10
      have H10 := Lib.hid (And.intro kt10 hG10)
      clear t10 he10 hT10 hnl10 fm10 kt10 hG10
      refine hK _ _ ?_
      clear hK K
      refine mix_step (by simp only [List.getElem?_toArray, List.getElem?_cons_succ, List.getElem?_cons_zero] <;> rfl) (by kernel_rfl) (fun K hK => ?_)
      go_simp
      refine hK _ _ ?_
      clear hK K
      refine mix_end ?_
      obtain ⟨W11, hW11⟩ : ∃ W11, W11 = w10.setCell ⟨C4, 0, none⟩ (.slice a10 nl10 k10) := ⟨_, rfl⟩
      rw [← hW11] at H10 ⊢
      clear hW11 c10 t10c ca cm cd cn
      have cn := H10.out.2.nb.cell 0
      have tn := H10.out.2.nb.thawed 0
      rw [HJ.out] at cn
      simp only [List.getElem?_toArray, List.getElem?_cons_zero] at cn
      gi_wp2_with fail
      have hE := H10.out.2.tick (W := WL) (b0 := s) (z := (xk, xv)) H5r.out.2.2.2.1 HZ.out rfl HS0.out H5r.out.2.2.1 H5r.out.2.2.2.2
      rw [HJ.out] at hE
      have hg := HSZ7.out
      have hs := HSZ.out
      have hK0 : KT [q, m, C4, C4 + 1, C4 + 2] W5 (W11.setCell ⟨C4 + 2, 0, none⟩ (.int .i64 ((j : Int) + 1))) := (((KT.of_turned (S := []) (Turned.of_below H8.out.1)).wide (by simp)).trans ((H9.out.1.wide (by simp)).trans (HKD.out.trans ((H10.out.1.wide (by simp)).trans (hE.1.wide (by simp))))))
      exact ⟨hK0.keeps (by simp; omega), hK0.wide (by rw [HSP.out]; simp), hE.2⟩
    · have hNj : N ≤ j := by omega
      have HNJ := Lib.hid hNj
      have tn := H9.out.2.nb.thawed 0
      have END : Hid (KeepsFrom WL.heap.size W5 (W9.setCell ⟨C4 + 2, 0, none⟩ (.int .i64 ((j : Int) + 1))) ∧ KT S' W5 (W9.setCell ⟨C4 + 2, 0, none⟩ (.int .i64 ((j : Int) + 1))) ∧ GoG w WL s ds2 N l0 p q m C1 w.heap.size C4 (C4 + 1) (C4 + 2) (w.heap.size + 1) wg.heap.size (.slice ao2 len2 cap2) (pre ++ [(xk, xv)]) (W9.setCell ⟨C4 + 2, 0, none⟩ (.int .i64 ((j : Int) + 1)))) := by
        have hE := H9.out.2.tick (W := WL) (b0 := s) (z := (xk, xv)) H5r.out.2.2.2.1 HZ.out (LL_stay ds2 l0 (by rw [HJ.out]; exact HNJ.out)).symm HS0.out H5r.out.2.2.1 H5r.out.2.2.2.2
        rw [HJ.out] at hE
        have hg := HSZ7.out
        have hs := HSZ.out
        have hK0 : KT [q, m, C4, C4 + 1, C4 + 2] W5 (W9.setCell ⟨C4 + 2, 0, none⟩ (.int .i64 ((j : Int) + 1))) := (((KT.of_turned (S := []) (Turned.of_below H8.out.1)).wide (by simp)).trans ((H9.out.1.wide (by simp)).trans (hE.1.wide (by simp))))
        exact ⟨hK0.keeps (by simp; omega), hK0.wide (by rw [HSP.out]; simp), hE.2⟩
      clear hjN
      by_cases hj2 : j < len2
      · have jl : (j : Int) < (len2 : Int) := by omega
        have jl2 : decide (j < len2) = true := decide_eq_true hj2
        have j50 : ¬ (j : Int) < 50 := by omega
        have j51 : decide (j < 50) = false := decide_eq_false (by omega)
        clear hj2 hNj hNN
        gi_wp2_with fail
        exact END.out
      · have jl : ¬ (j : Int) < (len2 : Int) := by omega
        have jl2 : decide (j < len2) = false := decide_eq_false hj2
        clear hj2 hNj hNN
        gi_wp2_with fail
        exact END.out
  case done =>
    rintro D xs W5 hD hS5 hI5 hK'
    obtain ⟨e, v, two, fM, heB⟩ := hI5.two
    obtain ⟨av, kv, rfl, _, _⟩ := two.seg.form
    have hLl := LL_len ds2 N l0 xs.length
    have hl50 := HD.out.2.2.2
    have hN50 := HD2.out.2.2
    have HNX := rnext_any two.seg two.art.good.1 two.art.good.2 (by omega) (bdOf s xs)
    rw [hS5] at HNX
    unfold nextV rb at HNX
    dsimp only at HNX
    obtain ⟨nl, hnl⟩ : ∃ nl, (LL ds2 N l0 xs.length).length = nl := ⟨_, rfl⟩
    rw [hnl] at HNX fM
    obtain ⟨bd, hbd⟩ : ∃ bd, bdOf s xs = bd := ⟨_, rfl⟩
    rw [hbd] at HNX
    have cb := hI5.bb.cell 0
    have cm := fM.cell 0
    rw [hbd] at cb
    simp only [List.getElem?_toArray, List.getElem?_cons_zero] at cb cm
    replace HNX := Lib.hid HNX
    have H5r := Lib.hid (And.intro hI5 (And.intro hK' two.low))
    have HDD : Hid (w.heap.size + 1 < D) := by have := HSZ7.out; have := HSZ.out; show _ < _; omega
    clear hS5 hI5 hK' two fM heB hLl hl50 hN50 hnl hbd hD
    go_upto_region 17 with (go_at_call 11; refine HNX.out.mono ?_; rintro e6 W6 ⟨rfl, hb6⟩; have H6 := Lib.hid hb6; clear hb6)
    obtain ⟨W8, hW8⟩ : ∃ W8, W8 = W6.alloc (.cells #[.string ⟨#[]⟩, .string ⟨#[]⟩] 34) := ⟨_, rfl⟩
    rw [← hW8]
    have b8 : Below W5.heap.size W5 W8 := by rw [hW8]; exact Below.new H6.out _
    have H8 := Lib.hid (And.intro b8 (awake_any W8))
    clear hW8 b8 cb cm
    go_wp2_with (go_at_call 7; refine H8.out.2.mono ?_; rintro e9 W9 ⟨rfl, hb9⟩; have f9 := H5r.out.1.fr.below (Below.step H8.out.1 hb9); have t9 := f9.thawed 0; have c9 := f9.cell 0; simp only [List.getElem?_toArray, List.getElem?_cons_zero] at c9; have H9 := Lib.hid (And.intro (Below.step H8.out.1 hb9) f9); clear hb9 f9)
    refine goes_end (w := w) rfl rfl (H9.out.2.set 0 (.bool true)) (Turned.below (S := [w.heap.size + 1]) (Below.step H5r.out.2.2 H9.out.1) ((Turned.refl _ _).setCell (.inl (by simp)) _ _) (by simp) (Nat.le_trans H5r.out.2.2.size H9.out.1.size)) ((Below.heap_setCell W9 ⟨w.heap.size + 1, 0, none⟩ _ D (fun e => by have := HDD.out; simp at e; omega)).trans ?_) HDD.out
    exact (H9.out.1.block D (Array.getElem?_eq_some_iff.1 H5r.out.2.1).1).trans H5r.out.2.1
  case stop =>
    rintro D c pre W5 hD hS2 h hK'
    exact h.elim
theorem go_walk (ao : Option Addr) (len cap : Nat) (ao2 : Option Addr) (len2 cap2 : Nat) (s : ByteArray) (w : World) {P1 : Prop} (hd : IsDeeds2 w ao len cap) (hd2 : IsDeeds2 w ao2 len2 cap2) (_ : P1) :
    Calls Try.prog 3 #[.slice ao len cap, .slice ao2 len2 cap2, .string s] w fun e w' => e = .returned (.bool true) ∧ Below w.heap.size w w' := by
  obtain ⟨ds, hD⟩ := hd.1.has
  obtain ⟨ds2, hD2⟩ := hd2.1.has
  by_cases h1 : s.size ≤ 200
  · exact go_in ao ao2 len cap len2 cap2 hd.1.1 hd2.2 s h1 w ds ds2 hD hD2
  · exact go_out ao ao2 len cap len2 cap2 s w (by omega)
end Go.Proofs.Ytfffifmpfkkgbaa
