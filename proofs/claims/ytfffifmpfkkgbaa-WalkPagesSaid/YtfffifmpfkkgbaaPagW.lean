/- WalkPages: the walk of the law. -/
import Derived.Test.YtfffifmpfkkgbaaPagR
import Derived.Sort.CutIn
namespace Go.Proofs.Ytfffifmpfkkgbaa
open Go.RowKit Go.Shelf
attribute [local go_sem] Oper.semAt_some
set_option maxRecDepth 1000000
set_option maxHeartbeats 4000000

theorem from_pre {l : List Pr} (hs : SrtP l) {c : Nat} (hc : c ≤ l.length) : fromP (bdOf ⟨#[]⟩ (l.take c)) l = l.drop c := by
  have h := at_pre (l := l) hs ⟨#[]⟩ (k := c) (by rw [from_empty]; exact hc)
  rw [from_empty] at h
  have h0 : atK ⟨#[]⟩ (keys l) = 0 := by
    cases l with
    | nil => rfl
    | cons z l =>
      rw [show keys (z :: l) = z.1 :: keys l from rfl, atK_cons, if_neg]
      cases h : z.1.data.toList <;> simp [kl, bl, Op.bytesLess, h]
  unfold fromP
  rw [h, h0, Nat.zero_add]
theorem bd_page {l F : List Pr} {c m n : Nat} {z : Pr} (hF : (l.drop c).take n = F) (hz : F[m]? = some z) : bdOf ⟨#[]⟩ (l.take (c + (m + 1))) = zup z.1 := by
  rw [← hF, List.getElem?_take] at hz
  split at hz
  · rw [List.getElem?_drop] at hz
    have hl := (List.getElem?_eq_some_iff.1 hz).1
    rw [show c + (m + 1) = (c + m) + 1 from by omega, List.take_succ_eq_append_getElem hl, bdOf_snoc]
    obtain ⟨_, e⟩ := List.getElem?_eq_some_iff.1 hz
    rw [e]
  · cases hz
theorem take_page {l F : List Pr} {c n : Nat} (hF : (l.drop c).take n = F) : l.take c ++ F = l.take (c + F.length) := by
  rw [List.take_add, ← hF, List.length_take]
  congr 1
  rw [List.take_eq_take_iff]
  omega
theorem pg_in (ao : Option Addr) (len cap : Nat) (hlen : len ≤ 9223372036854775807) (sz : Int) (w : World) (ds : Nat → Dd) (hD : HasD w ao len ds) :
    Calls Try.prog 5 #[.slice ao len cap, .int .i64 sz] w fun e w' => e = .returned (.bool true) ∧ Below w.heap.size w w' := by
  obtain ⟨l, hl⟩ : ∃ l, runD ds (min len 50) [] = l := ⟨_, rfl⟩
  have hll : l.length ≤ 50 := by
    have := run_length ds (min len 50) []
    rw [hl] at this
    simp at this
    omega
  obtain ⟨n, hn⟩ : ∃ n : Nat, 1 + sz % 7 = (n : Int) := ⟨(1 + sz % 7).toNat, by omega⟩
  have hn1 : 1 ≤ n ∧ n ≤ 7 := by omega
  have jn : IntKind.i64.wrap (1 + sz % 7) = (n : Int) := by rw [IntKind.wrap_i64]; omega
  have HN := Lib.hid hn1
  obtain ⟨w0, hw0⟩ : ∃ w0, w0 = w.alloc (.cells #[.bool false] 4) := ⟨_, rfl⟩
  have b0 : Below w.heap.size w w0 := by rw [hw0]; exact Below.new (Below.refl _ _) _
  have fr0 : Fresh w0 w.heap.size #[.bool false] 4 := by rw [hw0]; exact Fresh.new _ _ _ _ rfl
  have HW0 := Lib.hid hw0
  have H0 := Lib.hid (And.intro b0 fr0)
  have HA := Lib.hid (awake_any w0)
  have HD := Lib.hid (And.intro hlen (And.intro hD (And.intro hl hll)))
  clear hlen hD hl hll hn hn1 hw0 b0 fr0
  refine (callsIn_wide (n := 10)).1 ?_
  refine callsIn_of_wp_marks Try.func5 rfl trivial ?_ rfl
  simp only [Try.ntmps5, List.size_toArray, List.length_cons, List.length_nil, Nat.reduceAdd, Nat.reduceSub, Array.replicate_succ, Array.replicate_zero, List.push_toArray, List.append_toArray, List.nil_append, List.cons_append]
  refine wpIn_wide.2 ?_
  refine wp_mono (Q := calmQ _) ?_ calmQ_out
  go_upto_region 1 with fail
  rw [← HW0.out]
  go_upto_region 4 with (first
    | (go_at_call 7; refine HA.out.mono ?_; rintro e1 w1 ⟨rfl, hb1⟩; have H1 := Lib.hid hb1; clear hb1)
    | (go_at_call 12; refine (built_any (Below.step H0.out.1 H1.out) ao len cap HD.out.1 ds HD.out.2.1).mono ?_; rintro e2 w2 ⟨p, q, e, m, rfl, hbw, hb2, hge, hA2⟩; rw [HD.out.2.2.1] at hA2; have H2 := Lib.hid (And.intro hb2 (And.intro hA2 (Below.step H1.out hbw))); clear hbw hb2 hge hA2))
  obtain ⟨w3, hw3⟩ : ∃ w3, w3 = w2.alloc (.cells #[.pointer (some ⟨p, 0, none⟩)] 24) := ⟨_, rfl⟩
  rw [← hw3]
  have b3 : Below w2.heap.size w2 w3 := by rw [hw3]; exact Below.new (Below.refl _ _) _
  have fa3 : Fresh w3 w2.heap.size #[.pointer (some ⟨p, 0, none⟩)] 24 := by rw [hw3]; exact Fresh.new _ _ _ _ rfl
  have H3 := Lib.hid (And.intro b3 fa3)
  clear hw3 b3 fa3
  go_upto_region 5 with (go_at_call 19; refine (pick_any sz 7 (by omega) (by omega) _).mono ?_; rintro e4 w4 ⟨rfl, h4⟩; replace h4 := h4.symm; subst h4)
  obtain ⟨w5, hw5⟩ : ∃ w5, w5 = w3.alloc (.cells #[.slice none 0 0] 26) := ⟨_, rfl⟩
  have HW5 := Lib.hid hw5
  have b5 : Below w3.heap.size w3 w5 := by rw [hw5]; exact Below.new (Below.refl _ _) _
  have fg5 : Fresh w5 w3.heap.size #[.slice none 0 0] 26 := by rw [hw5]; exact Fresh.new _ _ _ _ rfl
  have b05 : Below w0.heap.size w0 w5 := Below.step H2.out.2.2 (Below.step H3.out.1 b5)
  have H5 := Lib.hid (And.intro b05 (And.intro (H0.out.2.below b05) (And.intro (H3.out.2.below b5) (And.intro fg5 (H2.out.2.1.below (Below.step H3.out.1 b5))))))
  have hlen1 : l.length < 100000 := by have := HD.out.2.2.2; omega
  have HL1 := Lib.hid hlen1
  obtain ⟨bd0, hbd0⟩ : ∃ bd0 : ByteArray, bd0 = ⟨#[]⟩ := ⟨_, rfl⟩
  have HBD0 := Lib.hid hbd0
  clear hw5 b5 fg5 b05 hlen1 hbd0
  go_upto_region 6 with fail
  rw [← HW5.out]
  go_wp2_with fail
  go_loopw [7, 9, 10] (fun pv fv kv wr => ∃ c k : Nat, k ≤ c ∧ c ≤ l.length ∧ fv = .string (bdOf ⟨#[]⟩ (l.take c)) ∧ kv = .int .i64 k ∧ (∃ av cv, pv = .slice av c cv) ∧ wr.ownsRow w5.heap.size 34 2 pv (l.take c).length (flatP (l.take c)) ∧ Below w5.heap.size w5 wr) (fun pv fv kv wr => 51 - (intOf kv).toNat)
  case atStart => exact ⟨0, 0, Nat.le_refl _, Nat.zero_le _, rfl, rfl, ⟨_, _, rfl⟩, ⟨rfl, .inl ⟨rfl, rfl⟩⟩, Below.refl _ _⟩
  case round =>
    obtain ⟨c, k, hkc, hc, rfl, rfl, ⟨av, cv, rfl⟩, ho, hb⟩ := hrel
    have hl50 := HD.out.2.2.2
    obtain ⟨F, hF⟩ : ∃ F, (l.drop c).take n = F := ⟨_, rfl⟩
    obtain ⟨bd, hbd⟩ : ∃ bd, bdOf ⟨#[]⟩ (l.take c) = bd := ⟨_, rfl⟩
    have HF := wfrom_q (H5.out.2.2.2.2.below hb) HL1.out bd (n : Int) (by have := HN.out; omega)
    have hfr : frmP bd (n : Int) l = F := by
      unfold frmP
      rw [← hbd, from_pre H2.out.2.1.good.1 hc, ← hF]
      congr 1
      omega
    rw [hfr] at HF
    obtain ⟨nf, hnf⟩ : ∃ nf, F.length = nf := ⟨_, rfl⟩
    have hnf2 : nf ≤ n ∧ c + nf ≤ l.length ∧ (nf = 0 → c = l.length) := by
      have := HN.out
      rw [← hnf, ← hF, List.length_take, List.length_drop]
      omega
    rw [hbd]
    have hlc : (l.take c).length = c := by rw [List.length_take]; omega
    have HO := Lib.hid (And.intro ho (And.intro hb (And.intro hF (And.intro hnf (And.intro hbd (And.intro hc (And.intro hkc (And.intro hnf2 hlc))))))))
    replace HF := Lib.hid HF
    have ca := (H5.out.2.2.1.below hb).cell 0
    simp only [List.getElem?_toArray, List.getElem?_cons_zero] at ca
    have jk : (k : Int) ≤ 50 := by omega
    have jw : IntKind.i64.wrap ((k : Int) + 1) = (k : Int) + 1 := by rw [IntKind.wrap_i64]; omega
    have jn7 : ¬ (n : Int) < (nf : Int) := by omega
    have ARM : Hid (∀ e6 w6, (∃ v, e6 = Ending.returned v ∧ Below wr.heap.size wr w6 ∧ w6.ownsRow wr.heap.size 34 2 v F.length (flatP F)) → ∃ a6 k6 a7 k7 W7, e6 = .returned (.slice a6 nf k6) ∧ (∀ ty, (Builtin.append_ #[26, 26] ty #[.slice av c cv, .slice a6 nf k6]).run Try.prog w6 = .ok (.slice a7 (c + nf) k7) W7) ∧
        W7.ownsRow w5.heap.size 34 2 (.slice a7 (c + nf) k7) (l.take (c + nf)).length (flatP (l.take (c + nf))) ∧ Below w5.heap.size w5 W7 ∧ ∀ (j : Nat) (x : Pr), F[j]? = some x → ∃ b o, a6 = some ⟨b, o, none⟩ ∧ W7.cell? ⟨b, o + j * 2, none⟩ = some (.string x.1)) := by
      rintro e6 w6 ⟨v, rfl, hb6, ho6⟩
      obtain ⟨z1, z2, z3, z4, z5, z6, z7, z8, z9⟩ := HO.out
      obtain ⟨a6, k6, hv6⟩ := row_form ho6
      obtain ⟨v7, W7, r7, o7, g7⟩ := app_seg (row_keep z1 (fun k hk => hb6.block k (z1.lt k hk).2)) (Seg.of_row ho6) (Nat.le_trans z2.size hb6.size) (by have := HL1.out; rw [z9, z4]; omega)
      rw [take_page z3, z4] at o7
      rw [z4] at hv6
      subst hv6
      obtain ⟨a7, k7, hv7⟩ := row_form o7
      rw [show (l.take (c + nf)).length = c + nf from by rw [List.length_take]; omega] at hv7
      subst hv7
      refine ⟨a6, k6, a7, k7, W7, rfl, r7, o7, Below.grown2 (Below.step z2 hb6) g7 (fun r hr => (z1.lt r hr).1), ?_⟩
      obtain ⟨a8, c8, e8, h8⟩ := Holds.of_own ho6
      simp only [Value.slice.injEq] at e8
      intro j x hj
      obtain ⟨b, o, q1, q2, q3, q4⟩ := h8 j x hj
      rw [← e8.1] at q1
      have hob : (Value.slice a6 nf k6).ownBlock = some b := by
        rw [q1]
        rfl
      have hge := (ho6.lt b hob).1
      have hsame : W7.heap[b]? = w6.heap[b]? := g7.block b q2 (fun e => by
        have := (z1.lt b e.symm).2
        omega)
      exact ⟨b, o, q1, (cell_same hsame).trans q3⟩
    clear ho hb hF hnf hbd hc hkc hnf2 hlc hl50 hfr
    rcases Nat.eq_zero_or_pos nf with h0 | h0
    · subst h0
      go_upto_region 16 with (first
        | (go_at_call 20; refine HF.out.mono ?_; intro e6 w6 hq6; obtain ⟨a6, k6, a7, k7, W7, rfl, r7, o7, b7, h7⟩ := ARM.out e6 w6 hq6; have H7 := Lib.hid (And.intro o7 b7); clear hq6 o7 b7 h7)
        | (at_builtin; refine Lib.wpList_append_run _ rfl _ _ _ _ rfl _ _ rfl rfl _ _ (r7 _) ?_; clear r7))
      have hce : c = l.length := HO.out.2.2.2.2.2.2.2.1.2.2 trivial
      have o7 := H7.out.1
      rw [Nat.add_zero, show l.take c = l from by rw [hce, List.take_length]] at o7
      have b7 := H7.out.2
      have bV : Below w.heap.size w W7 := Below.step H0.out.1 (Below.step H5.out.1 b7)
      have hA7 := H5.out.2.2.2.2.below b7
      have fr7 := H5.out.2.1.below b7
      have fa7 := H5.out.2.2.1.below b7
      have fg7 := H5.out.2.2.2.1.below b7
      have hlt := H2.out.2.1.lt
      have z0 := H0.out.2.lt
      have z2 := H3.out.1.size
      have z3 := H2.out.2.2.size
      have z4 := fg7.lt
      have z5 := H3.out.2.lt
      have HG : Hid (w.heap.size < w3.heap.size ∧ w3.heap.size < W7.heap.size ∧ p ≠ w3.heap.size ∧ q ≠ w3.heap.size ∧ e ≠ w3.heap.size ∧ m ≠ w3.heap.size ∧ w2.heap.size ≠ w3.heap.size ∧ m < W7.heap.size ∧ w.heap.size ≤ W7.heap.size) := by
        show _ ∧ _
        omega
      have c7 := fa7.cell 0
      simp only [List.getElem?_toArray, List.getElem?_cons_zero] at c7
      have H7b := Lib.hid (And.intro o7 (And.intro bV (And.intro hA7 (And.intro fr7 (And.intro fa7 (And.intro fg7 hce))))))
      clear o7 bV hA7 fr7 fa7 fg7 hlt z0 z2 z3 z4 z5 b7 ca jk jw jn7 hce
      go_wp2_with (go_at_call 10; refine (goes_any p _ _).mono ?_; rintro e WL ⟨wg, hbg, rfl, hWL⟩; have HWL := Lib.hid (And.intro hbg hWL); clear hbg hWL)
      have BL : Below W7.heap.size W7 WL := by rw [HWL.out.2]; exact Below.new (Below.new HWL.out.1 _) _
      have fw : Fresh WL wg.heap.size #[.pointer (some ⟨p, 0, none⟩)] 74 := by rw [HWL.out.2]; exact (Fresh.new _ _ _ _ rfl).alloc _
      have ff : Fresh WL (wg.heap.size + 1) #[.string ⟨#[]⟩] 9 := by rw [HWL.out.2]; exact Fresh.new _ _ _ _ (by simp)
      have cw := fw.cell 0
      have cf := ff.cell 0
      simp only [List.getElem?_toArray, List.getElem?_cons_zero] at cw cf
      have hsz : W7.heap.size ≤ wg.heap.size ∧ wg.heap.size < WL.heap.size := ⟨HWL.out.1.size, fw.lt⟩
      have rel0 : GoR w W7 l p q e m w2.heap.size w3.heap.size wg.heap.size (.slice a7 c k7) 0 [] (.slice none 0 0) WL := by
        obtain ⟨k1, k2, k3, k4, k5, k6, k8⟩ := H7b.out
        have hg := HG.out
        exact ⟨Nat.zero_le _, rfl, k3.below BL, hg.2.2.2.2.2.2.2.1, hg.2.2.2.2.2.2.2.2, k4.below BL, k5.below BL, k6.below BL, ⟨rfl, .inl ⟨rfl, rfl⟩⟩, (Seg.of_row k1).below BL, fun k hk => (k1.lt k hk).2, fw, Below.step k2 BL⟩
      obtain ⟨S', hS'⟩ : ∃ S', S' = [WL.heap.size + 1, w3.heap.size] := ⟨_, rfl⟩
      have nS : ∀ k, k ≠ w3.heap.size ∧ k ≠ WL.heap.size + 1 → k ∉ S' := fun k h1 h2 => by
        rw [hS'] at h2
        simp at h2
        omega
      have HSRT := Lib.hid H2.out.2.1.good.1
      have HBY : WalkBy WL wg.heap.size p ⟨#[]⟩ (fun _ => l) (fun _ b => restN l b) (some w3.heap.size) (KR S' (some w3.heap.size)) (fun pre A => ∃ j vx, GoR w W7 l p q e m w2.heap.size w3.heap.size wg.heap.size (.slice a7 c k7) j pre vx A) := by
        have hg := HG.out
        refine ⟨fun _ => HL1.out, fun A B hk hc => hk.other hc (nS _ (by omega)) (by decide), fun pre A ⟨j, vx, h⟩ => ⟨q, e, m, h.art⟩, fun c hc => (by cases hc; omega), fun pre A c v g hc ⟨j, vx, h⟩ hcell hv => ?_, fun A B b cs hb hk hn hf => hk.pair hf (nS _ (by omega)) hn, fun i b z hz => restN_lt HSRT.out hz⟩
        cases hc
        rw [h.fg.cell 0] at hcell
        cases hcell
        exact (h.row.lt g hv).2
      have HBY := Lib.hid HBY
      have HNS := Lib.hid nS
      have HR0 := Lib.hid rel0
      have HSZ := Lib.hid hsz
      have hmx : Try.prog.follows .mixedOrders = true := by kernel_rfl
      clear nS rel0 BL ff hsz c7
      refine (wpIn_wide (n := 10)).1 ?_
      generalize hA0 : ({ tmps := _, defers := _ } : Act) = A0
      refine range_st rfl (by omega) (gf := 50) (lb := #[.pointer (some ⟨wg.heap.size, 0, none⟩), .pointer (some ⟨wg.heap.size + 1, 0, none⟩)]) (by rw [← hA0]; rfl) trivial (enters_of Try.func50 (by kernel_rfl) rfl)
        (walk_own (10 - 1) (by omega) wg.heap.size (wg.heap.size + 1) p ⟨#[]⟩ (fun _ => l) (fun _ b => restN l b) (some w3.heap.size) (KR S' (some w3.heap.size)) _ WL HBY.out fw cf)
        (fun h k => h.trans k) (fun Wc o hw => KR.put (by rw [hS']; exact List.mem_cons_self ..) (fun c hc => by cases hc; have := HG.out; have := HSZ.out; omega) o) (Below.refl _ _) (fun _ => rfl)
        (fun pre Wc => ∃ j vx, GoR w W7 l p q e m w2.heap.size w3.heap.size wg.heap.size (.slice a7 c k7) j pre vx Wc)
        (fun _ _ _ => False)
        (fun pre X Y row ⟨j, vx, h⟩ hg hr => ⟨j, vx, h.grown hg (fun r e => ⟨by have := (hr r e).1; have := HSZ.out; omega, (hr r e).2⟩)⟩)
        (fun c pre X Y row h hg hr => h)
        ⟨0, _, HR0.out⟩ (fun _ _ h => h)
        (fun x a' Wc => ∃ b, a' = { tmps := (A0.tmps.setIfInBounds 52 (pairV x)).setIfInBounds 12 (.pointer (some ⟨b, 0, none⟩)), defers := [] } ∧ Fresh Wc b (prV x) 34)
        (fun x a' _ X Y row h hg hr => ?_)
        ?assignment ?round1 ?done ?stop
      · obtain ⟨b, h1, h2⟩ := h
        exact ⟨b, h1, h2.kept hg (fun r e => (hr r e).2)⟩
      all_goals subst hA0
      case assignment =>
        rintro l' pre x Wc K' hG ⟨j, vx, hI⟩ hK'
        obtain ⟨W9, hW9⟩ : ∃ W9, W9 = Wc.alloc (.cells (prV x) 34) := ⟨_, rfl⟩
        have B9 : Below Wc.heap.size Wc W9 := by rw [hW9]; exact Below.new (Below.refl _ _) _
        have HK' := hK' _ W9 (KeepsFrom.of_turned (S := []) (Turned.of_below B9) (by simp)) ((KR.of_turned (S := []) (Turned.of_below B9) (fun c hc => ⟨by cases hc; exact hI.fg.lt, by simp⟩)).wide (by simp)) ⟨j, vx, hI.below B9⟩ ⟨Wc.heap.size, rfl, by rw [hW9]; exact Fresh.new _ _ _ _ rfl⟩
        rw [hW9] at HK'
        clear hK' hI hG B9 hW9
        simp only [List.setIfInBounds_toArray, List.set_cons_succ, List.set_cons_zero] at HK'
        replace HK' := Lib.hid HK'
        unfold pairV prV at *
        gi_wp2
        exact HK'.out
      case round1 =>
        rintro l' pre x a' W5 hG ⟨j, vx, hI5⟩ ⟨b, rfl, hb5⟩ hz
        simp only [List.setIfInBounds_toArray, List.set_cons_succ, List.set_cons_zero]
        obtain ⟨pre', z', hpz, hnx⟩ := hG
        obtain ⟨rfl, rfl⟩ : pre = pre' ∧ x = z' := by
          have := List.append_inj' hpz rfl
          exact ⟨this.1, by simpa using this.2⟩
        obtain ⟨xk, xv⟩ := x
        have hjx : l[j]? = some (xk, xv) := by
          have h1 := hnx
          rw [hI5.ini] at h1
          have h2 := next_pre (l := l) HSRT.out ⟨#[]⟩ (k := j) (by rw [from_empty]; exact hI5.le)
          rw [from_empty] at h2
          rw [h2] at h1
          exact h1
        have hjl := (List.getElem?_eq_some_iff.1 hjx).1
        have hpl : pre.length = j := by rw [hI5.ini, List.length_take]; omega
        obtain ⟨ax, kx, hvx⟩ := row_form hI5.row
        rw [hpl] at hvx
        subst hvx
        have hnth : nthP (j : Int) l = some (xk, xv) := by
          unfold nthP
          rw [if_pos (by omega)]
          simpa using hjx
        have HNT := nth_q hI5.art HL1.out (j : Int) (by have := HL1.out; omega)
        rw [hnth] at HNT
        unfold leastV at HNT
        replace HNT := Lib.hid HNT
        have ca := hI5.fa.cell 0
        have cg := hI5.fg.cell 0
        simp only [List.getElem?_toArray, List.getElem?_cons_zero] at ca cg
        have H5r := Lib.hid (And.intro hI5 (And.intro hb5 (And.intro hjx hpl)))
        clear hpz hnx hI5 hb5 hjx hpl hnth hjl
        gi_upto_region 19 with (refine ⟨trivial, ?_⟩; gi_at_call 22; refine (callsIn_round HNT.out).mono ?_; rintro e6 W6 ⟨rfl, hb6⟩; have H6 := Lib.hid hb6; clear hb6)
        obtain ⟨W8, hW8⟩ : ∃ W8, W8 = W6.alloc (.cells #[.string xk, .string xv] 34) := ⟨_, rfl⟩
        rw [← hW8]
        have b8 : Below W5.heap.size W5 W8 := by rw [hW8]; exact Below.new H6.out _
        have fx8 := H5r.out.2.1.below b8
        have fq8 : Fresh W8 W6.heap.size #[.string xk, .string xv] 34 := by rw [hW8]; exact Fresh.new _ _ _ _ rfl
        have fg8 := H5r.out.1.fg.below b8
        have x0 := fx8.cell 0
        have x1 := fx8.cell 1
        have q0 := fq8.cell 0
        have q1 := fq8.cell 1
        have cg := fg8.cell 0
        have tg := fg8.thawed 0
        unfold prV at x0 x1
        simp only [List.getElem?_toArray, List.getElem?_cons_zero, List.getElem?_cons_succ] at x0 x1 q0 q1 cg
        have jg : (j : Int) ≤ 50 := by have h1 := H5r.out.1.le; have := HD.out.2.2.2; omega
        have jg0 : ¬ (50 : Int) < (j : Int) := by omega
        have B9 := Below.new (Below.refl W8.heap.size W8) (.cells #[.string xk, .string xv] 34)
        have y8 := row_keep H5r.out.1.row fun k hk => b8.block k (H5r.out.1.row.lt k hk).2
        obtain ⟨v9, W9, r9, o9, g9, v9b⟩ := app_one (z := (xk, xv)) (row_keep y8 fun k hk => B9.block k (y8.lt k hk).2) (Fresh.new W8 W8.heap.size #[.string xk, .string xv] 34 rfl) (by have h1 := HSZ.out; have h3 := B9.size; have h4 := b8.size; omega) (by rw [H5r.out.2.2.2]; omega)
        have f9 := (fg8.below B9).grown g9 (fun e => absurd (fresh_ty fg8 (row_type y8 e.symm).choose_spec) (by decide))
        obtain ⟨a9, k9, hv9⟩ := row_form o9
        subst hv9
        have p0 := f9.cell 0
        have p1 := f9.thawed 0
        simp only [List.getElem?_toArray, List.getElem?_cons_zero] at p0
        obtain ⟨nj, hnj⟩ : ∃ nj, (pre ++ [(xk, xv)]).length = nj := ⟨_, rfl⟩
        rw [hnj] at r9
        have H9 := Lib.hid (And.intro (Below.step b8 B9) (And.intro o9 (And.intro g9 (And.intro v9b hnj))))
        clear hW8 b8 fx8 fq8 fg8 y8 B9 o9 g9 v9b jg ca f9 hnj
        gi_wp2_with (gi_at_builtin; refine wpListIn_append_by rfl _ _ _ rfl rfl rfl r9 ?_; clear r9)
        have hg := HG.out
        have hs := HSZ.out
        have hE := H5r.out.1.append H5r.out.2.2.1 H9.out.1 H9.out.2.2.1 H9.out.2.1 H9.out.2.2.2.1 (by omega)
        rw [H9.out.2.2.2.2] at hE
        exact ⟨hE.1.keeps (by simp; omega), hE.1.wide (by simp), j + 1, _, hE.2⟩
      case done =>
        rintro D xs W5 hD hS5 ⟨j, vx, hI5⟩ hK'
        have hjl : j = l.length := by
          have h1 := hS5
          rw [hI5.ini] at h1
          have h2 := next_pre (l := l) HSRT.out ⟨#[]⟩ (k := j) (by rw [from_empty]; exact hI5.le)
          rw [from_empty] at h2
          rw [h2] at h1
          have h3 := List.getElem?_eq_none_iff.1 h1
          have := hI5.le
          omega
        have hce := H7b.out.2.2.2.2.2.2
        have hxs : xs = l := by rw [hI5.ini, hjl, List.take_length]
        subst hxs
        obtain ⟨ax, kx, hvx⟩ := row_form hI5.row
        rw [← hce] at hvx
        subst hvx
        have HNT := nth_q hI5.art HL1.out (c : Int) (by have := HL1.out; omega)
        rw [show nthP (c : Int) xs = none from by unfold nthP; rw [if_pos (by omega)]; simp [hce]] at HNT
        unfold leastV at HNT
        replace HNT := Lib.hid HNT
        have ca := hI5.fa.cell 0
        have cg := hI5.fg.cell 0
        simp only [List.getElem?_toArray, List.getElem?_cons_zero] at ca cg
        have H5r := Lib.hid (And.intro hI5 hK')
        have HDD : Hid (w.heap.size < D) := by have := HG.out; have := HSZ.out; show _ < _; omega
        clear hS5 hI5 hK' hjl hce hD
        go_upto_region 23 with (go_at_call 22; refine HNT.out.mono ?_; rintro e6 W6 ⟨rfl, hb6⟩; have H6 := Lib.hid hb6; clear hb6)
        obtain ⟨W8, hW8⟩ : ∃ W8, W8 = W6.alloc (.cells #[.string ⟨#[]⟩, .string ⟨#[]⟩] 34) := ⟨_, rfl⟩
        rw [← hW8]
        obtain ⟨V, hV⟩ : ∃ V, V = W8.drew := ⟨_, rfl⟩
        have b8 : Below W5.heap.size W5 W8 := by rw [hW8]; exact Below.new H6.out _
        have bV : Below W5.heap.size W5 V := by rw [hV]; exact b8.drew
        have HV := Lib.hid (And.intro bV (H5r.out.1.below bV))
        have FR : Hid (∀ w', Below V.heap.size V w' → Fresh w' w.heap.size #[.bool false] 4 ∧ w'.heap[D]? = some (.deferred (some [])) ∧ Below w.heap.size w w') := by
          intro w' hb
          have hb5 := Below.step HV.out.1 hb
          refine ⟨HV.out.2.fr.below hb, ?_, Below.step HV.out.2.low hb⟩
          exact (hb5.block D (Array.getElem?_eq_some_iff.1 H5r.out.2).1).trans H5r.out.2
        have KS : Hid (∀ w', Below V.heap.size V w' → w'.cell? ⟨w3.heap.size, 0, none⟩ = some (.slice ax c kx) ∧ w'.cell? ⟨w2.heap.size, 0, none⟩ = some (.pointer (some ⟨p, 0, none⟩))) := fun w' hb => ⟨((HV.out.2.fg.below hb).cell 0).trans rfl, ((HV.out.2.fa.below hb).cell 0).trans rfl⟩
        have KT : Hid (∀ w', Below V.heap.size V w' → (w'.setCell ⟨w.heap.size, 0, none⟩ (.bool true)).cell? ⟨w3.heap.size, 0, none⟩ = some (.slice ax c kx) ∧ (w'.setCell ⟨w.heap.size, 0, none⟩ (.bool true)).cell? ⟨w2.heap.size, 0, none⟩ = some (.pointer (some ⟨p, 0, none⟩))) := fun w' hb => by
          have hg := HG.out
          have h1 := H0.out.2.lt
          have h2 := H2.out.2.2.size
          exact ⟨(((HV.out.2.fg.below hb).other (q := w.heap.size) (by omega) 0 (.bool true)).cell 0).trans rfl, (((HV.out.2.fa.below hb).other (q := w.heap.size) (by omega) 0 (.bool true)).cell 0).trans rfl⟩
        have SA : Hid (∀ w', Below V.heap.size V w' → Holds w' (.slice a7 c k7) xs) := fun w' hb => (HV.out.2.pg.below hb).holds
        have SG : Hid (∀ w', Below V.heap.size V w' → Holds w' (.slice ax c kx) xs) := fun w' hb => (Holds.of_own HV.out.2.row).below hb
        have AL := Lib.hid (fun w' (hb : Below V.heap.size V w') => pairs_any (HV.out.2.art.below hb) HL1.out)
        have hxl : Hid (xs.length < 1000000) := by have := HL1.out; show _ < _; omega
        have hsm : sameP xs xs = true := by simp [sameP]
        refine wp_region_at (S := fun w' => w'.cell? ⟨w3.heap.size, 0, none⟩ = some (.slice ax c kx) ∧ w'.cell? ⟨w2.heap.size, 0, none⟩ = some (.pointer (some ⟨p, 0, none⟩))) (by kernel_rfl) hV.symm (KS.out _ (Below.refl _ _)) (fun hHeld => ?_)
        clear hW8 hV b8 bV ca cg
        refine wpAnyH_take (i := 0) (oi := ?_) (v := ?_) ?_ (by kernel_rfl) (by kernel_rfl) (by kernel_rfl) ?_ (Or.inl ⟨?_, ?_⟩) (by assumption) ?_
        rotate_left 2
        · simp only [List.getElem?_toArray, List.getElem?_cons_zero] <;> rfl
        · exact fun _ _ _ h => h
        · rfl
        · (intro w hSw; (try dsimp only at hSw); go_simp; try (with_reducible rfl))
        try simp only [Act.put, List.setIfInBounds_toArray, List.set_cons_zero, List.set_cons_succ]
        refine wpAnyH_take (i := 1) (oi := ?_) (v := ?_) ?_ (by kernel_rfl) (by kernel_rfl) (by kernel_rfl) ?_ (Or.inl ⟨?_, ?_⟩) (by assumption) ?_
        rotate_left 2
        · simp only [List.getElem?_toArray, List.getElem?_cons_succ, List.getElem?_cons_zero] <;> rfl
        · exact fun _ _ _ h => h
        · rfl
        · (intro w hSw; (try dsimp only at hSw); go_simp; try (with_reducible rfl))
        try simp only [Act.put, List.setIfInBounds_toArray, List.set_cons_zero, List.set_cons_succ]
        refine wpAnyH_take (i := 2) (oi := ?_) (v := ?_) ?_ (by kernel_rfl) (by kernel_rfl) (by kernel_rfl) ?_ (Or.inl ⟨?_, ?_⟩) (by assumption) ?_
        rotate_left 2
        · simp only [List.getElem?_toArray, List.getElem?_cons_succ, List.getElem?_cons_zero] <;> rfl
        · exact fun _ _ _ h => h
        · rfl
        · (intro w hSw; (try dsimp only at hSw); go_simp; try (with_reducible rfl))
        try simp only [Act.put, List.setIfInBounds_toArray, List.set_cons_zero, List.set_cons_succ]
        refine wpAnyH_take (i := 3) (oi := ?_) (v := ?_) ?_ (by kernel_rfl) (by kernel_rfl) (by kernel_rfl) ?_ (Or.inl ⟨?_, ?_⟩) (by assumption) ?_
        rotate_left 2
        · simp only [List.getElem?_toArray, List.getElem?_cons_succ, List.getElem?_cons_zero] <;> rfl
        · exact fun _ _ _ h => h
        · rfl
        · (intro w hSw; (try dsimp only at hSw); go_simp; try (with_reducible rfl))
        try simp only [Act.put, List.setIfInBounds_toArray, List.set_cons_zero, List.set_cons_succ]
        refine wpAnyH_take (i := 4) (oi := ?_) (v := ?_) ?_ (by kernel_rfl) (by kernel_rfl) (by kernel_rfl) ?_ (Or.inl ⟨?_, ?_⟩) (by assumption) ?_
        rotate_left 2
        · simp only [List.getElem?_toArray, List.getElem?_cons_succ, List.getElem?_cons_zero] <;> rfl
        · exact fun _ _ _ h => h
        · rfl
        · (intro w hSw; (try dsimp only at hSw); go_simp; try (with_reducible rfl))
        try simp only [Act.put, List.setIfInBounds_toArray, List.set_cons_zero, List.set_cons_succ]
        refine wpAnyH_ready (rs := [5]) (by kernel_rfl) (by simp) ?_
        refine AllReadyH.cons (o := _) (by simp only [List.getElem?_toArray, List.getElem?_cons_succ, List.getElem?_cons_zero] <;> rfl) (fun K hK => ?_) ?_
        · go_simp
          with_reducible refine (same_any (la := xs) (lb := xs) (SA.out _ (Below.refl _ _)) (SG.out _ (Below.refl _ _)) hxl.out hxl.out).mono ?_
          rw [hsm]
          rintro e5 w5 ⟨rfl, hb5⟩
          have HB5 := Lib.hid hb5
          clear hb5
          go_wp2_with fail
          refine hK.out _ _ ?_ (fun hHeld => ?_)
          · (try dsimp only)
            exact KS.out _ HB5.out
          clear hK K
          try simp only [Act.put, List.setIfInBounds_toArray, List.set_cons_zero, List.set_cons_succ]
          refine wpAnyH_take (i := 6) (oi := ?_) (v := ?_) ?_ (by kernel_rfl) (by kernel_rfl) (by kernel_rfl) ?_ (Or.inl ⟨?_, ?_⟩) (by assumption) ?_
          rotate_left 2
          · simp only [List.getElem?_toArray, List.getElem?_cons_succ, List.getElem?_cons_zero] <;> rfl
          · exact fun _ _ _ h => h
          · rfl
          · (intro w hSw; (try dsimp only at hSw); go_simp; try (with_reducible rfl))
          try simp only [Act.put, List.setIfInBounds_toArray, List.set_cons_zero, List.set_cons_succ]
          refine wpAnyH_take (i := 7) (oi := ?_) (v := ?_) ?_ (by kernel_rfl) (by kernel_rfl) (by kernel_rfl) ?_ (Or.inl ⟨?_, ?_⟩) (by assumption) ?_
          rotate_left 2
          · simp only [List.getElem?_toArray, List.getElem?_cons_succ, List.getElem?_cons_zero] <;> rfl
          · exact fun _ _ _ h => h
          · rfl
          · (intro w hSw; (try dsimp only at hSw); go_simp; try (with_reducible rfl))
          try simp only [Act.put, List.setIfInBounds_toArray, List.set_cons_zero, List.set_cons_succ]
          refine wpAnyH_take (i := 8) (oi := ?_) (v := ?_) ?_ (by kernel_rfl) (by kernel_rfl) (by kernel_rfl) ?_ (Or.inl ⟨?_, ?_⟩) (by assumption) ?_
          rotate_left 2
          · simp only [List.getElem?_toArray, List.getElem?_cons_succ, List.getElem?_cons_zero] <;> rfl
          · exact fun _ _ _ h => h
          · rfl
          · (intro w hSw; (try dsimp only at hSw); go_simp; try (with_reducible rfl))
          try simp only [Act.put, List.setIfInBounds_toArray, List.set_cons_zero, List.set_cons_succ]
          refine wpAnyH_take (i := 9) (oi := ?_) (v := ?_) ?_ (by kernel_rfl) (by kernel_rfl) (by kernel_rfl) ?_ (Or.inl ⟨?_, ?_⟩) (by assumption) ?_
          rotate_left 2
          · simp only [List.getElem?_toArray, List.getElem?_cons_succ, List.getElem?_cons_zero] <;> rfl
          · exact fun _ _ _ h => h
          · rfl
          · (intro w hSw; (try dsimp only at hSw); go_simp; try (with_reducible rfl))
          try simp only [Act.put, List.setIfInBounds_toArray, List.set_cons_zero, List.set_cons_succ]
          refine wpAnyH_ready (rs := [10]) (by kernel_rfl) (by simp) ?_
          refine AllReadyH.cons (o := _) (by simp only [List.getElem?_toArray, List.getElem?_cons_succ, List.getElem?_cons_zero] <;> rfl) (fun K hK => ?_) ?_
          · go_simp
            with_reducible refine (AL.out _ HB5.out).mono ?_
            rintro e10 w10 ⟨v10, rfl, hb10, ho10⟩
            obtain ⟨a10, k10, rfl⟩ := row_form ho10
            have HB10 := Lib.hid hb10
            have HO10 := Lib.hid ho10
            clear hb10 ho10
            go_wp2_with fail
            refine hK.out _ _ ?_ (fun hHeld => ?_)
            · (try dsimp only)
              exact KS.out _ (Below.step HB5.out HB10.out)
            clear hK K
            try simp only [Act.put, List.setIfInBounds_toArray, List.set_cons_zero, List.set_cons_succ]
            refine wpAnyH_ready (rs := [11]) (by kernel_rfl) (by simp) ?_
            refine AllReadyH.cons (o := _) (by simp only [List.getElem?_toArray, List.getElem?_cons_succ, List.getElem?_cons_zero] <;> rfl) (fun K hK => ?_) ?_
            · go_simp
              with_reducible refine (same_any (la := xs) (lb := xs) (SG.out _ (Below.step HB5.out HB10.out)) ((Holds.of_own HO10.out).below (Below.refl _ _)) hxl.out hxl.out).mono ?_
              rw [hsm]
              rintro e11 w11 ⟨rfl, hb11⟩
              have HB11 := Lib.hid hb11
              clear hb11
              have r0 := (FR.out _ (Below.step (Below.step HB5.out HB10.out) HB11.out)).1.cell 0
              have r1 := (FR.out _ (Below.step (Below.step HB5.out HB10.out) HB11.out)).1.thawed 0
              simp only [List.getElem?_toArray, List.getElem?_cons_zero] at r0
              go_wp2_with fail
              refine hK.out _ _ ?_ (fun hHeld => ?_)
              · (try dsimp only)
                exact KS.out _ (Below.step (Below.step HB5.out HB10.out) HB11.out)
              clear hK K
              try simp only [Act.put, List.setIfInBounds_toArray, List.set_cons_zero, List.set_cons_succ]
              refine wpAnyH_take (i := 12) (oi := ?_) (v := ?_) ?_ (by kernel_rfl) (by kernel_rfl) (by kernel_rfl) ?_ (Or.inl ⟨?_, ?_⟩) (by assumption) ?_
              rotate_left 2
              · simp only [List.getElem?_toArray, List.getElem?_cons_succ, List.getElem?_cons_zero] <;> rfl
              · exact fun _ _ _ h => h
              · rfl
              · (intro w hSw; (try dsimp only at hSw); go_simp; try (with_reducible rfl))
              try simp only [Act.put, List.setIfInBounds_toArray, List.set_cons_zero, List.set_cons_succ]
              refine wpAnyH_ready (rs := [13]) (by kernel_rfl) (by simp) ?_
              refine AllReadyH.cons (o := _) (by simp only [List.getElem?_toArray, List.getElem?_cons_succ, List.getElem?_cons_zero] <;> rfl) (fun K hK => ?_) ?_
              · go_simp
                refine hK.out _ _ ?_ (fun hHeld => ?_)
                · (try dsimp only)
                  exact KT.out _ (Below.step (Below.step HB5.out HB10.out) HB11.out)
                clear hK K
                try simp only [Act.put, List.setIfInBounds_toArray, List.set_cons_zero, List.set_cons_succ]
                refine wpAnyH_done (by kernel_rfl) ?_ _
                go_wp2_with fail
                obtain ⟨s1, s2, s3⟩ := FR.out _ (Below.step (Below.step HB5.out HB10.out) HB11.out)
                exact pg_end (w := w) rfl rfl (s1.set 0 (.bool true)) (Turned.below (S := [w.heap.size]) s3 ((Turned.refl _ _).setCell (.inl (by simp)) _ _) (by simp) s3.size) ((Below.heap_setCell w11 ⟨w.heap.size, 0, none⟩ _ D (fun e => by have := HDD.out; simp at e; omega)).trans s2) HDD.out
              exact AllReadyH.nil
            exact AllReadyH.nil
          exact AllReadyH.nil
        exact AllReadyH.nil
      case stop =>
        rintro D c pre W5 hD hS2 h hK'
        exact h.elim
    · obtain ⟨m2, rfl⟩ : ∃ m2, nf = m2 + 1 := ⟨nf - 1, by omega⟩
      obtain ⟨⟨zk, zv⟩, hz⟩ : ∃ z, F[m2]? = some z := ⟨_, List.getElem?_eq_getElem (by have := HO.out.2.2.2.1; omega)⟩
      have hzl : (zk, zv) ∈ l := by
        have h1 := List.mem_of_getElem? hz
        rw [← HO.out.2.2.1] at h1
        exact List.mem_of_mem_drop (List.mem_of_mem_take h1)
      have hzs := Lib.hid (CodeP.size (H2.out.2.1.good.2 _ hzl).1)
      have HZ := Lib.hid hz
      have HBD := Lib.hid (bd_page HO.out.2.2.1 hz)
      have jm : wrap64 (m2 : Int) = (m2 : Int) := by have h1 := HO.out.2.2.2.2.2.2.2.1; have h2 := HN.out; unfold wrap64; omega
      have jm0 : (0 : Int) ≤ (m2 : Int) := by omega
      have jmm : (m2 : Int) < (m2 : Int) + 1 := by omega
      clear hz hzl h0
      go_wp2_with (first
        | (go_at_call 20; refine HF.out.mono ?_; intro e6 w6 hq6; obtain ⟨a6, k6, a7, k7, W7, rfl, r7, o7, b7, h7⟩ := ARM.out e6 w6 hq6; obtain ⟨b, o, rfl, d0⟩ := h7 m2 _ HZ.out; dsimp only at d0; have H7 := Lib.hid (And.intro o7 b7); clear hq6 o7 b7 h7)
        | (at_builtin; refine Lib.wpList_append_run _ rfl _ _ _ _ rfl _ _ rfl rfl _ _ (r7 _) ?_; clear r7)
        | (go_at_call 21; refine (after_any zk (by have := hzs.out; omega) _).mono ?_; rintro e9 w9 ⟨rfl, h9⟩; replace h9 := h9.symm; subst h9))
      go_roundw
      case rel =>
        have h := HO.out
        refine ⟨c + (m2 + 1), k + 1, by omega, h.2.2.2.2.2.2.2.1.2.1, ?_, by simp, ⟨_, _, rfl⟩, H7.out.1, H7.out.2⟩
        rw [HBD.out]
      case measure => simp [intOf]; omega
theorem pg_walk (ao : Option Addr) (len cap : Nat) (sz : Int) (w : World) {P1 : Prop} (hd : IsDeeds w ao len) (_ : P1) :
    Calls Try.prog 5 #[.slice ao len cap, .int .i64 sz] w fun e w' => e = .returned (.bool true) ∧ Below w.heap.size w w' := by
  obtain ⟨ds, hD⟩ := hd.has
  exact pg_in ao len cap hd.1 sz w ds hD
end Go.Proofs.Ytfffifmpfkkgbaa
