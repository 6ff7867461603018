/- Nth. -/
import Derived.Test.YtfffifmpfkkgbaaCount
namespace Go.Proofs.Ytfffifmpfkkgbaa
open Go.RowKit Go.Shelf
attribute [local go_sem] Oper.semAt_some
set_option maxRecDepth 1000000
set_option maxHeartbeats 4000000

theorem from_empty (l : List Pr) : fromP ⟨#[]⟩ l = l := by
  unfold fromP
  have : atK ⟨#[]⟩ (keys l) = 0 := by
    cases l with
    | nil => rfl
    | cons z l =>
      rw [show keys (z :: l) = z.1 :: keys l from rfl, atK_cons, if_neg]
      cases h : z.1.data.toList <;> simp [kl, bl, Op.bytesLess, h]
  rw [this, List.drop_zero]
def nthP (n : Int) (l : List Pr) : Option Pr := if 0 ≤ n then l[n.toNat]? else none
structure NthR (W : World) (l : List Pr) (p q e m : Nat) (n : Int) (j : Nat) (pre : List Pr) (bw : Nat) (A : World) : Prop where
  le : j ≤ l.length
  ini : pre = l.take j
  les : (j : Int) ≤ n
  art : ArtAt A p q e m l
  f0 : Fresh A W.heap.size #[.string ⟨#[]⟩, .string ⟨#[]⟩] 34
  f1 : Fresh A (W.heap.size + 1) #[.bool false] 4
  f2 : Fresh A (W.heap.size + 2) #[.int .i64 (n - (j : Int))] 3
  fw : Fresh A bw #[.pointer (some ⟨p, 0, none⟩)] 74
  low : Below W.heap.size W A
structure NthX (W : World) (z : Pr) (A : World) : Prop where
  f0 : Fresh A W.heap.size #[.string z.1, .string z.2] 34
  f1 : Fresh A (W.heap.size + 1) #[.bool true] 4
  low : Below W.heap.size W A
theorem Below.grownLow {W X Y : World} {row : Option Nat} (h : Below W.heap.size W X) (hg : X.grownBy Y row) (hr : ∀ r, row = some r → W.heap.size ≤ r) : Below W.heap.size W Y := Below.grown2 h hg hr
theorem Fresh.putObj {W : World} {p D : Nat} {cs : Array Value} {t : TypeId} (h : Fresh W p cs t) (hn : p ≠ D) (o : Obj) : Fresh (W.putObj D o) p cs t := (World.putObj_heap_other hn).trans h
theorem nth_end {W W7 : World} {F : Fence} {n : Nat} {a : Act} {D : Nat} {k y : ByteArray} {r : Bool} {R : Ending → World → Prop} (hd : a.defers = [{ target := .collected D, args := #[] }]) (h4 : a.tmps[4]? = some (.pointer (some ⟨W.heap.size, 0, none⟩))) (h5 : a.tmps[5]? = some (.pointer (some ⟨W.heap.size + 1, 0, none⟩)))
    (f0 : Fresh W7 W.heap.size #[.string k, .string y] 34) (f1 : Fresh W7 (W.heap.size + 1) #[.bool r] 4) (hb : Below W.heap.size W W7) (hD : W7.heap[D]? = some (.deferred (some []))) (hlt : W.heap.size + 1 < D) (hR : ∀ w, Below W.heap.size W w → R (.returned (.tuple #[.agg #[.string k, .string y], .bool r])) w) :
    calmQ (bodyPostM F n Try.prog Try.f22 R) .ret a W7 := by
  have g0 := f0.putObj (D := D) (by omega) (.deferred none)
  have g1 := f1.putObj (D := D) (by omega) (.deferred none)
  have q0 := g0.cell 0
  have q1 := g0.cell 1
  have q2 := g1.cell 0
  simp only [List.getElem?_toArray, List.getElem?_cons_zero, List.getElem?_cons_succ] at q0 q1 q2
  have e4 : a.tmps.getD 4 undef = .pointer (some ⟨W.heap.size, 0, none⟩) := by simp [Array.getD_eq_getD_getElem?, h4]
  have e5 : a.tmps.getD 5 undef = .pointer (some ⟨W.heap.size + 1, 0, none⟩) := by simp [Array.getD_eq_getD_getElem?, h5]
  refine calm_ret1 hd hD (v := .tuple #[.agg #[.string k, .string y], .bool r]) ?_ (hR _ ?_)
  · simp [results, Try.results22, go_sem, h4, h5, e4, e5, q0, q1, q2]
  · exact Turned.below (S := [D]) hb (Turned.put (by simp) _) (by simp; omega) hb.size
theorem nth_q {W : World} {p q e m : Nat} {l : List Pr} (hA : ArtAt W p q e m l) (hlen : l.length < 100000) (n : Int) (hn : -9223372036854775808 ≤ n ∧ n ≤ 9223372036854775807) :
    Calls Try.prog 22 #[.pointer (some ⟨p, 0, none⟩), .int .i64 n] W fun e B => e = .returned (leastV (nthP n l)) ∧ Below W.heap.size W B := by
  obtain ⟨W1, hW1⟩ : ∃ W1, W1 = (W.alloc (.cells #[.string ⟨#[]⟩, .string ⟨#[]⟩] 34)).alloc (.cells #[.bool false] 4) := ⟨_, rfl⟩
  have b1 : Below W.heap.size W W1 := by rw [hW1]; exact Below.new (Below.new (Below.refl _ _) _) _
  have f0 : Fresh W1 W.heap.size #[.string ⟨#[]⟩, .string ⟨#[]⟩] 34 := by rw [hW1]; exact (Fresh.new _ _ _ _ rfl).alloc _
  have f1 : Fresh W1 (W.heap.size + 1) #[.bool false] 4 := by rw [hW1]; exact Fresh.new _ _ _ _ (by simp)
  have s1 : W1.heap.size = W.heap.size + 2 := by rw [hW1]; simp
  have HW1 := Lib.hid hW1
  have H1 := Lib.hid (And.intro b1 (And.intro f0 (And.intro f1 (And.intro s1 (hA.below b1)))))
  have HA := Lib.hid (And.intro hA hlen)
  have t0 := f0.thawed 0
  have t1 := f0.thawed 1
  have t2 := f1.thawed 0
  have x0 := f0.cell 0
  have x1 := f0.cell 1
  have x2 := f1.cell 0
  simp only [List.getElem?_toArray, List.getElem?_cons_zero, List.getElem?_cons_succ] at x0 x1 x2
  clear hA hlen hW1 b1 f0 f1 s1
  by_cases h0 : n < 0
  · have hnth : nthP n l = none := by unfold nthP; rw [if_neg (by omega)]
    rw [hnth]
    unfold leastV
    clear hnth hn
    go_enter Try.func22, Try.ntmps22
    go_upto_region 1 with fail
    rw [← HW1.out]
    go_wp2_with fail
    have q0 := ((H1.out.2.1.set 0 (.string ⟨#[]⟩)).set 1 (.string ⟨#[]⟩)).other (q := W.heap.size + 1) (by omega) 0 (.bool false)
    have q1 := ((H1.out.2.2.1.other (q := W.heap.size) (by omega) 0 (.string ⟨#[]⟩)).other (q := W.heap.size) (by omega) 1 (.string ⟨#[]⟩)).set 0 (.bool false)
    have r0 := q0.cell 0
    have r1 := q0.cell 1
    have r2 := q1.cell 0
    simp at r0 r1 r2
    refine bodyPost_ret (v := .tuple #[.agg #[.string ⟨#[]⟩, .string ⟨#[]⟩], .bool false]) (by simp [results, Try.results22, go_sem, r0, r1, r2]) rfl ?_
    exact ⟨rfl, Turned.below (S := [W.heap.size, W.heap.size + 1]) H1.out.1 ((((Turned.refl _ _).setCell (.inl (by simp)) _ _).setCell (.inl (by simp)) _ _).setCell (.inl (by simp)) _ _) (by simp) H1.out.1.size⟩
  · have h0' : 0 ≤ n := by omega
    refine (callsIn_wide (n := 10)).1 ?_
    refine callsIn_of_wp_marks Try.func22 rfl trivial ?_ rfl
    simp only [Try.ntmps22, List.size_toArray, List.length_cons, List.length_nil, Nat.reduceAdd, Nat.reduceSub, Array.replicate_succ, Array.replicate_zero, List.push_toArray, List.append_toArray, List.nil_append, List.cons_append]
    refine wpIn_wide.2 ?_
    refine wp_mono (Q := calmQ _) ?_ calmQ_out
    go_upto_region 1 with fail
    rw [← HW1.out]
    go_upto_region 4 with fail
    obtain ⟨W2, hW2⟩ : ∃ W2, W2 = W1.alloc (.cells #[.int .i64 n] 3) := ⟨_, rfl⟩
    rw [← hW2]
    have b2 : Below W1.heap.size W1 W2 := by rw [hW2]; exact Below.new (Below.refl _ _) _
    have f2 : Fresh W2 (W.heap.size + 2) #[.int .i64 n] 3 := by rw [hW2]; exact Fresh.new _ _ _ _ H1.out.2.2.2.1
    have H2 := Lib.hid (And.intro b2 f2)
    clear hW2 b2 f2
    go_wp2_with (go_at_call 10; refine (goes_any p _ _).mono ?_; rintro e WL ⟨wg, hbg, rfl, hWL⟩; have HWL := Lib.hid (And.intro hbg hWL); clear hbg hWL)
    have BL : Below W2.heap.size W2 WL := by rw [HWL.out.2]; exact Below.new (Below.new HWL.out.1 _) _
    have fw : Fresh WL wg.heap.size #[.pointer (some ⟨p, 0, none⟩)] 74 := by rw [HWL.out.2]; exact (Fresh.new _ _ _ _ rfl).alloc _
    have ff : Fresh WL (wg.heap.size + 1) #[.string ⟨#[]⟩] 9 := by rw [HWL.out.2]; exact Fresh.new _ _ _ _ (by simp)
    have cw := fw.cell 0
    have cf := ff.cell 0
    simp only [List.getElem?_toArray, List.getElem?_cons_zero] at cw cf
    have BA := Below.step H1.out.1 (Below.step H2.out.1 BL)
    have hsz : W.heap.size + 3 ≤ wg.heap.size ∧ wg.heap.size < WL.heap.size := by
      have h1 := H2.out.2.lt
      have h2 := HWL.out.1.size
      exact ⟨by omega, fw.lt⟩
    have rel0 : NthR W l p q e m n 0 [] wg.heap.size WL :=
      ⟨Nat.zero_le _, rfl, by simpa using h0', HA.out.1.below BA, (H1.out.2.1.below H2.out.1).below BL, (H1.out.2.2.1.below H2.out.1).below BL, by simpa using H2.out.2.below BL, fw, BA⟩
    obtain ⟨S', hS'⟩ : ∃ S', S' = [WL.heap.size + 1, W.heap.size, W.heap.size + 1, W.heap.size + 2] := ⟨_, rfl⟩
    have nS : ∀ k, k < W.heap.size ∨ (W.heap.size + 3 ≤ k ∧ k ≠ WL.heap.size + 1) → k ∉ S' := fun k h1 h2 => by
      rw [hS'] at h2
      simp at h2
      omega
    have hlt := HA.out.1.lt
    have HSRT := Lib.hid HA.out.1.good.1
    have HBY : WalkBy WL wg.heap.size p ⟨#[]⟩ (fun _ => l) (fun _ b => restN l b) none (KR S' none) (fun pre A => ∃ j, NthR W l p q e m n j pre wg.heap.size A) :=
      ⟨fun _ => HA.out.2, fun A B hk hc => hk.other hc (nS _ (.inr (by omega))) (by decide), fun pre A ⟨j, h⟩ => ⟨q, e, m, h.art⟩, fun c hc => (by cases hc), fun pre A c v g hc h => (by cases hc), fun A B b cs hb hk hn hf => hk.pair hf (nS _ (.inr (by omega))) hn, fun i b z hz => restN_lt HSRT.out hz⟩
    have HBY := Lib.hid HBY
    have HNS := Lib.hid nS
    have HR0 := Lib.hid rel0
    have HSZ := Lib.hid (And.intro hsz hlt)
    have hmx : Try.prog.follows .mixedOrders = true := by kernel_rfl
    clear nS rel0 BA BL ff hsz hlt x0 x1 x2 t0 t1 t2
    refine (wpIn_wide (n := 10)).1 ?_
    generalize hA0 : ({ tmps := _, defers := _ } : Act) = A0
    refine range_st rfl (by omega) (gf := 50) (lb := #[.pointer (some ⟨wg.heap.size, 0, none⟩), .pointer (some ⟨wg.heap.size + 1, 0, none⟩)]) (by rw [← hA0]; rfl) trivial (enters_of Try.func50 (by kernel_rfl) rfl)
      (walk_own (10 - 1) (by omega) wg.heap.size (wg.heap.size + 1) p ⟨#[]⟩ (fun _ => l) (fun _ b => restN l b) none (KR S' none) _ WL HBY.out fw cf)
      (fun h k => h.trans k) (fun Wc o hw => KR.put (by rw [hS']; exact List.mem_cons_self ..) (fun c hc => by cases hc) o) (Below.refl _ _) (fun _ => rfl)
      (fun pre Wc => ∃ j, NthR W l p q e m n j pre wg.heap.size Wc)
      (fun c pre Wc => c = .ret ∧ ∃ z, nthP n l = some z ∧ NthX W z Wc)
      (fun pre X Y row ⟨j, h⟩ hg hr => ?_)
      (fun c pre X Y row ⟨h1, z, h2, h3⟩ hg hr => ⟨h1, z, h2, h3.f0.kept hg (fun r e => (hr r e).2), h3.f1.kept hg (fun r e => (hr r e).2), Below.grownLow h3.low hg (fun r e => by have := (hr r e).1; have := HSZ.out; omega)⟩)
      ⟨0, HR0.out⟩ (fun _ _ h => h)
      (fun x a' Wc => ∃ b, a' = { tmps := (A0.tmps.setIfInBounds 14 (pairV x)).setIfInBounds 7 (.pointer (some ⟨b, 0, none⟩)), defers := [] } ∧ Fresh Wc b (prV x) 34 ∧ wg.heap.size < b)
      (fun x a' _ X Y row h hg hr => ?_)
      ?assignment ?round ?done ?stop
    · obtain ⟨v, hv⟩ := h.art.st
      have hk := fun r e => (hr r e).2
      refine ⟨j, h.le, h.ini, h.les, ⟨h.art.ptr.kept hg hk, v, hv.kept hg hk (fun e => by have := (hr m e).1; have := HSZ.out; omega)⟩, h.f0.kept hg hk, h.f1.kept hg hk, h.f2.kept hg hk, h.fw.kept hg hk, Below.grownLow h.low hg (fun r e => by have := (hr r e).1; have := HSZ.out; omega)⟩
    · obtain ⟨b, h1, h2, h3⟩ := h
      exact ⟨b, h1, h2.kept hg (fun r e => (hr r e).2), h3⟩
    all_goals subst hA0
    case assignment =>
      rintro l' pre x Wc K' hG ⟨j, hI⟩ hK'
      obtain ⟨W9, hW9⟩ : ∃ W9, W9 = Wc.alloc (.cells (prV x) 34) := ⟨_, rfl⟩
      have B9 : Below Wc.heap.size Wc W9 := by rw [hW9]; exact Below.new (Below.refl _ _) _
      have r9 : NthR W l p q e m n j pre wg.heap.size W9 := ⟨hI.le, hI.ini, hI.les, hI.art.below B9, hI.f0.below B9, hI.f1.below B9, hI.f2.below B9, hI.fw.below B9, Below.step hI.low B9⟩
      have HK' := hK' _ W9 (KeepsFrom.of_turned (S := []) (Turned.of_below B9) (by simp)) ((KR.of_turned0 (Turned.of_below B9))) ⟨j, r9⟩ ⟨Wc.heap.size, rfl, by rw [hW9]; exact Fresh.new _ _ _ _ rfl, hI.fw.lt⟩
      rw [hW9] at HK'
      clear hK' hI hG B9 r9 hW9
      simp only [List.setIfInBounds_toArray, List.set_cons_succ, List.set_cons_zero] at HK'
      replace HK' := Lib.hid HK'
      unfold pairV prV at *
      gi_wp2
      exact HK'.out
    case round =>
      rintro l' pre x a' W5 hG ⟨j, hI5⟩ ⟨b, rfl, hb5, hbw⟩ hz
      simp only [List.setIfInBounds_toArray, List.set_cons_succ, List.set_cons_zero]
      rw [H1.out.2.2.2.1]
      obtain ⟨pre', z', hpz, hnx⟩ := hG
      obtain ⟨rfl, rfl⟩ : pre = pre' ∧ x = z' := by
        have := List.append_inj' hpz rfl
        exact ⟨this.1, by simpa using this.2⟩
      obtain ⟨xk, xv⟩ := x
      have hjx : l[j]? = some (xk, xv) := by
        have h1 := hnx
        rw [hI5.ini] at h1
        have h2 := next_pre (l := l) HSRT.out ⟨#[]⟩ (k := j) (by rw [from_empty]; exact hI5.le)
        rw [from_empty] at h2
        rw [h2] at h1
        exact h1
      have hjl := (List.getElem?_eq_some_iff.1 hjx).1
      have htk : l.take (j + 1) = pre ++ [(xk, xv)] := by
        rw [List.take_succ_eq_append_getElem hjl, hI5.ini]
        obtain ⟨_, e⟩ := List.getElem?_eq_some_iff.1 hjx
        rw [e]
      have d0 := hb5.cell 0
      have d1 := hb5.cell 1
      have e0 := hI5.f2.cell 0
      have e1 := hI5.f2.thawed 0
      have y0 := hI5.f0.thawed 0
      have y1 := hI5.f0.thawed 1
      have y2 := hI5.f1.thawed 0
      have w0 := hI5.f0.cell 0
      have w1 := hI5.f0.cell 1
      have w2 := hI5.f1.cell 0
      unfold prV at d0 d1
      simp only [List.getElem?_toArray, List.getElem?_cons_zero, List.getElem?_cons_succ] at d0 d1 e0 w0 w1 w2
      have H5 := Lib.hid (And.intro hI5 (And.intro hjx (And.intro htk hjl)))
      have hles := hI5.les
      obtain ⟨r, hr⟩ : ∃ r, n - (j : Int) = r := ⟨_, rfl⟩
      rw [hr] at e0
      have HRR := Lib.hid hr
      have hr0 : 0 ≤ r := by omega
      have hn2 := hn.2
      have hr2 : r ≤ 9223372036854775807 := by omega
      clear hpz hnx hI5 hb5 hjx htk hjl hr hles hbw
      by_cases hz0 : r = 0
      · have hq : (r == 0) = true := by rw [hz0]; rfl
        have HZ := Lib.hid hz0
        clear hz0 hr0 hr2
        gi_wp2
        obtain ⟨k1, k2, k3, k4⟩ := H5.out
        have hT := ((((Turned.refl [W.heap.size, W.heap.size + 1] W5).setCell (p := W.heap.size) (.inl (by simp)) 0 (.string xk)).setCell (p := W.heap.size) (.inl (by simp)) 1 (.string xv)).setCell (p := W.heap.size + 1) (.inl (by simp)) 0 (.bool true))
        have hsz := HSZ.out
        refine ⟨KeepsFrom.of_turned hT (by simp; omega), (KR.of_turned0 hT).wide (by rw [hS']; simp), rfl, (xk, xv), ?_, ⟨((k1.f0.set 0 (.string xk)).set 1 (.string xv)).other (q := W.heap.size + 1) (by omega) 0 (.bool true), ((k1.f1.other (q := W.heap.size) (by omega) 0 (.string xk)).other (q := W.heap.size) (by omega) 1 (.string xv)).set 0 (.bool true), Turned.below (S := [W.heap.size, W.heap.size + 1]) k1.low hT (by simp) k1.low.size⟩⟩
        have hnj : n = (j : Int) := by have := HRR.out; have := HZ.out; omega
        unfold nthP
        rw [if_pos h0', hnj]
        exact k2
      · have hq : (r == 0) = false := by rw [beq_eq_false_iff_ne]; exact hz0
        have HZ := Lib.hid (And.intro hz0 hr0)
        have hwr : IntKind.i64.wrap (r - 1) = r - 1 := by rw [IntKind.wrap_i64]; omega
        clear hz0 hr0 hr2
        gi_wp2
        obtain ⟨k1, k2, k3, k4⟩ := H5.out
        have hT := ((Turned.refl [W.heap.size + 2] W5).setCell (p := W.heap.size + 2) (.inl (by simp)) 0 (.int .i64 (r - 1)))
        have hsz := HSZ.out
        have hz := HZ.out
        have hrr := HRR.out
        have hnS : ∀ k, k ≠ W.heap.size + 2 → k ∉ [W.heap.size + 2] := fun k h => by simpa using h
        refine ⟨KeepsFrom.of_turned hT (by simp; omega), (KR.of_turned0 hT).wide (by rw [hS']; simp), j + 1, k4, k3.symm, by omega, k1.art.kr (KR.of_turned0 hT) (hnS _ (by omega)) (hnS _ (by omega)) (hnS _ (by omega)) (hnS _ (by omega)), hT.other k1.f0 (hnS _ (by omega)), hT.other k1.f1 (hnS _ (by omega)), ?_, hT.other k1.fw (hnS _ (by omega)), Turned.below (S := [W.heap.size + 2]) k1.low hT (by simp) k1.low.size⟩
        have := k1.f2.set 0 (.int .i64 (r - 1))
        have e : n - ((j + 1 : Nat) : Int) = r - 1 := by omega
        rw [e]
        exact this
    case done =>
      rintro D xs W5 hD hS5 ⟨j, hI5⟩ hK'
      have y0 := hI5.f0.thawed 0
      have y1 := hI5.f0.thawed 1
      have y2 := hI5.f1.thawed 0
      have w0 := hI5.f0.cell 0
      have w1 := hI5.f0.cell 1
      have w2 := hI5.f1.cell 0
      simp only [List.getElem?_toArray, List.getElem?_cons_zero, List.getElem?_cons_succ] at w0 w1 w2
      have hnone : nthP n l = none := by
        have h1 := hS5
        rw [hI5.ini] at h1
        have h2 := next_pre (l := l) HSRT.out ⟨#[]⟩ (k := j) (by rw [from_empty]; exact hI5.le)
        rw [from_empty] at h2
        rw [h2] at h1
        have h3 := List.getElem?_eq_none_iff.1 h1
        have := hI5.les
        unfold nthP
        rw [if_pos h0', List.getElem?_eq_none_iff]
        omega
      have HK' := Lib.hid hK'
      have H5 := Lib.hid (And.intro hI5 hnone)
      clear hI5 hnone hS5 hK'
      go_wp2
      obtain ⟨k1, k2⟩ := H5.out
      have hsz := HSZ.out
      rw [k2]
      have hT := ((((Turned.refl [W.heap.size, W.heap.size + 1] W5).setCell (p := W.heap.size) (.inl (by simp)) 0 (.string ⟨#[]⟩)).setCell (p := W.heap.size) (.inl (by simp)) 1 (.string ⟨#[]⟩)).setCell (p := W.heap.size + 1) (.inl (by simp)) 0 (.bool false))
      refine nth_end (W := W) rfl rfl rfl (((k1.f0.set 0 (.string ⟨#[]⟩)).set 1 (.string ⟨#[]⟩)).other (q := W.heap.size + 1) (by omega) 0 (.bool false)) (((k1.f1.other (q := W.heap.size) (by omega) 0 (.string ⟨#[]⟩)).other (q := W.heap.size) (by omega) 1 (.string ⟨#[]⟩)).set 0 (.bool false)) (Turned.below (S := [W.heap.size, W.heap.size + 1]) k1.low hT (by simp) k1.low.size) ?_ (by omega) (fun w hb => ⟨rfl, hb⟩)
      exact (hT.block D (Array.getElem?_eq_some_iff.1 HK'.out).1 (by simp; omega)).trans HK'.out
    case stop =>
      rintro D c pre W5 hD hS2 ⟨rfl, z, hz, hX⟩ hK'
      have hsz := HSZ.out
      have HNZ := Lib.hid hz
      refine wpIn_wide.2 ?_
      have HK' := Lib.hid hK'
      have HX := Lib.hid (And.intro hX hD)
      clear hK' hX hS2 hz hD
      go_wp2
      exact nth_end (W := W) rfl rfl rfl HX.out.1.f0 HX.out.1.f1 HX.out.1.low HK'.out (by have := HX.out.2; omega) (fun w hb => ⟨by rw [HNZ.out]; rfl, hb⟩)
end Go.Proofs.Ytfffifmpfkkgbaa
