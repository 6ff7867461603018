/- The reference model of a slab: Get, Set, Free. -/
import Derived.Test.YtbbadkgmnfjfaaaRefM
namespace Go.Proofs.Ytbbadkgmnfjfaaa
open Go.RowKit
set_option maxRecDepth 100000
set_option maxHeartbeats 4000000

theorem pc_setx (l : List Ce) (i : Nat) (t : Ce) (v : Value) (h : l[i]? = some t) : pc (l.set i { t with x := v }) = (pc l).set (i * 3 + 1) v := by
  induction l generalizing i with
  | nil => simp at h
  | cons a l ih =>
    cases i with
    | zero => simp at h; subst h; rfl
    | succ i =>
      have := ih i (by simpa using h)
      rw [List.set_cons_succ, show pc (a :: l.set i { t with x := v }) = [.bool a.t, a.x, .int .u32 a.u] ++ pc (l.set i { t with x := v }) from rfl, this, show pc (a :: l) = [.bool a.t, a.x, .int .u32 a.u] ++ pc l from rfl, show (i + 1) * 3 + 1 = i * 3 + 1 + 3 from by omega]
      rfl
theorem RAt.setx {W : World} {r gr : Nat} {l : List Ce} (h : RAt W r gr l) (i : Nat) (t : Ce) (ht : l[i]? = some t) (v : Value) : RAt (W.setCell ⟨gr, i * 3 + 1, none⟩ v) r gr (l.set i { t with x := v }) := by
  refine ⟨?_, ?_⟩
  · have := h.hr.other h.ne (i * 3 + 1) v
    simpa using this
  · have := h.hg.set (i * 3 + 1) v
    rw [pc_setx l i t v ht]
    rw [List.setIfInBounds_toArray] at this
    exact this
theorem RAt.put3 {W : World} {r gr : Nat} {l : List Ce} (h : RAt W r gr l) (i : Nat) (hi : i < l.length) (t : Ce) : RAt (((W.setCell ⟨gr, i * 3, none⟩ (.bool t.t)).setCell ⟨gr, i * 3 + 1, none⟩ t.x).setCell ⟨gr, i * 3 + 2, none⟩ (.int .u32 t.u)) r gr (l.set i t) := by
  refine ⟨?_, ?_⟩
  · have := ((h.hr.other h.ne (i * 3) (.bool t.t)).other h.ne (i * 3 + 1) t.x).other h.ne (i * 3 + 2) (.int .u32 t.u)
    simpa using this
  · have := ((h.hg.set (i * 3) (.bool t.t)).set (i * 3 + 1) t.x).set (i * 3 + 2) (.int .u32 t.u)
    rw [pc_set l i t hi]
    rw [List.setIfInBounds_toArray, List.setIfInBounds_toArray, List.setIfInBounds_toArray] at this
    exact this
theorem rget_none {W : World} {r gr : Nat} {s : Sb} (h : RAt W r gr s.l) (x k : Int) (hl : liveAt s x k = none) :
    Calls Try.prog 26 #[.pointer (some ⟨r, 0, none⟩), refV x k] W fun e w' => e = .returned (.tuple #[.int .i64 0, .bool false]) ∧ Below W.heap.size W w' := by
  obtain ⟨W1, hb⟩ := h.boxed x k
  have HX := Lib.hid hb
  have HW := Lib.hid hb.is
  have HA := lives_any (s := s) hb.at' x k
  simp only [hl, Option.isSome_none] at HA
  have HA := Lib.hid HA
  obtain ⟨r0, r1⟩ := hb.ref
  clear h hb hl
  go_enter Try.func26, Try.ntmps26
  go_upto_region 1 with fail
  rw [← HW.out]
  go_wp2_with fail
  refine HA.out.mono ?_
  rintro e w2 ⟨rfl, hb2⟩
  have H2 := Lib.hid hb2
  clear hb2 r0 r1
  go_wp2_with fail
  go_ret2
  exact ⟨rfl, Below.step HX.out.low H2.out⟩
theorem rget_some {W : World} {r gr : Nat} {s : Sb} (h : RAt W r gr s.l) (x k : Int) (i : Nat) (t : Ce) (hl : liveAt s x k = some i) (ht : s.l[i]? = some t) :
    Calls Try.prog 26 #[.pointer (some ⟨r, 0, none⟩), refV x k] W fun e w' => e = .returned (.tuple #[t.x, .bool true]) ∧ Below W.heap.size W w' := by
  obtain ⟨rfl, t', ht', _, _⟩ := live_some hl
  obtain ⟨W1, hb⟩ := h.boxed i k
  have HX := Lib.hid hb
  have HW := Lib.hid hb.is
  have HA := lives_any (s := s) hb.at' i k
  simp only [hl, Option.isSome_some] at HA
  have HA := Lib.hid HA
  have HT := Lib.hid ht
  have HS := Lib.hid hl
  obtain ⟨r0, r1⟩ := hb.ref
  have hi := (List.getElem?_eq_some_iff.1 ht).1
  obtain ⟨n, hn⟩ : ∃ n : Nat, s.l.length = n := ⟨_, rfl⟩
  rw [hn] at hi
  have HN := Lib.hid hn
  clear h hb hl ht ht' hn
  go_enter Try.func26, Try.ntmps26
  go_upto_region 1 with fail
  rw [← HW.out]
  go_wp2_with fail
  refine HA.out.mono ?_
  rintro e w2 ⟨rfl, hb2⟩
  have H2 := Lib.hid hb2
  have c0 := (HX.out.at'.below hb2).hr.cell 0
  simp only [List.getElem?_toArray, List.getElem?_cons_zero] at c0
  rw [HN.out] at c0
  obtain ⟨e0, e1, e2⟩ := (HX.out.at'.below hb2).one i t HT.out
  have r0 := (HX.out.box.below hb2).cell 0
  have r1 := (HX.out.box.below hb2).cell 1
  simp only [List.getElem?_toArray, List.getElem?_cons_zero, List.getElem?_cons_succ] at r0 r1
  have z0 := (HX.out.at'.below hb2).hg.thawed (i * 3)
  have z1 := (HX.out.at'.below hb2).hg.thawed (i * 3 + 1)
  have z2 := (HX.out.at'.below hb2).hg.thawed (i * 3 + 2)
  clear hb2
  have q3 : (0 : Int) ≤ (i : Int) := Int.natCast_nonneg _
  have q4 : (i : Int) < (n : Int) := by omega
  have q5 : decide (i < n) = true := decide_eq_true hi
  go_upto_region 3 with fail
  refine (wpIn_wide (n := 0)).1 ?_
  refine region_mix [0, 1, 2, 4, 6, 7, 9, 10] [0, 1, 3, 7, 0, 16, 63, 127, 255, 511, 1023] [0, 1, 2, 4, 3, 5, 6, 7, 8, 9, 10] (by kernel_rfl) rfl (by kernel_rfl) ?_
  refine mix_pure (v := ?_) (by simp only [List.getElem?_toArray, List.getElem?_cons_zero] <;> rfl) (by kernel_rfl) ⟨Or.inl ⟨by kernel_rfl, ?_⟩, fun _ => (by rfl)⟩ ?_; rotate_left 1; focus (intro w; go_simp; try with_reducible rfl)
  simp only [Act.put, List.setIfInBounds_toArray, List.set_cons_zero, List.set_cons_succ]
  refine mix_pure (v := ?_) (by simp only [List.getElem?_toArray, List.getElem?_cons_succ, List.getElem?_cons_zero] <;> rfl) (by kernel_rfl) ⟨Or.inl ⟨by kernel_rfl, ?_⟩, fun _ => (by rfl)⟩ ?_; rotate_left 1; focus (intro w; go_simp; try with_reducible rfl)
  simp only [Act.put, List.setIfInBounds_toArray, List.set_cons_zero, List.set_cons_succ]
  refine mix_pure (v := ?_) (by simp only [List.getElem?_toArray, List.getElem?_cons_succ, List.getElem?_cons_zero] <;> rfl) (by kernel_rfl) ⟨Or.inl ⟨by kernel_rfl, ?_⟩, fun _ => (by rfl)⟩ ?_; rotate_left 1; focus (intro w; go_simp; try with_reducible rfl)
  simp only [Act.put, List.setIfInBounds_toArray, List.set_cons_zero, List.set_cons_succ]
  refine mix_pure (v := ?_) (by simp only [List.getElem?_toArray, List.getElem?_cons_succ, List.getElem?_cons_zero] <;> rfl) (by kernel_rfl) ⟨Or.inl ⟨by kernel_rfl, ?_⟩, fun _ => (by rfl)⟩ ?_; rotate_left 1; focus (intro w; go_simp; try with_reducible rfl)
  simp only [Act.put, List.setIfInBounds_toArray, List.set_cons_zero, List.set_cons_succ]
  refine mix_step (by simp only [List.getElem?_toArray, List.getElem?_cons_succ, List.getElem?_cons_zero] <;> rfl) (by kernel_rfl) (fun K hK => ?_)
  go_simp
  refine hK _ _ ?_
  clear hK K
  refine mix_step (by simp only [List.getElem?_toArray, List.getElem?_cons_succ, List.getElem?_cons_zero] <;> rfl) (by kernel_rfl) (fun K hK => ?_)
  go_simp
  refine hK _ _ ?_
  clear hK K
  refine mix_pure (v := ?_) (by simp only [List.getElem?_toArray, List.getElem?_cons_succ, List.getElem?_cons_zero] <;> rfl) (by kernel_rfl) ⟨Or.inl ⟨by kernel_rfl, ?_⟩, fun _ => (by rfl)⟩ ?_; rotate_left 1; focus (intro w; go_simp; try with_reducible rfl)
  simp only [Act.put, List.setIfInBounds_toArray, List.set_cons_zero, List.set_cons_succ]
  refine mix_pure (v := ?_) (by simp only [List.getElem?_toArray, List.getElem?_cons_succ, List.getElem?_cons_zero] <;> rfl) (by kernel_rfl) ⟨Or.inl ⟨by kernel_rfl, ?_⟩, fun _ => (by rfl)⟩ ?_; rotate_left 1; focus (intro w; go_simp; try with_reducible rfl)
  simp only [Act.put, List.setIfInBounds_toArray, List.set_cons_zero, List.set_cons_succ]
  refine mix_step (by simp only [List.getElem?_toArray, List.getElem?_cons_succ, List.getElem?_cons_zero] <;> rfl) (by kernel_rfl) (fun K hK => ?_)
  go_simp
  refine hK _ _ ?_
  clear hK K
  refine mix_pure (v := ?_) (by simp only [List.getElem?_toArray, List.getElem?_cons_succ, List.getElem?_cons_zero] <;> rfl) (by kernel_rfl) ⟨Or.inl ⟨by kernel_rfl, ?_⟩, fun _ => (by rfl)⟩ ?_; rotate_left 1; focus (intro w; go_simp; try with_reducible rfl)
  simp only [Act.put, List.setIfInBounds_toArray, List.set_cons_zero, List.set_cons_succ]
  refine mix_pure (v := ?_) (by simp only [List.getElem?_toArray, List.getElem?_cons_succ, List.getElem?_cons_zero] <;> rfl) (by kernel_rfl) ⟨Or.inl ⟨by kernel_rfl, ?_⟩, fun _ => (by rfl)⟩ ?_; rotate_left 1; focus (intro w; go_simp; try with_reducible rfl)
  simp only [Act.put, List.setIfInBounds_toArray, List.set_cons_zero, List.set_cons_succ]
  refine mix_end ?_
  go_wp2_with fail
  go_ret2
  exact ⟨rfl, (Below.step HX.out.low H2.out).drew⟩
theorem rset_none {W : World} {r gr : Nat} {s : Sb} (h : RAt W r gr s.l) (x k : Int) (y : Int) (hl : liveAt s x k = none) :
    Calls Try.prog 28 #[.pointer (some ⟨r, 0, none⟩), refV x k, .int .i64 y] W fun e w' => e = .returned (.int .i64 5) ∧ Below W.heap.size W w' := by
  obtain ⟨W1, hb⟩ := h.boxed x k
  have HX := Lib.hid hb
  have HW := Lib.hid hb.is
  have HA := lives_any (s := s) hb.at' x k
  simp only [hl, Option.isSome_none] at HA
  have HA := Lib.hid HA
  obtain ⟨r0, r1⟩ := hb.ref
  clear h hb hl
  go_enter Try.func28, Try.ntmps28
  go_upto_region 1 with fail
  rw [← HW.out]
  go_wp2_with fail
  refine HA.out.mono ?_
  rintro e w2 ⟨rfl, hb2⟩
  have H2 := Lib.hid hb2
  clear hb2 r0 r1
  go_wp2_with fail
  go_ret
  exact ⟨rfl, Below.step HX.out.low H2.out⟩
theorem rset_some {W : World} {r gr : Nat} {s : Sb} (h : RAt W r gr s.l) (x k : Int) (y : Int) (i : Nat) (t : Ce) (hl : liveAt s x k = some i) (ht : s.l[i]? = some t) :
    Calls Try.prog 28 #[.pointer (some ⟨r, 0, none⟩), refV x k, .int .i64 y] W fun e w' => e = .returned (.int .i64 0) ∧ Turned [gr] W w' ∧ RAt w' r gr (s.l.set i { t with x := .int .i64 y }) := by
  obtain ⟨rfl, t', ht', _, _⟩ := live_some hl
  obtain ⟨W1, hb⟩ := h.boxed i k
  have HX := Lib.hid hb
  have HW := Lib.hid hb.is
  have HA := lives_any (s := s) hb.at' i k
  simp only [hl, Option.isSome_some] at HA
  have HA := Lib.hid HA
  have HT := Lib.hid ht
  have HS := Lib.hid hl
  obtain ⟨r0, r1⟩ := hb.ref
  have hi := (List.getElem?_eq_some_iff.1 ht).1
  obtain ⟨n, hn⟩ : ∃ n : Nat, s.l.length = n := ⟨_, rfl⟩
  rw [hn] at hi
  have HN := Lib.hid hn
  clear h hb hl ht ht' hn
  go_enter Try.func28, Try.ntmps28
  go_upto_region 1 with fail
  rw [← HW.out]
  go_wp2_with fail
  refine HA.out.mono ?_
  rintro e w2 ⟨rfl, hb2⟩
  have H2 := Lib.hid hb2
  have c0 := (HX.out.at'.below hb2).hr.cell 0
  simp only [List.getElem?_toArray, List.getElem?_cons_zero] at c0
  rw [HN.out] at c0
  obtain ⟨e0, e1, e2⟩ := (HX.out.at'.below hb2).one i t HT.out
  have r0 := (HX.out.box.below hb2).cell 0
  have r1 := (HX.out.box.below hb2).cell 1
  simp only [List.getElem?_toArray, List.getElem?_cons_zero, List.getElem?_cons_succ] at r0 r1
  have z0 := (HX.out.at'.below hb2).hg.thawed (i * 3)
  have z1 := (HX.out.at'.below hb2).hg.thawed (i * 3 + 1)
  have z2 := (HX.out.at'.below hb2).hg.thawed (i * 3 + 2)
  clear hb2
  have q3 : (0 : Int) ≤ (i : Int) := Int.natCast_nonneg _
  have q4 : (i : Int) < (n : Int) := by omega
  have q5 : decide (i < n) = true := decide_eq_true hi
  go_upto_region 3 with fail
  refine (wpIn_wide (n := 0)).1 ?_
  refine region_mix [0, 1, 2, 4, 6, 7, 8] [0, 1, 3, 7, 0, 16, 0, 127, 255, 511] [0, 1, 2, 4, 6, 3, 5, 7, 8, 9] (by kernel_rfl) rfl (by kernel_rfl) ?_
  refine mix_pure (v := ?_) (by simp only [List.getElem?_toArray, List.getElem?_cons_zero] <;> rfl) (by kernel_rfl) ⟨Or.inl ⟨by kernel_rfl, ?_⟩, fun _ => (by rfl)⟩ ?_; rotate_left 1; focus (intro w; go_simp; try with_reducible rfl)
  simp only [Act.put, List.setIfInBounds_toArray, List.set_cons_zero, List.set_cons_succ]
  refine mix_pure (v := ?_) (by simp only [List.getElem?_toArray, List.getElem?_cons_succ, List.getElem?_cons_zero] <;> rfl) (by kernel_rfl) ⟨Or.inl ⟨by kernel_rfl, ?_⟩, fun _ => (by rfl)⟩ ?_; rotate_left 1; focus (intro w; go_simp; try with_reducible rfl)
  simp only [Act.put, List.setIfInBounds_toArray, List.set_cons_zero, List.set_cons_succ]
  refine mix_pure (v := ?_) (by simp only [List.getElem?_toArray, List.getElem?_cons_succ, List.getElem?_cons_zero] <;> rfl) (by kernel_rfl) ⟨Or.inl ⟨by kernel_rfl, ?_⟩, fun _ => (by rfl)⟩ ?_; rotate_left 1; focus (intro w; go_simp; try with_reducible rfl)
  simp only [Act.put, List.setIfInBounds_toArray, List.set_cons_zero, List.set_cons_succ]
  refine mix_pure (v := ?_) (by simp only [List.getElem?_toArray, List.getElem?_cons_succ, List.getElem?_cons_zero] <;> rfl) (by kernel_rfl) ⟨Or.inl ⟨by kernel_rfl, ?_⟩, fun _ => (by rfl)⟩ ?_; rotate_left 1; focus (intro w; go_simp; try with_reducible rfl)
  simp only [Act.put, List.setIfInBounds_toArray, List.set_cons_zero, List.set_cons_succ]
  refine mix_pure (v := ?_) (by simp only [List.getElem?_toArray, List.getElem?_cons_succ, List.getElem?_cons_zero] <;> rfl) (by kernel_rfl) ⟨Or.inl ⟨by kernel_rfl, ?_⟩, fun _ => (by rfl)⟩ ?_; rotate_left 1; focus (intro w; go_simp; try with_reducible rfl)
  simp only [Act.put, List.setIfInBounds_toArray, List.set_cons_zero, List.set_cons_succ]
  refine mix_step (by simp only [List.getElem?_toArray, List.getElem?_cons_succ, List.getElem?_cons_zero] <;> rfl) (by kernel_rfl) (fun K hK => ?_)
  go_simp
  refine hK _ _ ?_
  clear hK K
  refine mix_step (by simp only [List.getElem?_toArray, List.getElem?_cons_succ, List.getElem?_cons_zero] <;> rfl) (by kernel_rfl) (fun K hK => ?_)
  go_simp
  refine hK _ _ ?_
  clear hK K
  refine mix_pure (v := ?_) (by simp only [List.getElem?_toArray, List.getElem?_cons_succ, List.getElem?_cons_zero] <;> rfl) (by kernel_rfl) ⟨Or.inl ⟨by kernel_rfl, ?_⟩, fun _ => (by rfl)⟩ ?_; rotate_left 1; focus (intro w; go_simp; try with_reducible rfl)
  simp only [Act.put, List.setIfInBounds_toArray, List.set_cons_zero, List.set_cons_succ]
  refine mix_pure (v := ?_) (by simp only [List.getElem?_toArray, List.getElem?_cons_succ, List.getElem?_cons_zero] <;> rfl) (by kernel_rfl) ⟨Or.inl ⟨by kernel_rfl, ?_⟩, fun _ => (by rfl)⟩ ?_; rotate_left 1; focus (intro w; go_simp; try with_reducible rfl)
  simp only [Act.put, List.setIfInBounds_toArray, List.set_cons_zero, List.set_cons_succ]
  refine mix_step (by simp only [List.getElem?_toArray, List.getElem?_cons_succ, List.getElem?_cons_zero] <;> rfl) (by kernel_rfl) (fun K hK => ?_)
  go_simp
  refine hK _ _ ?_
  clear hK K
  refine mix_end ?_
  go_wp2_with fail
  go_ret
  exact ⟨rfl, (Turned.of_below (Below.step HX.out.low H2.out)).drew.setCell (.inl (by simp)) _ _, (HX.out.at'.below H2.out).drew.setx i t HT.out _⟩
theorem rfree_none {W : World} {r gr : Nat} {s : Sb} (h : RAt W r gr s.l) (x k : Int) (hl : liveAt s x k = none) :
    Calls Try.prog 27 #[.pointer (some ⟨r, 0, none⟩), refV x k] W fun e w' => e = .returned (.int .i64 5) ∧ Below W.heap.size W w' := by
  obtain ⟨W1, hb⟩ := h.boxed x k
  have HX := Lib.hid hb
  have HW := Lib.hid hb.is
  have HA := lives_any (s := s) hb.at' x k
  simp only [hl, Option.isSome_none] at HA
  have HA := Lib.hid HA
  obtain ⟨r0, r1⟩ := hb.ref
  clear h hb hl
  go_enter Try.func27, Try.ntmps27
  go_upto_region 1 with fail
  rw [← HW.out]
  go_wp2_with fail
  refine HA.out.mono ?_
  rintro e w2 ⟨rfl, hb2⟩
  have H2 := Lib.hid hb2
  clear hb2 r0 r1
  go_wp2_with fail
  go_ret
  exact ⟨rfl, Below.step HX.out.low H2.out⟩
theorem rfree_some {W : World} {r gr : Nat} {s : Sb} (h : RAt W r gr s.l) (x k : Int) (i : Nat) (t : Ce) (hl : liveAt s x k = some i) (ht : s.l[i]? = some t) :
    Calls Try.prog 27 #[.pointer (some ⟨r, 0, none⟩), refV x k] W fun e w' => e = .returned (.int .i64 0) ∧ Turned [gr] W w' ∧ RAt w' r gr (s.l.set i ⟨.int .i64 0, k, false⟩) := by
  obtain ⟨rfl, t', ht', _, _⟩ := live_some hl
  obtain ⟨W1, hb⟩ := h.boxed i k
  have HX := Lib.hid hb
  have HW := Lib.hid hb.is
  have HA := lives_any (s := s) hb.at' i k
  simp only [hl, Option.isSome_some] at HA
  have HA := Lib.hid HA
  have HT := Lib.hid ht
  have HS := Lib.hid hl
  obtain ⟨r0, r1⟩ := hb.ref
  have hi := (List.getElem?_eq_some_iff.1 ht).1
  obtain ⟨n, hn⟩ : ∃ n : Nat, s.l.length = n := ⟨_, rfl⟩
  rw [hn] at hi
  have HN := Lib.hid hn
  clear h hb hl ht ht' hn
  go_enter Try.func27, Try.ntmps27
  go_upto_region 1 with fail
  rw [← HW.out]
  go_wp2_with fail
  refine HA.out.mono ?_
  rintro e w2 ⟨rfl, hb2⟩
  have H2 := Lib.hid hb2
  have c0 := (HX.out.at'.below hb2).hr.cell 0
  simp only [List.getElem?_toArray, List.getElem?_cons_zero] at c0
  rw [HN.out] at c0
  obtain ⟨e0, e1, e2⟩ := (HX.out.at'.below hb2).one i t HT.out
  have r0 := (HX.out.box.below hb2).cell 0
  have r1 := (HX.out.box.below hb2).cell 1
  simp only [List.getElem?_toArray, List.getElem?_cons_zero, List.getElem?_cons_succ] at r0 r1
  have z0 := (HX.out.at'.below hb2).hg.thawed (i * 3)
  have z1 := (HX.out.at'.below hb2).hg.thawed (i * 3 + 1)
  have z2 := (HX.out.at'.below hb2).hg.thawed (i * 3 + 2)
  clear hb2
  have q3 : (0 : Int) ≤ (i : Int) := Int.natCast_nonneg _
  have q4 : (i : Int) < (n : Int) := by omega
  have q5 : decide (i < n) = true := decide_eq_true hi
  go_upto_region 3 with fail
  refine (wpIn_wide (n := 0)).1 ?_
  refine region_mix [0, 1, 2, 4, 6, 8, 9] [0, 1, 3, 7, 0, 16, 0, 64, 192, 511, 1023] [0, 1, 2, 4, 6, 3, 5, 7, 8, 9, 10] (by kernel_rfl) rfl (by kernel_rfl) ?_
  refine mix_pure (v := ?_) (by simp only [List.getElem?_toArray, List.getElem?_cons_zero] <;> rfl) (by kernel_rfl) ⟨Or.inl ⟨by kernel_rfl, ?_⟩, fun _ => (by rfl)⟩ ?_; rotate_left 1; focus (intro w; go_simp; try with_reducible rfl)
  simp only [Act.put, List.setIfInBounds_toArray, List.set_cons_zero, List.set_cons_succ]
  refine mix_pure (v := ?_) (by simp only [List.getElem?_toArray, List.getElem?_cons_succ, List.getElem?_cons_zero] <;> rfl) (by kernel_rfl) ⟨Or.inl ⟨by kernel_rfl, ?_⟩, fun _ => (by rfl)⟩ ?_; rotate_left 1; focus (intro w; go_simp; try with_reducible rfl)
  simp only [Act.put, List.setIfInBounds_toArray, List.set_cons_zero, List.set_cons_succ]
  refine mix_pure (v := ?_) (by simp only [List.getElem?_toArray, List.getElem?_cons_succ, List.getElem?_cons_zero] <;> rfl) (by kernel_rfl) ⟨Or.inl ⟨by kernel_rfl, ?_⟩, fun _ => (by rfl)⟩ ?_; rotate_left 1; focus (intro w; go_simp; try with_reducible rfl)
  simp only [Act.put, List.setIfInBounds_toArray, List.set_cons_zero, List.set_cons_succ]
  refine mix_pure (v := ?_) (by simp only [List.getElem?_toArray, List.getElem?_cons_succ, List.getElem?_cons_zero] <;> rfl) (by kernel_rfl) ⟨Or.inl ⟨by kernel_rfl, ?_⟩, fun _ => (by rfl)⟩ ?_; rotate_left 1; focus (intro w; go_simp; try with_reducible rfl)
  simp only [Act.put, List.setIfInBounds_toArray, List.set_cons_zero, List.set_cons_succ]
  refine mix_pure (v := ?_) (by simp only [List.getElem?_toArray, List.getElem?_cons_succ, List.getElem?_cons_zero] <;> rfl) (by kernel_rfl) ⟨Or.inl ⟨by kernel_rfl, ?_⟩, fun _ => (by rfl)⟩ ?_; rotate_left 1; focus (intro w; go_simp; try with_reducible rfl)
  simp only [Act.put, List.setIfInBounds_toArray, List.set_cons_zero, List.set_cons_succ]
  refine mix_step (by simp only [List.getElem?_toArray, List.getElem?_cons_succ, List.getElem?_cons_zero] <;> rfl) (by kernel_rfl) (fun K hK => ?_)
  go_simp
  refine hK _ _ ?_
  clear hK K
  refine mix_step (by simp only [List.getElem?_toArray, List.getElem?_cons_succ, List.getElem?_cons_zero] <;> rfl) (by kernel_rfl) (fun K hK => ?_)
  go_simp
  refine hK _ _ ?_
  clear hK K
  refine mix_step (by simp only [List.getElem?_toArray, List.getElem?_cons_succ, List.getElem?_cons_zero] <;> rfl) (by kernel_rfl) (fun K hK => ?_)
  go_simp
  refine hK _ _ ?_
  clear hK K
  refine mix_pure (v := ?_) (by simp only [List.getElem?_toArray, List.getElem?_cons_succ, List.getElem?_cons_zero] <;> rfl) (by kernel_rfl) ⟨Or.inl ⟨by kernel_rfl, ?_⟩, fun _ => (by rfl)⟩ ?_; rotate_left 1; focus (intro w; go_simp; try with_reducible rfl)
  simp only [Act.put, List.setIfInBounds_toArray, List.set_cons_zero, List.set_cons_succ]
  refine mix_pure (v := ?_) (by simp only [List.getElem?_toArray, List.getElem?_cons_succ, List.getElem?_cons_zero] <;> rfl) (by kernel_rfl) ⟨Or.inl ⟨by kernel_rfl, ?_⟩, fun _ => (by rfl)⟩ ?_; rotate_left 1; focus (intro w; go_simp; try with_reducible rfl)
  simp only [Act.put, List.setIfInBounds_toArray, List.set_cons_zero, List.set_cons_succ]
  refine mix_step (by simp only [List.getElem?_toArray, List.getElem?_cons_succ, List.getElem?_cons_zero] <;> rfl) (by kernel_rfl) (fun K hK => ?_)
  go_simp
  refine hK _ _ ?_
  clear hK K
  refine mix_end ?_
  go_wp2_with fail
  go_ret
  exact ⟨rfl, (((Turned.of_below (Below.step HX.out.low H2.out)).drew.setCell (.inl (by simp)) _ _).setCell (.inl (by simp)) _ _).setCell (.inl (by simp)) _ _, (HX.out.at'.below H2.out).drew.put3 i (by have := HN.out; omega) ⟨.int .i64 0, k, false⟩⟩
end Go.Proofs.Ytbbadkgmnfjfaaa
