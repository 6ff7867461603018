/- The reference model of a slab: Take. -/
import Derived.Test.YtbbadkgmnfjfaaaRefG
import Derived.Laws.ResultCell
namespace Go.Proofs.Ytbbadkgmnfjfaaa
open Go.RowKit
set_option maxRecDepth 100000
set_option maxHeartbeats 4000000

theorem rtake_no {W : World} {r gr : Nat} {l : List Ce} (h : RAt W r gr l) (y : Int) (hl : l.length ≤ 5000) (hx : ∀ (j : Nat) (t : Ce), l[j]? = some t → (∃ v : Int, t.x = .int .i64 v) ∧ 0 ≤ t.u) (hn : ∀ (j : Nat) (t : Ce), l[j]? = some t → (!t.t && decide (t.u < 4294967295)) = false) :
    Calls Try.prog 30 #[.pointer (some ⟨r, 0, none⟩), .int .i64 y] W fun e w' => e = .returned (.tuple #[refV 0 0, .int .i64 14]) ∧ Below W.heap.size W w' := by
  obtain ⟨W1, hb⟩ := h.boxed 0 0
  have HX := Lib.hid hb
  have HW := Lib.hid hb.is
  have HU := Lib.hid hn
  have HV := Lib.hid hx
  clear hn hx
  obtain ⟨n, hn⟩ : ∃ n, l.length = n := ⟨_, rfl⟩
  rw [hn] at hl
  have HN := Lib.hid hn
  clear h hb hn
  go_enter Try.func30, Try.ntmps30
  go_upto_region 1 with fail
  rw [← HW.out]
  go_wp2_with fail
  go_loopw [6] (fun iv wr => ∃ k : Nat, k ≤ n ∧ iv = .int .i64 k ∧ Below W1.heap.size W1 wr) (fun iv _ => n - (intOf iv).toNat)
  case atStart => exact ⟨0, by omega, rfl, Below.refl _ _⟩
  case round =>
    obtain ⟨k, hk, rfl, hB⟩ := hrel
    have HB := Lib.hid hB
    have c0 := (HX.out.at'.below hB).hr.cell 0
    simp only [List.getElem?_toArray, List.getElem?_cons_zero] at c0
    rw [HN.out] at c0
    have k0 : (0 : Int) ≤ (k : Int) := by omega
    by_cases hlt : k < n
    · skip
      have k1 : (k : Int) < (n : Int) := by omega
      have k2 : decide (k < n) = true := decide_eq_true (by omega)
      obtain ⟨t, ht⟩ : ∃ t, l[k]? = some t := ⟨l[k]'(by rw [HN.out]; omega), List.getElem?_eq_getElem _⟩
      obtain ⟨e0, e1, e2⟩ := (HX.out.at'.below hB).one k t ht
      have hu := HU.out k t ht
      obtain ⟨⟨v, hv⟩, hu0⟩ := HV.out k t ht
      have HT := Lib.hid ht
      obtain ⟨tx, tu, tt⟩ := t
      dsimp only at e0 e1 e2 hv hu0
      try dsimp only at hu
      subst hv
      clear ht hB
      obtain ⟨W2, hW2⟩ : ∃ W2, W2 = wr.alloc (.cells #[.bool tt, .int .i64 v, .int .u32 tu] 73) := ⟨_, rfl⟩
      have HW2 := Lib.hid hW2
      have F2 : Hid (Fresh W2 wr.heap.size #[.bool tt, .int .i64 v, .int .u32 tu] 73) := by show Fresh _ _ _ _; rw [hW2]; exact Fresh.new _ _ _ _ rfl
      have B2 : Hid (Below W1.heap.size W1 W2) := by show Below _ _ _; rw [hW2]; exact Below.new HB.out _
      have p0 := F2.out.cell 0
      have p2 := F2.out.cell 2
      simp only [List.getElem?_toArray, List.getElem?_cons_zero, List.getElem?_cons_succ] at p0 p2
      clear hW2
      go_upto_region 5 with fail
      rw [← HW2.out]
      have hc : tt = true ∨ (tt = false ∧ decide (tu < 4294967295) = false) := by cases tt <;> simp_all
      clear hu e0 e1 e2 c0
      rcases hc with rfl | ⟨rfl, q⟩
      all_goals
        go_wp2_with fail
        go_roundw
        case rel => exact ⟨k + 1, by omega, by go_num, B2.out⟩
        case measure => simp [intOf]; omega
    · obtain rfl : k = n := by omega
      have b0 := (HX.out.box.below HB.out).cell 0
      have b1 := (HX.out.box.below HB.out).cell 1
      have z0 := (HX.out.box.below HB.out).thawed 0
      have z1 := (HX.out.box.below HB.out).thawed 1
      simp only [List.getElem?_toArray, List.getElem?_cons_zero, List.getElem?_cons_succ] at b0 b1
      clear hB
      obtain ⟨W3, hW3⟩ : ∃ W3, W3 = (wr.setCell ⟨W.heap.size, 0, none⟩ (.int .i64 0)).setCell ⟨W.heap.size, 1, none⟩ (.int .u32 0) := ⟨_, rfl⟩
      have F3 : Fresh W3 W.heap.size #[.int .i64 0, .int .u32 0] 36 := by rw [hW3]; exact ((HX.out.box.below HB.out).set 0 _).set 1 _
      have B3 : Hid (Below W.heap.size W W3) := by
        show Below _ _ _
        rw [hW3]
        exact Turned.below (S := [W.heap.size]) (Below.step HX.out.low HB.out) (((Turned.refl _ _).setCell (.inl (by simp)) _ _).setCell (.inl (by simp)) _ _) (by simp) (Below.step HX.out.low HB.out).size
      have g0 := F3.cell 0
      have g1 := F3.cell 1
      simp only [List.getElem?_toArray, List.getElem?_cons_zero, List.getElem?_cons_succ] at g0 g1
      have HW3 := Lib.hid hW3
      clear hW3 F3
      go_wp2_with fail
      try simp only [Exit.then, Exit.inBlock]
      rw [← HW3.out]
      refine bodyPost_ret (v := .tuple #[refV 0 0, .int .i64 14]) ?_ rfl ⟨rfl, B3.out⟩
      rw [results_cell_tmp rfl]
      go_simp
theorem rtake_yes {W : World} {r gr : Nat} {l : List Ce} (h : RAt W r gr l) (y : Int) (hl : l.length ≤ 5000) (hx : ∀ (j : Nat) (t : Ce), l[j]? = some t → (∃ v : Int, t.x = .int .i64 v) ∧ 0 ≤ t.u) (i : Nat) (ti : Ce) (hi : l[i]? = some ti) (hu : (!ti.t && decide (ti.u < 4294967295)) = true) (hn : ∀ (j : Nat) (t : Ce), j < i → l[j]? = some t → (!t.t && decide (t.u < 4294967295)) = false) :
    Calls Try.prog 30 #[.pointer (some ⟨r, 0, none⟩), .int .i64 y] W fun e w' => e = .returned (.tuple #[refV i (ti.u + 1), .int .i64 0]) ∧ Turned [gr] W w' ∧ RAt w' r gr (l.set i ⟨.int .i64 y, ti.u + 1, true⟩) := by
  have hin := (List.getElem?_eq_some_iff.1 hi).1
  have HI := Lib.hid hi
  have HUI := Lib.hid hu
  clear hi hu
  have hgr : Hid (gr < W.heap.size) := h.hg.lt
  have HR : Hid (r < W.heap.size) := h.hr.lt
  obtain ⟨W1, hb⟩ := h.boxed 0 0
  have HX := Lib.hid hb
  have HW := Lib.hid hb.is
  have HU := Lib.hid hn
  have HV := Lib.hid hx
  clear hn hx
  obtain ⟨n, hn⟩ : ∃ n, l.length = n := ⟨_, rfl⟩
  rw [hn] at hl
  have HN := Lib.hid hn
  clear h hb hn
  rw [HN.out] at hin
  go_enter Try.func30, Try.ntmps30
  go_upto_region 1 with fail
  rw [← HW.out]
  go_wp2_with fail
  go_loopw [6] (fun iv wr => ∃ k : Nat, k ≤ i ∧ iv = .int .i64 k ∧ Below W1.heap.size W1 wr) (fun iv _ => i - (intOf iv).toNat)
  case atStart => exact ⟨0, by omega, rfl, Below.refl _ _⟩
  case round =>
    obtain ⟨k, hk, rfl, hB⟩ := hrel
    have HB := Lib.hid hB
    have c0 := (HX.out.at'.below hB).hr.cell 0
    simp only [List.getElem?_toArray, List.getElem?_cons_zero] at c0
    rw [HN.out] at c0
    have k0 : (0 : Int) ≤ (k : Int) := by omega
    by_cases hlt : k < i
    · skip
      have k1 : (k : Int) < (n : Int) := by omega
      have k2 : decide (k < n) = true := decide_eq_true (by omega)
      obtain ⟨t, ht⟩ : ∃ t, l[k]? = some t := ⟨l[k]'(by rw [HN.out]; omega), List.getElem?_eq_getElem _⟩
      obtain ⟨e0, e1, e2⟩ := (HX.out.at'.below hB).one k t ht
      have hu := HU.out k t hlt ht
      obtain ⟨⟨v, hv⟩, hu0⟩ := HV.out k t ht
      have HT := Lib.hid ht
      obtain ⟨tx, tu, tt⟩ := t
      dsimp only at e0 e1 e2 hv hu0
      try dsimp only at hu
      subst hv
      clear ht hB
      obtain ⟨W2, hW2⟩ : ∃ W2, W2 = wr.alloc (.cells #[.bool tt, .int .i64 v, .int .u32 tu] 73) := ⟨_, rfl⟩
      have HW2 := Lib.hid hW2
      have F2 : Hid (Fresh W2 wr.heap.size #[.bool tt, .int .i64 v, .int .u32 tu] 73) := by show Fresh _ _ _ _; rw [hW2]; exact Fresh.new _ _ _ _ rfl
      have B2 : Hid (Below W1.heap.size W1 W2) := by show Below _ _ _; rw [hW2]; exact Below.new HB.out _
      have p0 := F2.out.cell 0
      have p2 := F2.out.cell 2
      simp only [List.getElem?_toArray, List.getElem?_cons_zero, List.getElem?_cons_succ] at p0 p2
      clear hW2
      go_upto_region 5 with fail
      rw [← HW2.out]
      have hc : tt = true ∨ (tt = false ∧ decide (tu < 4294967295) = false) := by cases tt <;> simp_all
      clear hu e0 e1 e2 c0
      rcases hc with rfl | ⟨rfl, q⟩
      all_goals
        go_wp2_with fail
        go_roundw
        case rel => exact ⟨k + 1, by omega, by go_num, B2.out⟩
        case measure => simp [intOf]; omega
    · obtain rfl : k = i := by omega
      clear hlt
      have k1 : (k : Int) < (n : Int) := by omega
      have k2 : decide (k < n) = true := decide_eq_true (by omega)
      obtain ⟨t, ht⟩ : ∃ t, l[k]? = some t := ⟨l[k]'(by rw [HN.out]; omega), List.getElem?_eq_getElem _⟩
      obtain ⟨e0, e1, e2⟩ := (HX.out.at'.below hB).one k t ht
      have hu := hk
      obtain ⟨⟨v, hv⟩, hu0⟩ := HV.out k t ht
      have HT := Lib.hid ht
      obtain ⟨tx, tu, tt⟩ := t
      dsimp only at e0 e1 e2 hv hu0
      try dsimp only at hu
      subst hv
      clear ht hB
      obtain ⟨W2, hW2⟩ : ∃ W2, W2 = wr.alloc (.cells #[.bool tt, .int .i64 v, .int .u32 tu] 73) := ⟨_, rfl⟩
      have HW2 := Lib.hid hW2
      have F2 : Hid (Fresh W2 wr.heap.size #[.bool tt, .int .i64 v, .int .u32 tu] 73) := by show Fresh _ _ _ _; rw [hW2]; exact Fresh.new _ _ _ _ rfl
      have B2 : Hid (Below W1.heap.size W1 W2) := by show Below _ _ _; rw [hW2]; exact Below.new HB.out _
      have p0 := F2.out.cell 0
      have p2 := F2.out.cell 2
      simp only [List.getElem?_toArray, List.getElem?_cons_zero, List.getElem?_cons_succ] at p0 p2
      clear hW2
      go_upto_region 5 with fail
      rw [← HW2.out]
      have hti : ti = ⟨.int .i64 v, tu, tt⟩ := by have h1 := HI.out; have h2 := HT.out; rw [h1] at h2; exact Option.some.inj h2
      subst hti
      have hu1 := HUI.out
      simp only [Bool.and_eq_true, Bool.not_eq_true', decide_eq_true_eq] at hu1
      obtain ⟨rfl, hlt⟩ := hu1
      clear hu e0 e1 e2 c0
      have q : decide (tu < 4294967295) = true := decide_eq_true hlt
      go_upto_region 6 with fail
      have c0 := (HX.out.at'.below B2.out).hr.cell 0
      simp only [List.getElem?_toArray, List.getElem?_cons_zero] at c0
      rw [HN.out] at c0
      obtain ⟨e0, e1, e2⟩ := (HX.out.at'.below B2.out).one k _ HT.out
      dsimp only at e0 e1 e2
      have z0 := (HX.out.at'.below B2.out).hg.thawed (k * 3)
      have z1 := (HX.out.at'.below B2.out).hg.thawed (k * 3 + 1)
      have z2 := (HX.out.at'.below B2.out).hg.thawed (k * 3 + 2)
      refine (wpIn_wide (n := 0)).1 ?_
      refine region_mix [0, 1, 2, 4, 5, 6, 8, 9, 10] [0, 1, 3, 7, 0, 0, 0, 64, 192, 480, 1023, 2047] [0, 1, 2, 4, 5, 6, 3, 7, 8, 9, 10, 11] (by kernel_rfl) rfl (by kernel_rfl) ?_
      refine mix_pure (v := ?_) (by simp only [List.getElem?_toArray, List.getElem?_cons_zero] <;> rfl) (by kernel_rfl) ⟨Or.inl ⟨by kernel_rfl, ?_⟩, fun _ => (by rfl)⟩ ?_; rotate_left 1; focus (intro w; go_simp; try with_reducible rfl)
      simp only [Act.put, List.setIfInBounds_toArray, List.set_cons_zero, List.set_cons_succ]
      refine mix_pure (v := ?_) (by simp only [List.getElem?_toArray, List.getElem?_cons_succ, List.getElem?_cons_zero] <;> rfl) (by kernel_rfl) ⟨Or.inl ⟨by kernel_rfl, ?_⟩, fun _ => (by rfl)⟩ ?_; rotate_left 1; focus (intro w; go_simp; try with_reducible rfl)
      simp only [Act.put, List.setIfInBounds_toArray, List.set_cons_zero, List.set_cons_succ]
      refine mix_pure (v := ?_) (by simp only [List.getElem?_toArray, List.getElem?_cons_succ, List.getElem?_cons_zero] <;> rfl) (by kernel_rfl) ⟨Or.inl ⟨by kernel_rfl, ?_⟩, fun _ => (by rfl)⟩ ?_; rotate_left 1; focus (intro w; go_simp; try with_reducible rfl)
      simp only [Act.put, List.setIfInBounds_toArray, List.set_cons_zero, List.set_cons_succ]
      refine mix_pure (v := ?_) (by simp only [List.getElem?_toArray, List.getElem?_cons_succ, List.getElem?_cons_zero] <;> rfl) (by kernel_rfl) ⟨Or.inl ⟨by kernel_rfl, ?_⟩, fun _ => (by rfl)⟩ ?_; rotate_left 1; focus (intro w; go_simp; try with_reducible rfl)
      simp only [Act.put, List.setIfInBounds_toArray, List.set_cons_zero, List.set_cons_succ]
      refine mix_pure (v := ?_) (by simp only [List.getElem?_toArray, List.getElem?_cons_succ, List.getElem?_cons_zero] <;> rfl) (by kernel_rfl) ⟨Or.inl ⟨by kernel_rfl, ?_⟩, fun _ => (by rfl)⟩ ?_; rotate_left 1; focus (intro w; go_simp; try with_reducible rfl)
      simp only [Act.put, List.setIfInBounds_toArray, List.set_cons_zero, List.set_cons_succ]
      refine mix_pure (v := ?_) (by simp only [List.getElem?_toArray, List.getElem?_cons_succ, List.getElem?_cons_zero] <;> rfl) (by kernel_rfl) ⟨Or.inl ⟨by kernel_rfl, ?_⟩, fun _ => (by rfl)⟩ ?_; rotate_left 1; focus (intro w; go_simp; try with_reducible rfl)
      simp only [Act.put, List.setIfInBounds_toArray, List.set_cons_zero, List.set_cons_succ]
      refine mix_step (by simp only [List.getElem?_toArray, List.getElem?_cons_succ, List.getElem?_cons_zero] <;> rfl) (by kernel_rfl) (fun K hK => ?_)
      go_simp
      refine hK _ _ ?_
      clear hK K
      refine mix_step (by simp only [List.getElem?_toArray, List.getElem?_cons_succ, List.getElem?_cons_zero] <;> rfl) (by kernel_rfl) (fun K hK => ?_)
      go_simp
      refine hK _ _ ?_
      clear hK K
      refine mix_pure (v := ?_) (by simp only [List.getElem?_toArray, List.getElem?_cons_succ, List.getElem?_cons_zero] <;> rfl) (by kernel_rfl) ⟨Or.inl ⟨by kernel_rfl, ?_⟩, fun _ => (by rfl)⟩ ?_; rotate_left 1; focus (intro w; go_simp; try with_reducible rfl)
      simp only [Act.put, List.setIfInBounds_toArray, List.set_cons_zero, List.set_cons_succ]
      refine mix_pure (v := ?_) (by simp only [List.getElem?_toArray, List.getElem?_cons_succ, List.getElem?_cons_zero] <;> rfl) (by kernel_rfl) ⟨Or.inl ⟨by kernel_rfl, ?_⟩, fun _ => (by rfl)⟩ ?_; rotate_left 1; focus (intro w; go_simp; try with_reducible rfl)
      simp only [Act.put, List.setIfInBounds_toArray, List.set_cons_zero, List.set_cons_succ]
      refine mix_pure (v := ?_) (by simp only [List.getElem?_toArray, List.getElem?_cons_succ, List.getElem?_cons_zero] <;> rfl) (by kernel_rfl) ⟨Or.inl ⟨by kernel_rfl, ?_⟩, fun _ => (by rfl)⟩ ?_; rotate_left 1; focus (intro w; go_simp; try with_reducible rfl)
      simp only [Act.put, List.setIfInBounds_toArray, List.set_cons_zero, List.set_cons_succ]
      refine mix_step (by simp only [List.getElem?_toArray, List.getElem?_cons_succ, List.getElem?_cons_zero] <;> rfl) (by kernel_rfl) (fun K hK => ?_)
      go_simp
      refine hK _ _ ?_
      clear hK K
      refine mix_end ?_
      have Hgr := hgr.out
      have hwr : IntKind.u32.wrap (tu + 1) = tu + 1 := IntWalk.u32_in _ (by omega)
      have hne : gr ≠ W.heap.size := Nat.ne_of_lt Hgr
      obtain ⟨W3, hW3⟩ : ∃ W3, W3 = (((W2.setCell ⟨gr, k * 3, none⟩ (.bool true)).setCell ⟨gr, k * 3 + 1, none⟩ (.int .i64 y)).setCell ⟨gr, k * 3 + 2, none⟩ (.int .u32 (tu + 1))).drew := ⟨_, rfl⟩
      have HW3 := Lib.hid hW3
      have T3 : Hid (Turned [gr] W W3) := by show Turned _ _ _; rw [hW3]; exact ((((Turned.of_below (Below.step HX.out.low B2.out)).setCell (.inl (by simp)) _ _).setCell (.inl (by simp)) _ _).setCell (.inl (by simp)) _ _).drew
      have A3 : Hid (RAt W3 r gr (l.set k ⟨.int .i64 y, tu + 1, true⟩)) := by show RAt _ _ _ _; rw [hW3]; exact ((HX.out.at'.below B2.out).put3 k (by rw [HN.out]; exact hin) ⟨.int .i64 y, tu + 1, true⟩).drew
      have X3 : Hid (Fresh W3 W.heap.size #[.int .i64 0, .int .u32 0] 36) := by show Fresh _ _ _ _; rw [hW3]; exact ((((HX.out.box.below B2.out).other hne.symm _ _).other hne.symm _ _).other hne.symm _ _).drew
      have P3 : Hid (Fresh W3 wr.heap.size #[.bool false, .int .i64 v, .int .u32 tu] 73) := by
        have hne2 : wr.heap.size ≠ gr := by have := HB.out.size; have := HX.out.low.size; omega
        show Fresh _ _ _ _; rw [hW3]; exact (((F2.out.other hne2 _ _).other hne2 _ _).other hne2 _ _).drew
      go_upto_region 7 with fail
      rw [hwr, ← HW3.out]
      have b0 := X3.out.cell 0
      have b1 := X3.out.cell 1
      have y0 := X3.out.thawed 0
      have y1 := X3.out.thawed 1
      have p2 := P3.out.cell 2
      simp only [List.getElem?_toArray, List.getElem?_cons_zero, List.getElem?_cons_succ] at b0 b1 p2
      obtain ⟨W4, hW4⟩ : ∃ W4, W4 = (W3.setCell ⟨W.heap.size, 0, none⟩ (.int .i64 k)).setCell ⟨W.heap.size, 1, none⟩ (.int .u32 (tu + 1)) := ⟨_, rfl⟩
      have F4 : Fresh W4 W.heap.size #[.int .i64 k, .int .u32 (tu + 1)] 36 := by rw [hW4]; exact (X3.out.set 0 _).set 1 _
      have T4 : Hid (Turned [gr] W W4) := by show Turned _ _ _; rw [hW4]; exact (T3.out.setCell (.inr (Nat.le_refl _)) _ _).setCell (.inr (Nat.le_refl _)) _ _
      have A4 : Hid (RAt W4 r gr (l.set k ⟨.int .i64 y, tu + 1, true⟩)) := by
        have hr : r ≠ W.heap.size := Nat.ne_of_lt HR.out
        show RAt _ _ _ _; rw [hW4]; exact ⟨(A3.out.hr.other hr _ _).other hr _ _, (A3.out.hg.other hne _ _).other hne _ _⟩
      have g0 := F4.cell 0
      have g1 := F4.cell 1
      simp only [List.getElem?_toArray, List.getElem?_cons_zero, List.getElem?_cons_succ] at g0 g1
      have HW4 := Lib.hid hW4
      clear hW4 F4 hW3 e0 e1 e2 z0 z1 z2 c0
      go_wp2_with fail
      try simp only [Exit.then, Exit.inBlock]
      try rw [hwr]
      rw [← HW4.out]
      refine bodyPost_ret (v := .tuple #[refV k (tu + 1), .int .i64 0]) ?_ rfl ⟨rfl, T4.out, A4.out⟩
      rw [results_cell_tmp rfl]
      go_simp
end Go.Proofs.Ytbbadkgmnfjfaaa
