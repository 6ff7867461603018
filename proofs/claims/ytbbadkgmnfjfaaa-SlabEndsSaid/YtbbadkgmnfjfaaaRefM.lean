/- The reference model of a slab: which references live. -/
import Derived.Test.YtbbadkgmnfjfaaaRefS
namespace Go.Proofs.Ytbbadkgmnfjfaaa
open Go.RowKit
set_option maxRecDepth 100000
set_option maxHeartbeats 4000000

/-- A reference in its box, beside the reference model. -/
structure RBoxed (W W1 : World) (r gr : Nat) (l : List Ce) (x k : Int) : Prop where
  is : W1 = W.alloc (.cells #[.int .i64 x, .int .u32 k] 36)
  at' : RAt W1 r gr l
  box : Fresh W1 W.heap.size #[.int .i64 x, .int .u32 k] 36
  low : Below W.heap.size W W1
theorem RAt.boxed {W : World} {r gr : Nat} {l : List Ce} (h : RAt W r gr l) (x k : Int) : ∃ W1, RBoxed W W1 r gr l x k := by
  refine ⟨_, rfl, h.below ?_, Fresh.new _ _ _ _ rfl, ?_⟩ <;> exact Below.new (Below.refl _ _) _
theorem RBoxed.ref {W W1 : World} {r gr : Nat} {l : List Ce} {x k : Int} (h : RBoxed W W1 r gr l x k) : W1.cell? ⟨W.heap.size, 0, none⟩ = some (.int .i64 x) ∧ W1.cell? ⟨W.heap.size, 1, none⟩ = some (.int .u32 k) := ⟨h.box.cell 0, h.box.cell 1⟩

theorem lives_out {W : World} {r gr : Nat} {l : List Ce} (h : RAt W r gr l) (x k : Int) (hx : ¬ (0 ≤ x ∧ x < l.length)) :
    Calls Try.prog 45 #[.pointer (some ⟨r, 0, none⟩), refV x k] W fun e w' => e = .returned (.bool false) ∧ Below W.heap.size W w' := by
  obtain ⟨W1, hb⟩ := h.boxed x k
  have HX := Lib.hid hb
  have HW := Lib.hid hb.is
  obtain ⟨r0, r1⟩ := hb.ref
  have c0 := hb.at'.hr.cell 0
  simp only [List.getElem?_toArray, List.getElem?_cons_zero] at c0
  obtain ⟨n, hn⟩ : ∃ n : Nat, l.length = n := ⟨_, rfl⟩
  rw [hn] at c0 hx
  have hc : decide (0 ≤ x) = false ∨ (decide (0 ≤ x) = true ∧ decide (x < (n : Int)) = false) := by
    simp only [decide_eq_true_eq, decide_eq_false_iff_not]; omega
  clear h hb hx hn
  rcases hc with q1 | ⟨q1, q2⟩
  ·
    go_enter Try.func45, Try.ntmps45
    go_upto_region 1 with fail
    rw [← HW.out]
    refine (wpIn_wide (n := 0)).1 ?_
    refine region_mix [0, 2, 3, 4, 5, 6, 7, 8, 9, 10, 11, 12, 13, 14, 15, 16, 17, 18, 19, 20, 21, 22, 23, 24, 25, 26, 27, 28, 29, 30, 31, 32, 33, 34, 35, 36, 37, 38] [0, 1, 3, 7, 15, 31, 15, 79, 207, 463, 975, 2047, 4095, 8191, 16383, 32767, 65535, 131071, 16383, 278527, 1048575, 2097151, 4194303, 8388607, 16777215, 33554431, 67108863, 134217727, 268435455, 33554431, 570425343, 2147483647, 4294967295, 8589934591, 33554431, 17213423615, 68719476735, 137438953471, 274877906943] [0, 1, 2, 3, 4, 5, 6, 7, 8, 9, 10, 11, 12, 13, 14, 15, 16, 17, 18, 19, 20, 21, 22, 23, 24, 25, 26, 27, 28, 29, 30, 31, 32, 33, 34, 35, 36, 37, 38] (by kernel_rfl) rfl (by kernel_rfl) ?_
    refine mix_pure (v := ?_) (by simp only [List.getElem?_toArray, List.getElem?_cons_zero] <;> rfl) (by kernel_rfl) ⟨Or.inl ⟨by kernel_rfl, ?_⟩, fun _ => (by rfl)⟩ ?_; rotate_left 1; focus (intro w; go_simp; try with_reducible rfl)
    simp only [Act.put, List.setIfInBounds_toArray, List.set_cons_zero, List.set_cons_succ]
    refine mix_step (by simp only [List.getElem?_toArray, List.getElem?_cons_succ, List.getElem?_cons_zero] <;> rfl) (by kernel_rfl) (fun K hK => ?_)
    go_simp
    refine hK _ _ ?_
    clear hK K
    refine mix_pure (v := ?_) (by simp only [List.getElem?_toArray, List.getElem?_cons_succ, List.getElem?_cons_zero] <;> rfl) (by kernel_rfl) ⟨Or.inl ⟨by kernel_rfl, ?_⟩, fun _ => (by rfl)⟩ ?_; rotate_left 1; focus (intro w; go_simp; try with_reducible rfl)
    simp only [Act.put, List.setIfInBounds_toArray, List.set_cons_zero, List.set_cons_succ]
    refine mix_pure (v := ?_) (by simp only [List.getElem?_toArray, List.getElem?_cons_succ, List.getElem?_cons_zero] <;> rfl) (by kernel_rfl) ⟨Or.inl ⟨by kernel_rfl, ?_⟩, fun _ => (by rfl)⟩ ?_; rotate_left 1; focus (intro w; go_simp; try with_reducible rfl)
    simp only [Act.put, List.setIfInBounds_toArray, List.set_cons_zero, List.set_cons_succ]
    refine mix_pure (v := undef) (by simp only [List.getElem?_toArray, List.getElem?_cons_succ, List.getElem?_cons_zero] <;> rfl) (by kernel_rfl) ⟨Or.inr ⟨by kernel_rfl, rfl⟩, fun _ => (by rfl)⟩ ?_
    simp only [Act.put, List.setIfInBounds_toArray, List.set_cons_zero, List.set_cons_succ]
    refine mix_pure (v := undef) (by simp only [List.getElem?_toArray, List.getElem?_cons_succ, List.getElem?_cons_zero] <;> rfl) (by kernel_rfl) ⟨Or.inr ⟨by kernel_rfl, rfl⟩, fun _ => (by rfl)⟩ ?_
    simp only [Act.put, List.setIfInBounds_toArray, List.set_cons_zero, List.set_cons_succ]
    refine mix_pure (v := undef) (by simp only [List.getElem?_toArray, List.getElem?_cons_succ, List.getElem?_cons_zero] <;> rfl) (by kernel_rfl) ⟨Or.inr ⟨by kernel_rfl, rfl⟩, fun _ => (by rfl)⟩ ?_
    simp only [Act.put, List.setIfInBounds_toArray, List.set_cons_zero, List.set_cons_succ]
    refine mix_pure (v := undef) (by simp only [List.getElem?_toArray, List.getElem?_cons_succ, List.getElem?_cons_zero] <;> rfl) (by kernel_rfl) ⟨Or.inr ⟨by kernel_rfl, rfl⟩, fun _ => (by rfl)⟩ ?_
    simp only [Act.put, List.setIfInBounds_toArray, List.set_cons_zero, List.set_cons_succ]
    refine mix_pure (v := undef) (by simp only [List.getElem?_toArray, List.getElem?_cons_succ, List.getElem?_cons_zero] <;> rfl) (by kernel_rfl) ⟨Or.inr ⟨by kernel_rfl, rfl⟩, fun _ => (by rfl)⟩ ?_
    simp only [Act.put, List.setIfInBounds_toArray, List.set_cons_zero, List.set_cons_succ]
    refine mix_pure (v := undef) (by simp only [List.getElem?_toArray, List.getElem?_cons_succ, List.getElem?_cons_zero] <;> rfl) (by kernel_rfl) ⟨Or.inr ⟨by kernel_rfl, rfl⟩, fun _ => (by rfl)⟩ ?_
    simp only [Act.put, List.setIfInBounds_toArray, List.set_cons_zero, List.set_cons_succ]
    refine mix_pure (v := undef) (by simp only [List.getElem?_toArray, List.getElem?_cons_succ, List.getElem?_cons_zero] <;> rfl) (by kernel_rfl) ⟨Or.inr ⟨by kernel_rfl, rfl⟩, fun _ => (by rfl)⟩ ?_
    simp only [Act.put, List.setIfInBounds_toArray, List.set_cons_zero, List.set_cons_succ]
    refine mix_pure (v := undef) (by simp only [List.getElem?_toArray, List.getElem?_cons_succ, List.getElem?_cons_zero] <;> rfl) (by kernel_rfl) ⟨Or.inr ⟨by kernel_rfl, rfl⟩, fun _ => (by rfl)⟩ ?_
    simp only [Act.put, List.setIfInBounds_toArray, List.set_cons_zero, List.set_cons_succ]
    refine mix_pure (v := ?_) (by simp only [List.getElem?_toArray, List.getElem?_cons_succ, List.getElem?_cons_zero] <;> rfl) (by kernel_rfl) ⟨Or.inl ⟨by kernel_rfl, ?_⟩, fun _ => (by rfl)⟩ ?_; rotate_left 1; focus (intro w; go_simp; try with_reducible rfl)
    simp only [Act.put, List.setIfInBounds_toArray, List.set_cons_zero, List.set_cons_succ]
    refine mix_pure (v := ?_) (by simp only [List.getElem?_toArray, List.getElem?_cons_succ, List.getElem?_cons_zero] <;> rfl) (by kernel_rfl) ⟨Or.inl ⟨by kernel_rfl, ?_⟩, fun _ => (by rfl)⟩ ?_; rotate_left 1; focus (intro w; go_simp; try with_reducible rfl)
    simp only [Act.put, List.setIfInBounds_toArray, List.set_cons_zero, List.set_cons_succ]
    refine mix_pure (v := undef) (by simp only [List.getElem?_toArray, List.getElem?_cons_succ, List.getElem?_cons_zero] <;> rfl) (by kernel_rfl) ⟨Or.inr ⟨by kernel_rfl, rfl⟩, fun _ => (by rfl)⟩ ?_
    simp only [Act.put, List.setIfInBounds_toArray, List.set_cons_zero, List.set_cons_succ]
    refine mix_pure (v := undef) (by simp only [List.getElem?_toArray, List.getElem?_cons_succ, List.getElem?_cons_zero] <;> rfl) (by kernel_rfl) ⟨Or.inr ⟨by kernel_rfl, rfl⟩, fun _ => (by rfl)⟩ ?_
    simp only [Act.put, List.setIfInBounds_toArray, List.set_cons_zero, List.set_cons_succ]
    refine mix_pure (v := undef) (by simp only [List.getElem?_toArray, List.getElem?_cons_succ, List.getElem?_cons_zero] <;> rfl) (by kernel_rfl) ⟨Or.inr ⟨by kernel_rfl, rfl⟩, fun _ => (by rfl)⟩ ?_
    simp only [Act.put, List.setIfInBounds_toArray, List.set_cons_zero, List.set_cons_succ]
    refine mix_pure (v := undef) (by simp only [List.getElem?_toArray, List.getElem?_cons_succ, List.getElem?_cons_zero] <;> rfl) (by kernel_rfl) ⟨Or.inr ⟨by kernel_rfl, rfl⟩, fun _ => (by rfl)⟩ ?_
    simp only [Act.put, List.setIfInBounds_toArray, List.set_cons_zero, List.set_cons_succ]
    refine mix_pure (v := undef) (by simp only [List.getElem?_toArray, List.getElem?_cons_succ, List.getElem?_cons_zero] <;> rfl) (by kernel_rfl) ⟨Or.inr ⟨by kernel_rfl, rfl⟩, fun _ => (by rfl)⟩ ?_
    simp only [Act.put, List.setIfInBounds_toArray, List.set_cons_zero, List.set_cons_succ]
    refine mix_pure (v := undef) (by simp only [List.getElem?_toArray, List.getElem?_cons_succ, List.getElem?_cons_zero] <;> rfl) (by kernel_rfl) ⟨Or.inr ⟨by kernel_rfl, rfl⟩, fun _ => (by rfl)⟩ ?_
    simp only [Act.put, List.setIfInBounds_toArray, List.set_cons_zero, List.set_cons_succ]
    refine mix_pure (v := undef) (by simp only [List.getElem?_toArray, List.getElem?_cons_succ, List.getElem?_cons_zero] <;> rfl) (by kernel_rfl) ⟨Or.inr ⟨by kernel_rfl, rfl⟩, fun _ => (by rfl)⟩ ?_
    simp only [Act.put, List.setIfInBounds_toArray, List.set_cons_zero, List.set_cons_succ]
    refine mix_pure (v := undef) (by simp only [List.getElem?_toArray, List.getElem?_cons_succ, List.getElem?_cons_zero] <;> rfl) (by kernel_rfl) ⟨Or.inr ⟨by kernel_rfl, rfl⟩, fun _ => (by rfl)⟩ ?_
    simp only [Act.put, List.setIfInBounds_toArray, List.set_cons_zero, List.set_cons_succ]
    refine mix_pure (v := undef) (by simp only [List.getElem?_toArray, List.getElem?_cons_succ, List.getElem?_cons_zero] <;> rfl) (by kernel_rfl) ⟨Or.inr ⟨by kernel_rfl, rfl⟩, fun _ => (by rfl)⟩ ?_
    simp only [Act.put, List.setIfInBounds_toArray, List.set_cons_zero, List.set_cons_succ]
    refine mix_pure (v := ?_) (by simp only [List.getElem?_toArray, List.getElem?_cons_succ, List.getElem?_cons_zero] <;> rfl) (by kernel_rfl) ⟨Or.inl ⟨by kernel_rfl, ?_⟩, fun _ => (by rfl)⟩ ?_; rotate_left 1; focus (intro w; go_simp; try with_reducible rfl)
    simp only [Act.put, List.setIfInBounds_toArray, List.set_cons_zero, List.set_cons_succ]
    refine mix_pure (v := ?_) (by simp only [List.getElem?_toArray, List.getElem?_cons_succ, List.getElem?_cons_zero] <;> rfl) (by kernel_rfl) ⟨Or.inl ⟨by kernel_rfl, ?_⟩, fun _ => (by rfl)⟩ ?_; rotate_left 1; focus (intro w; go_simp; try with_reducible rfl)
    simp only [Act.put, List.setIfInBounds_toArray, List.set_cons_zero, List.set_cons_succ]
    refine mix_pure (v := undef) (by simp only [List.getElem?_toArray, List.getElem?_cons_succ, List.getElem?_cons_zero] <;> rfl) (by kernel_rfl) ⟨Or.inr ⟨by kernel_rfl, rfl⟩, fun _ => (by rfl)⟩ ?_
    simp only [Act.put, List.setIfInBounds_toArray, List.set_cons_zero, List.set_cons_succ]
    refine mix_pure (v := undef) (by simp only [List.getElem?_toArray, List.getElem?_cons_succ, List.getElem?_cons_zero] <;> rfl) (by kernel_rfl) ⟨Or.inr ⟨by kernel_rfl, rfl⟩, fun _ => (by rfl)⟩ ?_
    simp only [Act.put, List.setIfInBounds_toArray, List.set_cons_zero, List.set_cons_succ]
    refine mix_pure (v := undef) (by simp only [List.getElem?_toArray, List.getElem?_cons_succ, List.getElem?_cons_zero] <;> rfl) (by kernel_rfl) ⟨Or.inr ⟨by kernel_rfl, rfl⟩, fun _ => (by rfl)⟩ ?_
    simp only [Act.put, List.setIfInBounds_toArray, List.set_cons_zero, List.set_cons_succ]
    refine mix_pure (v := undef) (by simp only [List.getElem?_toArray, List.getElem?_cons_succ, List.getElem?_cons_zero] <;> rfl) (by kernel_rfl) ⟨Or.inr ⟨by kernel_rfl, rfl⟩, fun _ => (by rfl)⟩ ?_
    simp only [Act.put, List.setIfInBounds_toArray, List.set_cons_zero, List.set_cons_succ]
    refine mix_pure (v := undef) (by simp only [List.getElem?_toArray, List.getElem?_cons_succ, List.getElem?_cons_zero] <;> rfl) (by kernel_rfl) ⟨Or.inr ⟨by kernel_rfl, rfl⟩, fun _ => (by rfl)⟩ ?_
    simp only [Act.put, List.setIfInBounds_toArray, List.set_cons_zero, List.set_cons_succ]
    refine mix_pure (v := undef) (by simp only [List.getElem?_toArray, List.getElem?_cons_succ, List.getElem?_cons_zero] <;> rfl) (by kernel_rfl) ⟨Or.inr ⟨by kernel_rfl, rfl⟩, fun _ => (by rfl)⟩ ?_
    simp only [Act.put, List.setIfInBounds_toArray, List.set_cons_zero, List.set_cons_succ]
    refine mix_pure (v := undef) (by simp only [List.getElem?_toArray, List.getElem?_cons_succ, List.getElem?_cons_zero] <;> rfl) (by kernel_rfl) ⟨Or.inr ⟨by kernel_rfl, rfl⟩, fun _ => (by rfl)⟩ ?_
    simp only [Act.put, List.setIfInBounds_toArray, List.set_cons_zero, List.set_cons_succ]
    refine mix_pure (v := undef) (by simp only [List.getElem?_toArray, List.getElem?_cons_succ, List.getElem?_cons_zero] <;> rfl) (by kernel_rfl) ⟨Or.inr ⟨by kernel_rfl, rfl⟩, fun _ => (by rfl)⟩ ?_
    simp only [Act.put, List.setIfInBounds_toArray, List.set_cons_zero, List.set_cons_succ]
    refine mix_pure (v := undef) (by simp only [List.getElem?_toArray, List.getElem?_cons_succ, List.getElem?_cons_zero] <;> rfl) (by kernel_rfl) ⟨Or.inr ⟨by kernel_rfl, rfl⟩, fun _ => (by rfl)⟩ ?_
    simp only [Act.put, List.setIfInBounds_toArray, List.set_cons_zero, List.set_cons_succ]
    refine mix_pure (v := undef) (by simp only [List.getElem?_toArray, List.getElem?_cons_succ, List.getElem?_cons_zero] <;> rfl) (by kernel_rfl) ⟨Or.inr ⟨by kernel_rfl, rfl⟩, fun _ => (by rfl)⟩ ?_
    simp only [Act.put, List.setIfInBounds_toArray, List.set_cons_zero, List.set_cons_succ]
    refine mix_pure (v := undef) (by simp only [List.getElem?_toArray, List.getElem?_cons_succ, List.getElem?_cons_zero] <;> rfl) (by kernel_rfl) ⟨Or.inr ⟨by kernel_rfl, rfl⟩, fun _ => (by rfl)⟩ ?_
    simp only [Act.put, List.setIfInBounds_toArray, List.set_cons_zero, List.set_cons_succ]
    refine mix_pure (v := undef) (by simp only [List.getElem?_toArray, List.getElem?_cons_succ, List.getElem?_cons_zero] <;> rfl) (by kernel_rfl) ⟨Or.inr ⟨by kernel_rfl, rfl⟩, fun _ => (by rfl)⟩ ?_
    simp only [Act.put, List.setIfInBounds_toArray, List.set_cons_zero, List.set_cons_succ]
    refine mix_pure (v := ?_) (by simp only [List.getElem?_toArray, List.getElem?_cons_succ, List.getElem?_cons_zero] <;> rfl) (by kernel_rfl) ⟨Or.inl ⟨by kernel_rfl, ?_⟩, fun _ => (by rfl)⟩ ?_; rotate_left 1; focus (intro w; go_simp; try with_reducible rfl)
    simp only [Act.put, List.setIfInBounds_toArray, List.set_cons_zero, List.set_cons_succ]
    refine mix_pure (v := ?_) (by simp only [List.getElem?_toArray, List.getElem?_cons_succ, List.getElem?_cons_zero] <;> rfl) (by kernel_rfl) ⟨Or.inl ⟨by kernel_rfl, ?_⟩, fun _ => (by rfl)⟩ ?_; rotate_left 1; focus (intro w; go_simp; try with_reducible rfl)
    simp only [Act.put, List.setIfInBounds_toArray, List.set_cons_zero, List.set_cons_succ]
    refine mix_end ?_
    go_wp2_with fail
    go_ret
    exact ⟨rfl, HX.out.low.drew⟩
  ·
    go_enter Try.func45, Try.ntmps45
    go_upto_region 1 with fail
    rw [← HW.out]
    refine (wpIn_wide (n := 0)).1 ?_
    refine region_mix [0, 2, 3, 4, 6, 7, 8, 10, 11, 12, 13, 14, 15, 16, 17, 18, 19, 20, 21, 22, 23, 24, 25, 26, 27, 28, 29, 30, 31, 32, 33, 34, 35, 36, 37, 38] [0, 1, 3, 7, 15, 31, 15, 79, 207, 463, 975, 2047, 4095, 8191, 16383, 32767, 65535, 131071, 16383, 278527, 1048575, 2097151, 4194303, 8388607, 16777215, 33554431, 67108863, 134217727, 268435455, 33554431, 570425343, 2147483647, 4294967295, 8589934591, 33554431, 17213423615, 68719476735, 137438953471, 274877906943] [0, 1, 2, 3, 4, 6, 7, 8, 5, 9, 10, 11, 12, 13, 14, 15, 16, 17, 18, 19, 20, 21, 22, 23, 24, 25, 26, 27, 28, 29, 30, 31, 32, 33, 34, 35, 36, 37, 38] (by kernel_rfl) rfl (by kernel_rfl) ?_
    refine mix_pure (v := ?_) (by simp only [List.getElem?_toArray, List.getElem?_cons_zero] <;> rfl) (by kernel_rfl) ⟨Or.inl ⟨by kernel_rfl, ?_⟩, fun _ => (by rfl)⟩ ?_; rotate_left 1; focus (intro w; go_simp; try with_reducible rfl)
    simp only [Act.put, List.setIfInBounds_toArray, List.set_cons_zero, List.set_cons_succ]
    refine mix_step (by simp only [List.getElem?_toArray, List.getElem?_cons_succ, List.getElem?_cons_zero] <;> rfl) (by kernel_rfl) (fun K hK => ?_)
    go_simp
    refine hK _ _ ?_
    clear hK K
    refine mix_pure (v := ?_) (by simp only [List.getElem?_toArray, List.getElem?_cons_succ, List.getElem?_cons_zero] <;> rfl) (by kernel_rfl) ⟨Or.inl ⟨by kernel_rfl, ?_⟩, fun _ => (by rfl)⟩ ?_; rotate_left 1; focus (intro w; go_simp; try with_reducible rfl)
    simp only [Act.put, List.setIfInBounds_toArray, List.set_cons_zero, List.set_cons_succ]
    refine mix_pure (v := ?_) (by simp only [List.getElem?_toArray, List.getElem?_cons_succ, List.getElem?_cons_zero] <;> rfl) (by kernel_rfl) ⟨Or.inl ⟨by kernel_rfl, ?_⟩, fun _ => (by rfl)⟩ ?_; rotate_left 1; focus (intro w; go_simp; try with_reducible rfl)
    simp only [Act.put, List.setIfInBounds_toArray, List.set_cons_zero, List.set_cons_succ]
    refine mix_pure (v := ?_) (by simp only [List.getElem?_toArray, List.getElem?_cons_succ, List.getElem?_cons_zero] <;> rfl) (by kernel_rfl) ⟨Or.inl ⟨by kernel_rfl, ?_⟩, fun _ => (by rfl)⟩ ?_; rotate_left 1; focus (intro w; go_simp; try with_reducible rfl)
    simp only [Act.put, List.setIfInBounds_toArray, List.set_cons_zero, List.set_cons_succ]
    refine mix_pure (v := ?_) (by simp only [List.getElem?_toArray, List.getElem?_cons_succ, List.getElem?_cons_zero] <;> rfl) (by kernel_rfl) ⟨Or.inl ⟨by kernel_rfl, ?_⟩, fun _ => (by rfl)⟩ ?_; rotate_left 1; focus (intro w; go_simp; try with_reducible rfl)
    simp only [Act.put, List.setIfInBounds_toArray, List.set_cons_zero, List.set_cons_succ]
    refine mix_pure (v := ?_) (by simp only [List.getElem?_toArray, List.getElem?_cons_succ, List.getElem?_cons_zero] <;> rfl) (by kernel_rfl) ⟨Or.inl ⟨by kernel_rfl, ?_⟩, fun _ => (by rfl)⟩ ?_; rotate_left 1; focus (intro w; go_simp; try with_reducible rfl)
    simp only [Act.put, List.setIfInBounds_toArray, List.set_cons_zero, List.set_cons_succ]
    refine mix_pure (v := ?_) (by simp only [List.getElem?_toArray, List.getElem?_cons_succ, List.getElem?_cons_zero] <;> rfl) (by kernel_rfl) ⟨Or.inl ⟨by kernel_rfl, ?_⟩, fun _ => (by rfl)⟩ ?_; rotate_left 1; focus (intro w; go_simp; try with_reducible rfl)
    simp only [Act.put, List.setIfInBounds_toArray, List.set_cons_zero, List.set_cons_succ]
    refine mix_step (by simp only [List.getElem?_toArray, List.getElem?_cons_succ, List.getElem?_cons_zero] <;> rfl) (by kernel_rfl) (fun K hK => ?_)
    go_simp
    refine hK _ _ ?_
    clear hK K
    refine mix_step (by simp only [List.getElem?_toArray, List.getElem?_cons_succ, List.getElem?_cons_zero] <;> rfl) (by kernel_rfl) (fun K hK => ?_)
    go_simp
    refine hK _ _ ?_
    clear hK K
    refine mix_pure (v := ?_) (by simp only [List.getElem?_toArray, List.getElem?_cons_succ, List.getElem?_cons_zero] <;> rfl) (by kernel_rfl) ⟨Or.inl ⟨by kernel_rfl, ?_⟩, fun _ => (by rfl)⟩ ?_; rotate_left 1; focus (intro w; go_simp; try with_reducible rfl)
    simp only [Act.put, List.setIfInBounds_toArray, List.set_cons_zero, List.set_cons_succ]
    refine mix_pure (v := ?_) (by simp only [List.getElem?_toArray, List.getElem?_cons_succ, List.getElem?_cons_zero] <;> rfl) (by kernel_rfl) ⟨Or.inl ⟨by kernel_rfl, ?_⟩, fun _ => (by rfl)⟩ ?_; rotate_left 1; focus (intro w; go_simp; try with_reducible rfl)
    simp only [Act.put, List.setIfInBounds_toArray, List.set_cons_zero, List.set_cons_succ]
    refine mix_pure (v := ?_) (by simp only [List.getElem?_toArray, List.getElem?_cons_succ, List.getElem?_cons_zero] <;> rfl) (by kernel_rfl) ⟨Or.inl ⟨by kernel_rfl, ?_⟩, fun _ => (by rfl)⟩ ?_; rotate_left 1; focus (intro w; go_simp; try with_reducible rfl)
    simp only [Act.put, List.setIfInBounds_toArray, List.set_cons_zero, List.set_cons_succ]
    refine mix_pure (v := ?_) (by simp only [List.getElem?_toArray, List.getElem?_cons_succ, List.getElem?_cons_zero] <;> rfl) (by kernel_rfl) ⟨Or.inl ⟨by kernel_rfl, ?_⟩, fun _ => (by rfl)⟩ ?_; rotate_left 1; focus (intro w; go_simp; try with_reducible rfl)
    simp only [Act.put, List.setIfInBounds_toArray, List.set_cons_zero, List.set_cons_succ]
    refine mix_pure (v := undef) (by simp only [List.getElem?_toArray, List.getElem?_cons_succ, List.getElem?_cons_zero] <;> rfl) (by kernel_rfl) ⟨Or.inr ⟨by kernel_rfl, rfl⟩, fun _ => (by rfl)⟩ ?_
    simp only [Act.put, List.setIfInBounds_toArray, List.set_cons_zero, List.set_cons_succ]
    refine mix_pure (v := undef) (by simp only [List.getElem?_toArray, List.getElem?_cons_succ, List.getElem?_cons_zero] <;> rfl) (by kernel_rfl) ⟨Or.inr ⟨by kernel_rfl, rfl⟩, fun _ => (by rfl)⟩ ?_
    simp only [Act.put, List.setIfInBounds_toArray, List.set_cons_zero, List.set_cons_succ]
    refine mix_pure (v := undef) (by simp only [List.getElem?_toArray, List.getElem?_cons_succ, List.getElem?_cons_zero] <;> rfl) (by kernel_rfl) ⟨Or.inr ⟨by kernel_rfl, rfl⟩, fun _ => (by rfl)⟩ ?_
    simp only [Act.put, List.setIfInBounds_toArray, List.set_cons_zero, List.set_cons_succ]
    refine mix_pure (v := undef) (by simp only [List.getElem?_toArray, List.getElem?_cons_succ, List.getElem?_cons_zero] <;> rfl) (by kernel_rfl) ⟨Or.inr ⟨by kernel_rfl, rfl⟩, fun _ => (by rfl)⟩ ?_
    simp only [Act.put, List.setIfInBounds_toArray, List.set_cons_zero, List.set_cons_succ]
    refine mix_pure (v := undef) (by simp only [List.getElem?_toArray, List.getElem?_cons_succ, List.getElem?_cons_zero] <;> rfl) (by kernel_rfl) ⟨Or.inr ⟨by kernel_rfl, rfl⟩, fun _ => (by rfl)⟩ ?_
    simp only [Act.put, List.setIfInBounds_toArray, List.set_cons_zero, List.set_cons_succ]
    refine mix_pure (v := undef) (by simp only [List.getElem?_toArray, List.getElem?_cons_succ, List.getElem?_cons_zero] <;> rfl) (by kernel_rfl) ⟨Or.inr ⟨by kernel_rfl, rfl⟩, fun _ => (by rfl)⟩ ?_
    simp only [Act.put, List.setIfInBounds_toArray, List.set_cons_zero, List.set_cons_succ]
    refine mix_pure (v := undef) (by simp only [List.getElem?_toArray, List.getElem?_cons_succ, List.getElem?_cons_zero] <;> rfl) (by kernel_rfl) ⟨Or.inr ⟨by kernel_rfl, rfl⟩, fun _ => (by rfl)⟩ ?_
    simp only [Act.put, List.setIfInBounds_toArray, List.set_cons_zero, List.set_cons_succ]
    refine mix_pure (v := undef) (by simp only [List.getElem?_toArray, List.getElem?_cons_succ, List.getElem?_cons_zero] <;> rfl) (by kernel_rfl) ⟨Or.inr ⟨by kernel_rfl, rfl⟩, fun _ => (by rfl)⟩ ?_
    simp only [Act.put, List.setIfInBounds_toArray, List.set_cons_zero, List.set_cons_succ]
    refine mix_pure (v := undef) (by simp only [List.getElem?_toArray, List.getElem?_cons_succ, List.getElem?_cons_zero] <;> rfl) (by kernel_rfl) ⟨Or.inr ⟨by kernel_rfl, rfl⟩, fun _ => (by rfl)⟩ ?_
    simp only [Act.put, List.setIfInBounds_toArray, List.set_cons_zero, List.set_cons_succ]
    refine mix_pure (v := ?_) (by simp only [List.getElem?_toArray, List.getElem?_cons_succ, List.getElem?_cons_zero] <;> rfl) (by kernel_rfl) ⟨Or.inl ⟨by kernel_rfl, ?_⟩, fun _ => (by rfl)⟩ ?_; rotate_left 1; focus (intro w; go_simp; try with_reducible rfl)
    simp only [Act.put, List.setIfInBounds_toArray, List.set_cons_zero, List.set_cons_succ]
    refine mix_pure (v := ?_) (by simp only [List.getElem?_toArray, List.getElem?_cons_succ, List.getElem?_cons_zero] <;> rfl) (by kernel_rfl) ⟨Or.inl ⟨by kernel_rfl, ?_⟩, fun _ => (by rfl)⟩ ?_; rotate_left 1; focus (intro w; go_simp; try with_reducible rfl)
    simp only [Act.put, List.setIfInBounds_toArray, List.set_cons_zero, List.set_cons_succ]
    refine mix_pure (v := undef) (by simp only [List.getElem?_toArray, List.getElem?_cons_succ, List.getElem?_cons_zero] <;> rfl) (by kernel_rfl) ⟨Or.inr ⟨by kernel_rfl, rfl⟩, fun _ => (by rfl)⟩ ?_
    simp only [Act.put, List.setIfInBounds_toArray, List.set_cons_zero, List.set_cons_succ]
    refine mix_pure (v := undef) (by simp only [List.getElem?_toArray, List.getElem?_cons_succ, List.getElem?_cons_zero] <;> rfl) (by kernel_rfl) ⟨Or.inr ⟨by kernel_rfl, rfl⟩, fun _ => (by rfl)⟩ ?_
    simp only [Act.put, List.setIfInBounds_toArray, List.set_cons_zero, List.set_cons_succ]
    refine mix_pure (v := undef) (by simp only [List.getElem?_toArray, List.getElem?_cons_succ, List.getElem?_cons_zero] <;> rfl) (by kernel_rfl) ⟨Or.inr ⟨by kernel_rfl, rfl⟩, fun _ => (by rfl)⟩ ?_
    simp only [Act.put, List.setIfInBounds_toArray, List.set_cons_zero, List.set_cons_succ]
    refine mix_pure (v := undef) (by simp only [List.getElem?_toArray, List.getElem?_cons_succ, List.getElem?_cons_zero] <;> rfl) (by kernel_rfl) ⟨Or.inr ⟨by kernel_rfl, rfl⟩, fun _ => (by rfl)⟩ ?_
    simp only [Act.put, List.setIfInBounds_toArray, List.set_cons_zero, List.set_cons_succ]
    refine mix_pure (v := undef) (by simp only [List.getElem?_toArray, List.getElem?_cons_succ, List.getElem?_cons_zero] <;> rfl) (by kernel_rfl) ⟨Or.inr ⟨by kernel_rfl, rfl⟩, fun _ => (by rfl)⟩ ?_
    simp only [Act.put, List.setIfInBounds_toArray, List.set_cons_zero, List.set_cons_succ]
    refine mix_pure (v := undef) (by simp only [List.getElem?_toArray, List.getElem?_cons_succ, List.getElem?_cons_zero] <;> rfl) (by kernel_rfl) ⟨Or.inr ⟨by kernel_rfl, rfl⟩, fun _ => (by rfl)⟩ ?_
    simp only [Act.put, List.setIfInBounds_toArray, List.set_cons_zero, List.set_cons_succ]
    refine mix_pure (v := undef) (by simp only [List.getElem?_toArray, List.getElem?_cons_succ, List.getElem?_cons_zero] <;> rfl) (by kernel_rfl) ⟨Or.inr ⟨by kernel_rfl, rfl⟩, fun _ => (by rfl)⟩ ?_
    simp only [Act.put, List.setIfInBounds_toArray, List.set_cons_zero, List.set_cons_succ]
    refine mix_pure (v := undef) (by simp only [List.getElem?_toArray, List.getElem?_cons_succ, List.getElem?_cons_zero] <;> rfl) (by kernel_rfl) ⟨Or.inr ⟨by kernel_rfl, rfl⟩, fun _ => (by rfl)⟩ ?_
    simp only [Act.put, List.setIfInBounds_toArray, List.set_cons_zero, List.set_cons_succ]
    refine mix_pure (v := undef) (by simp only [List.getElem?_toArray, List.getElem?_cons_succ, List.getElem?_cons_zero] <;> rfl) (by kernel_rfl) ⟨Or.inr ⟨by kernel_rfl, rfl⟩, fun _ => (by rfl)⟩ ?_
    simp only [Act.put, List.setIfInBounds_toArray, List.set_cons_zero, List.set_cons_succ]
    refine mix_pure (v := undef) (by simp only [List.getElem?_toArray, List.getElem?_cons_succ, List.getElem?_cons_zero] <;> rfl) (by kernel_rfl) ⟨Or.inr ⟨by kernel_rfl, rfl⟩, fun _ => (by rfl)⟩ ?_
    simp only [Act.put, List.setIfInBounds_toArray, List.set_cons_zero, List.set_cons_succ]
    refine mix_pure (v := undef) (by simp only [List.getElem?_toArray, List.getElem?_cons_succ, List.getElem?_cons_zero] <;> rfl) (by kernel_rfl) ⟨Or.inr ⟨by kernel_rfl, rfl⟩, fun _ => (by rfl)⟩ ?_
    simp only [Act.put, List.setIfInBounds_toArray, List.set_cons_zero, List.set_cons_succ]
    refine mix_pure (v := undef) (by simp only [List.getElem?_toArray, List.getElem?_cons_succ, List.getElem?_cons_zero] <;> rfl) (by kernel_rfl) ⟨Or.inr ⟨by kernel_rfl, rfl⟩, fun _ => (by rfl)⟩ ?_
    simp only [Act.put, List.setIfInBounds_toArray, List.set_cons_zero, List.set_cons_succ]
    refine mix_pure (v := ?_) (by simp only [List.getElem?_toArray, List.getElem?_cons_succ, List.getElem?_cons_zero] <;> rfl) (by kernel_rfl) ⟨Or.inl ⟨by kernel_rfl, ?_⟩, fun _ => (by rfl)⟩ ?_; rotate_left 1; focus (intro w; go_simp; try with_reducible rfl)
    simp only [Act.put, List.setIfInBounds_toArray, List.set_cons_zero, List.set_cons_succ]
    refine mix_pure (v := ?_) (by simp only [List.getElem?_toArray, List.getElem?_cons_succ, List.getElem?_cons_zero] <;> rfl) (by kernel_rfl) ⟨Or.inl ⟨by kernel_rfl, ?_⟩, fun _ => (by rfl)⟩ ?_; rotate_left 1; focus (intro w; go_simp; try with_reducible rfl)
    simp only [Act.put, List.setIfInBounds_toArray, List.set_cons_zero, List.set_cons_succ]
    refine mix_end ?_
    go_wp2_with fail
    go_ret
    exact ⟨rfl, HX.out.low.drew⟩
theorem lives_in {W : World} {r gr : Nat} {l : List Ce} (h : RAt W r gr l) (x : Nat) (k : Int) (hx : x < l.length) (t : Ce) (ht : l[x]? = some t) :
    Calls Try.prog 45 #[.pointer (some ⟨r, 0, none⟩), refV x k] W fun e w' => e = .returned (.bool (t.t && t.u == k)) ∧ Below W.heap.size W w' := by
  obtain ⟨W1, hb⟩ := h.boxed x k
  have HX := Lib.hid hb
  have HW := Lib.hid hb.is
  obtain ⟨r0, r1⟩ := hb.ref
  have c0 := hb.at'.hr.cell 0
  simp only [List.getElem?_toArray, List.getElem?_cons_zero] at c0
  obtain ⟨n, hn⟩ : ∃ n : Nat, l.length = n := ⟨_, rfl⟩
  obtain ⟨tx, tu, tt⟩ := t
  obtain ⟨e0, e1, e2⟩ := hb.at'.one x _ ht
  dsimp only at e0 e1 e2
  rw [hn] at c0 hx
  have q1 : decide (0 ≤ (x : Int)) = true := decide_eq_true (by omega)
  have q2 : decide ((x : Int) < (n : Int)) = true := decide_eq_true (by omega)
  have q3 : (0 : Int) ≤ (x : Int) := Int.natCast_nonneg _
  have q4 : (x : Int) < (n : Int) := by omega
  have q5 : decide (x < n) = true := decide_eq_true (by omega)
  dsimp only
  clear h hb hx hn ht
  cases tt
  ·
    go_enter Try.func45, Try.ntmps45
    go_upto_region 1 with fail
    rw [← HW.out]
    refine (wpIn_wide (n := 0)).1 ?_
    refine region_mix [0, 2, 3, 4, 6, 7, 8, 10, 11, 12, 13, 14, 15, 16, 18, 20, 21, 23, 24, 25, 26, 27, 28, 29, 30, 31, 32, 33, 34, 35, 36, 37, 38] [0, 1, 3, 7, 15, 31, 15, 79, 207, 463, 975, 2047, 4095, 8191, 16383, 32767, 65535, 131071, 16383, 278527, 1048575, 2097151, 4194303, 8388607, 16777215, 33554431, 67108863, 134217727, 268435455, 33554431, 570425343, 2147483647, 4294967295, 8589934591, 33554431, 17213423615, 68719476735, 137438953471, 274877906943] [0, 1, 2, 3, 4, 6, 7, 8, 5, 9, 10, 11, 12, 13, 14, 15, 16, 18, 17, 19, 20, 21, 22, 23, 24, 25, 26, 27, 28, 29, 30, 31, 32, 33, 34, 35, 36, 37, 38] (by kernel_rfl) rfl (by kernel_rfl) ?_
    refine mix_pure (v := ?_) (by simp only [List.getElem?_toArray, List.getElem?_cons_zero] <;> rfl) (by kernel_rfl) ⟨Or.inl ⟨by kernel_rfl, ?_⟩, fun _ => (by rfl)⟩ ?_; rotate_left 1; focus (intro w; go_simp; try with_reducible rfl)
    simp only [Act.put, List.setIfInBounds_toArray, List.set_cons_zero, List.set_cons_succ]
    refine mix_step (by simp only [List.getElem?_toArray, List.getElem?_cons_succ, List.getElem?_cons_zero] <;> rfl) (by kernel_rfl) (fun K hK => ?_)
    go_simp
    refine hK _ _ ?_
    clear hK K
    refine mix_pure (v := ?_) (by simp only [List.getElem?_toArray, List.getElem?_cons_succ, List.getElem?_cons_zero] <;> rfl) (by kernel_rfl) ⟨Or.inl ⟨by kernel_rfl, ?_⟩, fun _ => (by rfl)⟩ ?_; rotate_left 1; focus (intro w; go_simp; try with_reducible rfl)
    simp only [Act.put, List.setIfInBounds_toArray, List.set_cons_zero, List.set_cons_succ]
    refine mix_pure (v := ?_) (by simp only [List.getElem?_toArray, List.getElem?_cons_succ, List.getElem?_cons_zero] <;> rfl) (by kernel_rfl) ⟨Or.inl ⟨by kernel_rfl, ?_⟩, fun _ => (by rfl)⟩ ?_; rotate_left 1; focus (intro w; go_simp; try with_reducible rfl)
    simp only [Act.put, List.setIfInBounds_toArray, List.set_cons_zero, List.set_cons_succ]
    refine mix_pure (v := ?_) (by simp only [List.getElem?_toArray, List.getElem?_cons_succ, List.getElem?_cons_zero] <;> rfl) (by kernel_rfl) ⟨Or.inl ⟨by kernel_rfl, ?_⟩, fun _ => (by rfl)⟩ ?_; rotate_left 1; focus (intro w; go_simp; try with_reducible rfl)
    simp only [Act.put, List.setIfInBounds_toArray, List.set_cons_zero, List.set_cons_succ]
    refine mix_pure (v := ?_) (by simp only [List.getElem?_toArray, List.getElem?_cons_succ, List.getElem?_cons_zero] <;> rfl) (by kernel_rfl) ⟨Or.inl ⟨by kernel_rfl, ?_⟩, fun _ => (by rfl)⟩ ?_; rotate_left 1; focus (intro w; go_simp; try with_reducible rfl)
    simp only [Act.put, List.setIfInBounds_toArray, List.set_cons_zero, List.set_cons_succ]
    refine mix_pure (v := ?_) (by simp only [List.getElem?_toArray, List.getElem?_cons_succ, List.getElem?_cons_zero] <;> rfl) (by kernel_rfl) ⟨Or.inl ⟨by kernel_rfl, ?_⟩, fun _ => (by rfl)⟩ ?_; rotate_left 1; focus (intro w; go_simp; try with_reducible rfl)
    simp only [Act.put, List.setIfInBounds_toArray, List.set_cons_zero, List.set_cons_succ]
    refine mix_pure (v := ?_) (by simp only [List.getElem?_toArray, List.getElem?_cons_succ, List.getElem?_cons_zero] <;> rfl) (by kernel_rfl) ⟨Or.inl ⟨by kernel_rfl, ?_⟩, fun _ => (by rfl)⟩ ?_; rotate_left 1; focus (intro w; go_simp; try with_reducible rfl)
    simp only [Act.put, List.setIfInBounds_toArray, List.set_cons_zero, List.set_cons_succ]
    refine mix_step (by simp only [List.getElem?_toArray, List.getElem?_cons_succ, List.getElem?_cons_zero] <;> rfl) (by kernel_rfl) (fun K hK => ?_)
    go_simp
    refine hK _ _ ?_
    clear hK K
    refine mix_step (by simp only [List.getElem?_toArray, List.getElem?_cons_succ, List.getElem?_cons_zero] <;> rfl) (by kernel_rfl) (fun K hK => ?_)
    go_simp
    refine hK _ _ ?_
    clear hK K
    refine mix_pure (v := ?_) (by simp only [List.getElem?_toArray, List.getElem?_cons_succ, List.getElem?_cons_zero] <;> rfl) (by kernel_rfl) ⟨Or.inl ⟨by kernel_rfl, ?_⟩, fun _ => (by rfl)⟩ ?_; rotate_left 1; focus (intro w; go_simp; try with_reducible rfl)
    simp only [Act.put, List.setIfInBounds_toArray, List.set_cons_zero, List.set_cons_succ]
    refine mix_pure (v := ?_) (by simp only [List.getElem?_toArray, List.getElem?_cons_succ, List.getElem?_cons_zero] <;> rfl) (by kernel_rfl) ⟨Or.inl ⟨by kernel_rfl, ?_⟩, fun _ => (by rfl)⟩ ?_; rotate_left 1; focus (intro w; go_simp; try with_reducible rfl)
    simp only [Act.put, List.setIfInBounds_toArray, List.set_cons_zero, List.set_cons_succ]
    refine mix_pure (v := ?_) (by simp only [List.getElem?_toArray, List.getElem?_cons_succ, List.getElem?_cons_zero] <;> rfl) (by kernel_rfl) ⟨Or.inl ⟨by kernel_rfl, ?_⟩, fun _ => (by rfl)⟩ ?_; rotate_left 1; focus (intro w; go_simp; try with_reducible rfl)
    simp only [Act.put, List.setIfInBounds_toArray, List.set_cons_zero, List.set_cons_succ]
    refine mix_pure (v := ?_) (by simp only [List.getElem?_toArray, List.getElem?_cons_succ, List.getElem?_cons_zero] <;> rfl) (by kernel_rfl) ⟨Or.inl ⟨by kernel_rfl, ?_⟩, fun _ => (by rfl)⟩ ?_; rotate_left 1; focus (intro w; go_simp; try with_reducible rfl)
    simp only [Act.put, List.setIfInBounds_toArray, List.set_cons_zero, List.set_cons_succ]
    refine mix_pure (v := ?_) (by simp only [List.getElem?_toArray, List.getElem?_cons_succ, List.getElem?_cons_zero] <;> rfl) (by kernel_rfl) ⟨Or.inl ⟨by kernel_rfl, ?_⟩, fun _ => (by rfl)⟩ ?_; rotate_left 1; focus (intro w; go_simp; try with_reducible rfl)
    simp only [Act.put, List.setIfInBounds_toArray, List.set_cons_zero, List.set_cons_succ]
    refine mix_pure (v := ?_) (by simp only [List.getElem?_toArray, List.getElem?_cons_succ, List.getElem?_cons_zero] <;> rfl) (by kernel_rfl) ⟨Or.inl ⟨by kernel_rfl, ?_⟩, fun _ => (by rfl)⟩ ?_; rotate_left 1; focus (intro w; go_simp; try with_reducible rfl)
    simp only [Act.put, List.setIfInBounds_toArray, List.set_cons_zero, List.set_cons_succ]
    refine mix_pure (v := ?_) (by simp only [List.getElem?_toArray, List.getElem?_cons_succ, List.getElem?_cons_zero] <;> rfl) (by kernel_rfl) ⟨Or.inl ⟨by kernel_rfl, ?_⟩, fun _ => (by rfl)⟩ ?_; rotate_left 1; focus (intro w; go_simp; try with_reducible rfl)
    simp only [Act.put, List.setIfInBounds_toArray, List.set_cons_zero, List.set_cons_succ]
    refine mix_pure (v := ?_) (by simp only [List.getElem?_toArray, List.getElem?_cons_succ, List.getElem?_cons_zero] <;> rfl) (by kernel_rfl) ⟨Or.inl ⟨by kernel_rfl, ?_⟩, fun _ => (by rfl)⟩ ?_; rotate_left 1; focus (intro w; go_simp; try with_reducible rfl)
    simp only [Act.put, List.setIfInBounds_toArray, List.set_cons_zero, List.set_cons_succ]
    refine mix_step (by simp only [List.getElem?_toArray, List.getElem?_cons_succ, List.getElem?_cons_zero] <;> rfl) (by kernel_rfl) (fun K hK => ?_)
    go_simp
    refine hK _ _ ?_
    clear hK K
    refine mix_step (by simp only [List.getElem?_toArray, List.getElem?_cons_succ, List.getElem?_cons_zero] <;> rfl) (by kernel_rfl) (fun K hK => ?_)
    go_simp
    refine hK _ _ ?_
    clear hK K
    refine mix_pure (v := ?_) (by simp only [List.getElem?_toArray, List.getElem?_cons_succ, List.getElem?_cons_zero] <;> rfl) (by kernel_rfl) ⟨Or.inl ⟨by kernel_rfl, ?_⟩, fun _ => (by rfl)⟩ ?_; rotate_left 1; focus (intro w; go_simp; try with_reducible rfl)
    simp only [Act.put, List.setIfInBounds_toArray, List.set_cons_zero, List.set_cons_succ]
    refine mix_pure (v := ?_) (by simp only [List.getElem?_toArray, List.getElem?_cons_succ, List.getElem?_cons_zero] <;> rfl) (by kernel_rfl) ⟨Or.inl ⟨by kernel_rfl, ?_⟩, fun _ => (by rfl)⟩ ?_; rotate_left 1; focus (intro w; go_simp; try with_reducible rfl)
    simp only [Act.put, List.setIfInBounds_toArray, List.set_cons_zero, List.set_cons_succ]
    refine mix_step (by simp only [List.getElem?_toArray, List.getElem?_cons_succ, List.getElem?_cons_zero] <;> rfl) (by kernel_rfl) (fun K hK => ?_)
    go_simp
    refine hK _ _ ?_
    clear hK K
    refine mix_pure (v := ?_) (by simp only [List.getElem?_toArray, List.getElem?_cons_succ, List.getElem?_cons_zero] <;> rfl) (by kernel_rfl) ⟨Or.inl ⟨by kernel_rfl, ?_⟩, fun _ => (by rfl)⟩ ?_; rotate_left 1; focus (intro w; go_simp; try with_reducible rfl)
    simp only [Act.put, List.setIfInBounds_toArray, List.set_cons_zero, List.set_cons_succ]
    refine mix_pure (v := ?_) (by simp only [List.getElem?_toArray, List.getElem?_cons_succ, List.getElem?_cons_zero] <;> rfl) (by kernel_rfl) ⟨Or.inl ⟨by kernel_rfl, ?_⟩, fun _ => (by rfl)⟩ ?_; rotate_left 1; focus (intro w; go_simp; try with_reducible rfl)
    simp only [Act.put, List.setIfInBounds_toArray, List.set_cons_zero, List.set_cons_succ]
    refine mix_pure (v := undef) (by simp only [List.getElem?_toArray, List.getElem?_cons_succ, List.getElem?_cons_zero] <;> rfl) (by kernel_rfl) ⟨Or.inr ⟨by kernel_rfl, rfl⟩, fun _ => (by rfl)⟩ ?_
    simp only [Act.put, List.setIfInBounds_toArray, List.set_cons_zero, List.set_cons_succ]
    refine mix_pure (v := undef) (by simp only [List.getElem?_toArray, List.getElem?_cons_succ, List.getElem?_cons_zero] <;> rfl) (by kernel_rfl) ⟨Or.inr ⟨by kernel_rfl, rfl⟩, fun _ => (by rfl)⟩ ?_
    simp only [Act.put, List.setIfInBounds_toArray, List.set_cons_zero, List.set_cons_succ]
    refine mix_pure (v := undef) (by simp only [List.getElem?_toArray, List.getElem?_cons_succ, List.getElem?_cons_zero] <;> rfl) (by kernel_rfl) ⟨Or.inr ⟨by kernel_rfl, rfl⟩, fun _ => (by rfl)⟩ ?_
    simp only [Act.put, List.setIfInBounds_toArray, List.set_cons_zero, List.set_cons_succ]
    refine mix_pure (v := undef) (by simp only [List.getElem?_toArray, List.getElem?_cons_succ, List.getElem?_cons_zero] <;> rfl) (by kernel_rfl) ⟨Or.inr ⟨by kernel_rfl, rfl⟩, fun _ => (by rfl)⟩ ?_
    simp only [Act.put, List.setIfInBounds_toArray, List.set_cons_zero, List.set_cons_succ]
    refine mix_pure (v := undef) (by simp only [List.getElem?_toArray, List.getElem?_cons_succ, List.getElem?_cons_zero] <;> rfl) (by kernel_rfl) ⟨Or.inr ⟨by kernel_rfl, rfl⟩, fun _ => (by rfl)⟩ ?_
    simp only [Act.put, List.setIfInBounds_toArray, List.set_cons_zero, List.set_cons_succ]
    refine mix_pure (v := undef) (by simp only [List.getElem?_toArray, List.getElem?_cons_succ, List.getElem?_cons_zero] <;> rfl) (by kernel_rfl) ⟨Or.inr ⟨by kernel_rfl, rfl⟩, fun _ => (by rfl)⟩ ?_
    simp only [Act.put, List.setIfInBounds_toArray, List.set_cons_zero, List.set_cons_succ]
    refine mix_pure (v := undef) (by simp only [List.getElem?_toArray, List.getElem?_cons_succ, List.getElem?_cons_zero] <;> rfl) (by kernel_rfl) ⟨Or.inr ⟨by kernel_rfl, rfl⟩, fun _ => (by rfl)⟩ ?_
    simp only [Act.put, List.setIfInBounds_toArray, List.set_cons_zero, List.set_cons_succ]
    refine mix_pure (v := undef) (by simp only [List.getElem?_toArray, List.getElem?_cons_succ, List.getElem?_cons_zero] <;> rfl) (by kernel_rfl) ⟨Or.inr ⟨by kernel_rfl, rfl⟩, fun _ => (by rfl)⟩ ?_
    simp only [Act.put, List.setIfInBounds_toArray, List.set_cons_zero, List.set_cons_succ]
    refine mix_pure (v := undef) (by simp only [List.getElem?_toArray, List.getElem?_cons_succ, List.getElem?_cons_zero] <;> rfl) (by kernel_rfl) ⟨Or.inr ⟨by kernel_rfl, rfl⟩, fun _ => (by rfl)⟩ ?_
    simp only [Act.put, List.setIfInBounds_toArray, List.set_cons_zero, List.set_cons_succ]
    refine mix_pure (v := undef) (by simp only [List.getElem?_toArray, List.getElem?_cons_succ, List.getElem?_cons_zero] <;> rfl) (by kernel_rfl) ⟨Or.inr ⟨by kernel_rfl, rfl⟩, fun _ => (by rfl)⟩ ?_
    simp only [Act.put, List.setIfInBounds_toArray, List.set_cons_zero, List.set_cons_succ]
    refine mix_pure (v := undef) (by simp only [List.getElem?_toArray, List.getElem?_cons_succ, List.getElem?_cons_zero] <;> rfl) (by kernel_rfl) ⟨Or.inr ⟨by kernel_rfl, rfl⟩, fun _ => (by rfl)⟩ ?_
    simp only [Act.put, List.setIfInBounds_toArray, List.set_cons_zero, List.set_cons_succ]
    refine mix_pure (v := undef) (by simp only [List.getElem?_toArray, List.getElem?_cons_succ, List.getElem?_cons_zero] <;> rfl) (by kernel_rfl) ⟨Or.inr ⟨by kernel_rfl, rfl⟩, fun _ => (by rfl)⟩ ?_
    simp only [Act.put, List.setIfInBounds_toArray, List.set_cons_zero, List.set_cons_succ]
    refine mix_pure (v := ?_) (by simp only [List.getElem?_toArray, List.getElem?_cons_succ, List.getElem?_cons_zero] <;> rfl) (by kernel_rfl) ⟨Or.inl ⟨by kernel_rfl, ?_⟩, fun _ => (by rfl)⟩ ?_; rotate_left 1; focus (intro w; go_simp; try with_reducible rfl)
    simp only [Act.put, List.setIfInBounds_toArray, List.set_cons_zero, List.set_cons_succ]
    refine mix_pure (v := ?_) (by simp only [List.getElem?_toArray, List.getElem?_cons_succ, List.getElem?_cons_zero] <;> rfl) (by kernel_rfl) ⟨Or.inl ⟨by kernel_rfl, ?_⟩, fun _ => (by rfl)⟩ ?_; rotate_left 1; focus (intro w; go_simp; try with_reducible rfl)
    simp only [Act.put, List.setIfInBounds_toArray, List.set_cons_zero, List.set_cons_succ]
    refine mix_end ?_
    go_wp2_with fail
    go_ret
    exact ⟨rfl, HX.out.low.drew⟩
  ·
    go_enter Try.func45, Try.ntmps45
    go_upto_region 1 with fail
    rw [← HW.out]
    refine (wpIn_wide (n := 0)).1 ?_
    refine region_mix [0, 2, 3, 4, 6, 7, 8, 10, 11, 12, 13, 14, 15, 16, 18, 20, 21, 23, 24, 25, 26, 27, 29, 31, 32, 34, 36, 37, 38] [0, 1, 3, 7, 15, 31, 15, 79, 207, 463, 975, 2047, 4095, 8191, 16383, 32767, 65535, 131071, 16383, 278527, 1048575, 2097151, 4194303, 8388607, 16777215, 33554431, 67108863, 134217727, 268435455, 33554431, 570425343, 2147483647, 4294967295, 8589934591, 33554431, 17213423615, 68719476735, 137438953471, 274877906943] [0, 1, 2, 3, 4, 6, 7, 8, 5, 9, 10, 11, 12, 13, 14, 15, 16, 18, 17, 19, 20, 21, 22, 23, 24, 25, 26, 27, 29, 34, 28, 30, 31, 32, 33, 35, 36, 37, 38] (by kernel_rfl) rfl (by kernel_rfl) ?_
    refine mix_pure (v := ?_) (by simp only [List.getElem?_toArray, List.getElem?_cons_zero] <;> rfl) (by kernel_rfl) ⟨Or.inl ⟨by kernel_rfl, ?_⟩, fun _ => (by rfl)⟩ ?_; rotate_left 1; focus (intro w; go_simp; try with_reducible rfl)
    simp only [Act.put, List.setIfInBounds_toArray, List.set_cons_zero, List.set_cons_succ]
    refine mix_step (by simp only [List.getElem?_toArray, List.getElem?_cons_succ, List.getElem?_cons_zero] <;> rfl) (by kernel_rfl) (fun K hK => ?_)
    go_simp
    refine hK _ _ ?_
    clear hK K
    refine mix_pure (v := ?_) (by simp only [List.getElem?_toArray, List.getElem?_cons_succ, List.getElem?_cons_zero] <;> rfl) (by kernel_rfl) ⟨Or.inl ⟨by kernel_rfl, ?_⟩, fun _ => (by rfl)⟩ ?_; rotate_left 1; focus (intro w; go_simp; try with_reducible rfl)
    simp only [Act.put, List.setIfInBounds_toArray, List.set_cons_zero, List.set_cons_succ]
    refine mix_pure (v := ?_) (by simp only [List.getElem?_toArray, List.getElem?_cons_succ, List.getElem?_cons_zero] <;> rfl) (by kernel_rfl) ⟨Or.inl ⟨by kernel_rfl, ?_⟩, fun _ => (by rfl)⟩ ?_; rotate_left 1; focus (intro w; go_simp; try with_reducible rfl)
    simp only [Act.put, List.setIfInBounds_toArray, List.set_cons_zero, List.set_cons_succ]
    refine mix_pure (v := ?_) (by simp only [List.getElem?_toArray, List.getElem?_cons_succ, List.getElem?_cons_zero] <;> rfl) (by kernel_rfl) ⟨Or.inl ⟨by kernel_rfl, ?_⟩, fun _ => (by rfl)⟩ ?_; rotate_left 1; focus (intro w; go_simp; try with_reducible rfl)
    simp only [Act.put, List.setIfInBounds_toArray, List.set_cons_zero, List.set_cons_succ]
    refine mix_pure (v := ?_) (by simp only [List.getElem?_toArray, List.getElem?_cons_succ, List.getElem?_cons_zero] <;> rfl) (by kernel_rfl) ⟨Or.inl ⟨by kernel_rfl, ?_⟩, fun _ => (by rfl)⟩ ?_; rotate_left 1; focus (intro w; go_simp; try with_reducible rfl)
    simp only [Act.put, List.setIfInBounds_toArray, List.set_cons_zero, List.set_cons_succ]
    refine mix_pure (v := ?_) (by simp only [List.getElem?_toArray, List.getElem?_cons_succ, List.getElem?_cons_zero] <;> rfl) (by kernel_rfl) ⟨Or.inl ⟨by kernel_rfl, ?_⟩, fun _ => (by rfl)⟩ ?_; rotate_left 1; focus (intro w; go_simp; try with_reducible rfl)
    simp only [Act.put, List.setIfInBounds_toArray, List.set_cons_zero, List.set_cons_succ]
    refine mix_pure (v := ?_) (by simp only [List.getElem?_toArray, List.getElem?_cons_succ, List.getElem?_cons_zero] <;> rfl) (by kernel_rfl) ⟨Or.inl ⟨by kernel_rfl, ?_⟩, fun _ => (by rfl)⟩ ?_; rotate_left 1; focus (intro w; go_simp; try with_reducible rfl)
    simp only [Act.put, List.setIfInBounds_toArray, List.set_cons_zero, List.set_cons_succ]
    refine mix_step (by simp only [List.getElem?_toArray, List.getElem?_cons_succ, List.getElem?_cons_zero] <;> rfl) (by kernel_rfl) (fun K hK => ?_)
    go_simp
    refine hK _ _ ?_
    clear hK K
    refine mix_step (by simp only [List.getElem?_toArray, List.getElem?_cons_succ, List.getElem?_cons_zero] <;> rfl) (by kernel_rfl) (fun K hK => ?_)
    go_simp
    refine hK _ _ ?_
    clear hK K
    refine mix_pure (v := ?_) (by simp only [List.getElem?_toArray, List.getElem?_cons_succ, List.getElem?_cons_zero] <;> rfl) (by kernel_rfl) ⟨Or.inl ⟨by kernel_rfl, ?_⟩, fun _ => (by rfl)⟩ ?_; rotate_left 1; focus (intro w; go_simp; try with_reducible rfl)
    simp only [Act.put, List.setIfInBounds_toArray, List.set_cons_zero, List.set_cons_succ]
    refine mix_pure (v := ?_) (by simp only [List.getElem?_toArray, List.getElem?_cons_succ, List.getElem?_cons_zero] <;> rfl) (by kernel_rfl) ⟨Or.inl ⟨by kernel_rfl, ?_⟩, fun _ => (by rfl)⟩ ?_; rotate_left 1; focus (intro w; go_simp; try with_reducible rfl)
    simp only [Act.put, List.setIfInBounds_toArray, List.set_cons_zero, List.set_cons_succ]
    refine mix_pure (v := ?_) (by simp only [List.getElem?_toArray, List.getElem?_cons_succ, List.getElem?_cons_zero] <;> rfl) (by kernel_rfl) ⟨Or.inl ⟨by kernel_rfl, ?_⟩, fun _ => (by rfl)⟩ ?_; rotate_left 1; focus (intro w; go_simp; try with_reducible rfl)
    simp only [Act.put, List.setIfInBounds_toArray, List.set_cons_zero, List.set_cons_succ]
    refine mix_pure (v := ?_) (by simp only [List.getElem?_toArray, List.getElem?_cons_succ, List.getElem?_cons_zero] <;> rfl) (by kernel_rfl) ⟨Or.inl ⟨by kernel_rfl, ?_⟩, fun _ => (by rfl)⟩ ?_; rotate_left 1; focus (intro w; go_simp; try with_reducible rfl)
    simp only [Act.put, List.setIfInBounds_toArray, List.set_cons_zero, List.set_cons_succ]
    refine mix_pure (v := ?_) (by simp only [List.getElem?_toArray, List.getElem?_cons_succ, List.getElem?_cons_zero] <;> rfl) (by kernel_rfl) ⟨Or.inl ⟨by kernel_rfl, ?_⟩, fun _ => (by rfl)⟩ ?_; rotate_left 1; focus (intro w; go_simp; try with_reducible rfl)
    simp only [Act.put, List.setIfInBounds_toArray, List.set_cons_zero, List.set_cons_succ]
    refine mix_pure (v := ?_) (by simp only [List.getElem?_toArray, List.getElem?_cons_succ, List.getElem?_cons_zero] <;> rfl) (by kernel_rfl) ⟨Or.inl ⟨by kernel_rfl, ?_⟩, fun _ => (by rfl)⟩ ?_; rotate_left 1; focus (intro w; go_simp; try with_reducible rfl)
    simp only [Act.put, List.setIfInBounds_toArray, List.set_cons_zero, List.set_cons_succ]
    refine mix_pure (v := ?_) (by simp only [List.getElem?_toArray, List.getElem?_cons_succ, List.getElem?_cons_zero] <;> rfl) (by kernel_rfl) ⟨Or.inl ⟨by kernel_rfl, ?_⟩, fun _ => (by rfl)⟩ ?_; rotate_left 1; focus (intro w; go_simp; try with_reducible rfl)
    simp only [Act.put, List.setIfInBounds_toArray, List.set_cons_zero, List.set_cons_succ]
    refine mix_pure (v := ?_) (by simp only [List.getElem?_toArray, List.getElem?_cons_succ, List.getElem?_cons_zero] <;> rfl) (by kernel_rfl) ⟨Or.inl ⟨by kernel_rfl, ?_⟩, fun _ => (by rfl)⟩ ?_; rotate_left 1; focus (intro w; go_simp; try with_reducible rfl)
    simp only [Act.put, List.setIfInBounds_toArray, List.set_cons_zero, List.set_cons_succ]
    refine mix_step (by simp only [List.getElem?_toArray, List.getElem?_cons_succ, List.getElem?_cons_zero] <;> rfl) (by kernel_rfl) (fun K hK => ?_)
    go_simp
    refine hK _ _ ?_
    clear hK K
    refine mix_step (by simp only [List.getElem?_toArray, List.getElem?_cons_succ, List.getElem?_cons_zero] <;> rfl) (by kernel_rfl) (fun K hK => ?_)
    go_simp
    refine hK _ _ ?_
    clear hK K
    refine mix_pure (v := ?_) (by simp only [List.getElem?_toArray, List.getElem?_cons_succ, List.getElem?_cons_zero] <;> rfl) (by kernel_rfl) ⟨Or.inl ⟨by kernel_rfl, ?_⟩, fun _ => (by rfl)⟩ ?_; rotate_left 1; focus (intro w; go_simp; try with_reducible rfl)
    simp only [Act.put, List.setIfInBounds_toArray, List.set_cons_zero, List.set_cons_succ]
    refine mix_pure (v := ?_) (by simp only [List.getElem?_toArray, List.getElem?_cons_succ, List.getElem?_cons_zero] <;> rfl) (by kernel_rfl) ⟨Or.inl ⟨by kernel_rfl, ?_⟩, fun _ => (by rfl)⟩ ?_; rotate_left 1; focus (intro w; go_simp; try with_reducible rfl)
    simp only [Act.put, List.setIfInBounds_toArray, List.set_cons_zero, List.set_cons_succ]
    refine mix_step (by simp only [List.getElem?_toArray, List.getElem?_cons_succ, List.getElem?_cons_zero] <;> rfl) (by kernel_rfl) (fun K hK => ?_)
    go_simp
    refine hK _ _ ?_
    clear hK K
    refine mix_pure (v := ?_) (by simp only [List.getElem?_toArray, List.getElem?_cons_succ, List.getElem?_cons_zero] <;> rfl) (by kernel_rfl) ⟨Or.inl ⟨by kernel_rfl, ?_⟩, fun _ => (by rfl)⟩ ?_; rotate_left 1; focus (intro w; go_simp; try with_reducible rfl)
    simp only [Act.put, List.setIfInBounds_toArray, List.set_cons_zero, List.set_cons_succ]
    refine mix_pure (v := ?_) (by simp only [List.getElem?_toArray, List.getElem?_cons_succ, List.getElem?_cons_zero] <;> rfl) (by kernel_rfl) ⟨Or.inl ⟨by kernel_rfl, ?_⟩, fun _ => (by rfl)⟩ ?_; rotate_left 1; focus (intro w; go_simp; try with_reducible rfl)
    simp only [Act.put, List.setIfInBounds_toArray, List.set_cons_zero, List.set_cons_succ]
    refine mix_pure (v := ?_) (by simp only [List.getElem?_toArray, List.getElem?_cons_succ, List.getElem?_cons_zero] <;> rfl) (by kernel_rfl) ⟨Or.inl ⟨by kernel_rfl, ?_⟩, fun _ => (by rfl)⟩ ?_; rotate_left 1; focus (intro w; go_simp; try with_reducible rfl)
    simp only [Act.put, List.setIfInBounds_toArray, List.set_cons_zero, List.set_cons_succ]
    refine mix_pure (v := ?_) (by simp only [List.getElem?_toArray, List.getElem?_cons_succ, List.getElem?_cons_zero] <;> rfl) (by kernel_rfl) ⟨Or.inl ⟨by kernel_rfl, ?_⟩, fun _ => (by rfl)⟩ ?_; rotate_left 1; focus (intro w; go_simp; try with_reducible rfl)
    simp only [Act.put, List.setIfInBounds_toArray, List.set_cons_zero, List.set_cons_succ]
    refine mix_pure (v := ?_) (by simp only [List.getElem?_toArray, List.getElem?_cons_succ, List.getElem?_cons_zero] <;> rfl) (by kernel_rfl) ⟨Or.inl ⟨by kernel_rfl, ?_⟩, fun _ => (by rfl)⟩ ?_; rotate_left 1; focus (intro w; go_simp; try with_reducible rfl)
    simp only [Act.put, List.setIfInBounds_toArray, List.set_cons_zero, List.set_cons_succ]
    refine mix_pure (v := ?_) (by simp only [List.getElem?_toArray, List.getElem?_cons_succ, List.getElem?_cons_zero] <;> rfl) (by kernel_rfl) ⟨Or.inl ⟨by kernel_rfl, ?_⟩, fun _ => (by rfl)⟩ ?_; rotate_left 1; focus (intro w; go_simp; try with_reducible rfl)
    simp only [Act.put, List.setIfInBounds_toArray, List.set_cons_zero, List.set_cons_succ]
    refine mix_pure (v := ?_) (by simp only [List.getElem?_toArray, List.getElem?_cons_succ, List.getElem?_cons_zero] <;> rfl) (by kernel_rfl) ⟨Or.inl ⟨by kernel_rfl, ?_⟩, fun _ => (by rfl)⟩ ?_; rotate_left 1; focus (intro w; go_simp; try with_reducible rfl)
    simp only [Act.put, List.setIfInBounds_toArray, List.set_cons_zero, List.set_cons_succ]
    refine mix_step (by simp only [List.getElem?_toArray, List.getElem?_cons_succ, List.getElem?_cons_zero] <;> rfl) (by kernel_rfl) (fun K hK => ?_)
    go_simp
    refine hK _ _ ?_
    clear hK K
    refine mix_step (by simp only [List.getElem?_toArray, List.getElem?_cons_succ, List.getElem?_cons_zero] <;> rfl) (by kernel_rfl) (fun K hK => ?_)
    go_simp
    refine hK _ _ ?_
    clear hK K
    refine mix_pure (v := ?_) (by simp only [List.getElem?_toArray, List.getElem?_cons_succ, List.getElem?_cons_zero] <;> rfl) (by kernel_rfl) ⟨Or.inl ⟨by kernel_rfl, ?_⟩, fun _ => (by rfl)⟩ ?_; rotate_left 1; focus (intro w; go_simp; try with_reducible rfl)
    simp only [Act.put, List.setIfInBounds_toArray, List.set_cons_zero, List.set_cons_succ]
    refine mix_pure (v := ?_) (by simp only [List.getElem?_toArray, List.getElem?_cons_succ, List.getElem?_cons_zero] <;> rfl) (by kernel_rfl) ⟨Or.inl ⟨by kernel_rfl, ?_⟩, fun _ => (by rfl)⟩ ?_; rotate_left 1; focus (intro w; go_simp; try with_reducible rfl)
    simp only [Act.put, List.setIfInBounds_toArray, List.set_cons_zero, List.set_cons_succ]
    refine mix_step (by simp only [List.getElem?_toArray, List.getElem?_cons_succ, List.getElem?_cons_zero] <;> rfl) (by kernel_rfl) (fun K hK => ?_)
    go_simp
    refine hK _ _ ?_
    clear hK K
    refine mix_step (by simp only [List.getElem?_toArray, List.getElem?_cons_succ, List.getElem?_cons_zero] <;> rfl) (by kernel_rfl) (fun K hK => ?_)
    go_simp
    refine hK _ _ ?_
    clear hK K
    refine mix_pure (v := ?_) (by simp only [List.getElem?_toArray, List.getElem?_cons_succ, List.getElem?_cons_zero] <;> rfl) (by kernel_rfl) ⟨Or.inl ⟨by kernel_rfl, ?_⟩, fun _ => (by rfl)⟩ ?_; rotate_left 1; focus (intro w; go_simp; try with_reducible rfl)
    simp only [Act.put, List.setIfInBounds_toArray, List.set_cons_zero, List.set_cons_succ]
    refine mix_pure (v := ?_) (by simp only [List.getElem?_toArray, List.getElem?_cons_succ, List.getElem?_cons_zero] <;> rfl) (by kernel_rfl) ⟨Or.inl ⟨by kernel_rfl, ?_⟩, fun _ => (by rfl)⟩ ?_; rotate_left 1; focus (intro w; go_simp; try with_reducible rfl)
    simp only [Act.put, List.setIfInBounds_toArray, List.set_cons_zero, List.set_cons_succ]
    refine mix_pure (v := ?_) (by simp only [List.getElem?_toArray, List.getElem?_cons_succ, List.getElem?_cons_zero] <;> rfl) (by kernel_rfl) ⟨Or.inl ⟨by kernel_rfl, ?_⟩, fun _ => (by rfl)⟩ ?_; rotate_left 1; focus (intro w; go_simp; try with_reducible rfl)
    simp only [Act.put, List.setIfInBounds_toArray, List.set_cons_zero, List.set_cons_succ]
    refine mix_end ?_
    go_wp2_with fail
    go_ret
    exact ⟨by simp, HX.out.low.drew⟩
theorem lives_any {W : World} {r gr : Nat} {s : Sb} (h : RAt W r gr s.l) (x k : Int) :
    Calls Try.prog 45 #[.pointer (some ⟨r, 0, none⟩), refV x k] W fun e w' => e = .returned (.bool (liveAt s x k).isSome) ∧ Below W.heap.size W w' := by
  by_cases hx : 0 ≤ x ∧ x < s.l.length
  · obtain ⟨i, rfl⟩ : ∃ i : Nat, x = i := ⟨x.toNat, by omega⟩
    have hi : i < s.l.length := by omega
    obtain ⟨t, ht⟩ : ∃ t, s.l[i]? = some t := ⟨s.l[i], List.getElem?_eq_getElem hi⟩
    have e : (liveAt s i k).isSome = (t.t && t.u == k) := by
      unfold liveAt
      rw [if_pos hx, Int.toNat_natCast, ht]
      dsimp only
      cases (t.t && t.u == k) <;> rfl
    rw [e]
    exact lives_in h i k hi t ht
  · have e : liveAt s x k = none := by unfold liveAt; rw [if_neg hx]
    rw [e]
    exact lives_out h x k hx
end Go.Proofs.Ytbbadkgmnfjfaaa
