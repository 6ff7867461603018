/- The reference model of an art: Put, Delete, From. -/
import Derived.Test.YtfffifmpfkkgbaaRef2
import Derived.Test.YtfffifmpfkkgbaaGAr
import Derived.Test.YtfffifmpfkkgbaaGCe
namespace Go.Proofs.Ytfffifmpfkkgbaa
open Go.RowKit Go.Shelf
set_option maxRecDepth 1000000
set_option maxHeartbeats 4000000

theorem put_place {l : List Pr} (hs : SrtP l) (x y : ByteArray) : putP x y l = l.take (atK x (keys l)) ++ (x, y) :: l.drop (atK x (keys l) + (if hasK x (keys l) = true then 1 else 0)) := by
  have hA : atK x (keys l) ≤ l.length := by rw [← keys_len]; exact atK_le _ _
  have l1 : (l.take (atK x (keys l))).length = atK x (keys l) := by rw [List.length_take]; omega
  unfold putP insP
  rw [atK_drop hs, drop_place hs x, List.take_append_of_le_length (by omega), List.drop_append_of_le_length (by omega), List.take_of_length_le (by omega), List.drop_of_length_le (by omega), List.nil_append]
theorem has_keys (x : ByteArray) (l : List Pr) : (x ∈ keys l) ↔ hasK x (keys l) = true := (hasK_iff x (keys l)).symm
/-- The first two appends of Put. -/
theorem put_steps {w4 : World} {L : List Pr} {a : Option Addr} {k : Nat} (hS : Seg w4 (.slice a L.length k) L) {A : Nat} (hA : A ≤ L.length) (hn : L.length < 1000) (x y : ByteArray) :
    ∃ a5 k5 W5 a6 k6 W6,
      (∀ ty, (Builtin.append_ #[26, 26] ty #[.slice (some ⟨w4.heap.size, 0, none⟩) 0 0, .slice a A k]).run Try.prog (w4.alloc (.cells #[] 34)) = .ok (.slice a5 A k5) W5) ∧
      (∀ ty, (Builtin.append_ #[26, 26] ty #[.slice a5 A k5, .slice (some ⟨W5.heap.size, 0, none⟩) 1 1]).run Try.prog (W5.alloc (.cells #[.string x, .string y] 34)) = .ok (.slice a6 (A + 1) k6) W6) ∧
      Below w4.heap.size w4 W5 ∧ Below w4.heap.size w4 W6 ∧ W6.ownsRow w4.heap.size 34 2 (.slice a6 (A + 1) k6) (L.take A ++ [(x, y)]).length (flatP (L.take A ++ [(x, y)])) := by
  have lA : (L.take A).length = A := by rw [List.length_take, Nat.min_eq_left hA]
  obtain ⟨v5, W5, r5, o5, g5⟩ := app_seg (row_none w4) ((hS.take hA).below (Below.new (Below.refl _ _) _)) (by simp) (by simp; omega)
  have b5 : Below w4.heap.size w4 W5 := Below.grown2 (Below.new (Below.refl _ _) _) g5 (fun r hr => ((row_none w4).lt r hr).1)
  rw [List.nil_append] at o5
  obtain ⟨a5, k5, rfl⟩ := row_form o5
  have o5' : (W5.alloc (.cells #[.string x, .string y] 34)).ownsRow w4.heap.size 34 2 (.slice a5 (L.take A).length k5) (L.take A).length (flatP (L.take A)) := row_keep o5 fun j hj => (Below.new (Below.refl _ _) _).block j (o5.lt j hj).2
  have p5 : Seg (W5.alloc (.cells #[.string x, .string y] 34)) (.slice (some ⟨W5.heap.size, 0, none⟩) 1 1) [(x, y)] := Seg.of_row (B := W5.heap.size) (World.ownsRow_lit W5 #[.string x, .string y] 1 (Nat.le_refl _) (by unfold maxLen; omega) rfl)
  obtain ⟨v6, W6, r6, o6, g6⟩ := app_seg o5' p5 (Nat.le_trans b5.size (by simp)) (by simp; omega)
  have b6 : Below w4.heap.size w4 W6 := Below.grown2 (Below.new b5 _) g6 (fun r hr => (o5'.lt r hr).1)
  obtain ⟨a6, k6, rfl⟩ := row_form o6
  have l6 : (L.take A ++ [(x, y)]).length = A + 1 := by rw [List.length_append, lA]; rfl
  refine ⟨a5, k5, W5, a6, k6, W6, ?_, ?_, b5, b6, ?_⟩
  · intro ty; have := r5 ty; rwa [lA] at this
  · intro ty; have := r6 ty; rwa [lA, l6] at this
  · rw [l6] at o6 ⊢; exact o6
end Go.Proofs.Ytfffifmpfkkgbaa
