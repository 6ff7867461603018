/- New, Copy, All and Next of a table. -/
import Derived.Test.YtjaijomkdgoenaaDoorMnMany2
namespace Go.Proofs.YtjaijomkdgoenaaDoor.Mn
open Go.RowKit Go.Shelf
attribute [local go_sem] Oper.semAt_some
set_option maxRecDepth 100000
set_option maxHeartbeats 4000000

theorem new_no (r : Int) (h4 : r ≠ 48) (h16 : r ≠ 256) (w : World) :
    Calls Tryd.prog 43 #[.int .i64 r] w fun e w' => e = .returned (.tuple #[.pointer none, .int .i64 2]) ∧ w' = w := by
  have q1 : (r != 48) = true := by simpa using h4
  have q2 : (r != 256) = true := by simpa using h16
  have q3 : (r != 48 && r != 256) = true := by rw [q1, q2]; rfl
  have H := Lib.hid q3
  clear h4 h16
  go_enter Tryd.func43, Tryd.ntmps43
  go_wp2
  all_goals first
    | (go_ret2; exact ⟨rfl, rfl⟩)
    | (exfalso; have := H.out; simp_all; done)
/-- The cells of a new row. -/
def rowZ (r : Int) : Array Value := Array.replicate 256 (.int .u16 0) ++ #[.slice none 0 0, .int .i64 r]
theorem rowZ_size (r : Int) : (rowZ r).size = 258 := by simp [rowZ]
theorem rowZ_zero (W : World) : (zeroValue 92).run Tryd.prog W = .ok (.agg (rowZ 0)) W := by kernel_rfl
theorem rowZ_set (r : Int) : (rowZ 0).setIfInBounds 257 (.int .i64 r) = rowZ r := by
  unfold rowZ
  rw [Array.setIfInBounds_append_right (by simp)]
  simp
theorem rowZ_ne : ¬ rowZ 0 = #[] := fun h => by
  have := rowZ_size 0
  rw [h] at this
  cases this
theorem rowZ_at {W : World} {q : Nat} (room : Nat) (h : Fresh W q (rowZ (room : Int)) 92) : RowM W q q [] room (rowZ (room : Int)) (.slice none 0 0) := by
  refine ⟨h, rowZ_size _, fun b => ⟨0, ?_, .inl ⟨rfl, by simp⟩⟩, ?_, ?_, ⟨rfl, .inl ⟨rfl, rfl⟩⟩, (fun k hk => by cases hk), List.Pairwise.nil, by simp, h.lt, .inl rfl⟩
  · have := b.toNat_lt
    unfold rowZ
    rw [Array.getElem?_append_left (by simp; omega), Array.getElem?_replicate, if_pos (by omega)]; rfl
  · unfold rowZ
    rw [Array.getElem?_append_right (by simp)]; simp
  · unfold rowZ
    rw [Array.getElem?_append_right (by simp)]; simp
theorem new_yes (room : Nat) (h : room = 48 ∨ room = 256) (w : World) :
    Calls Tryd.prog 43 #[.int .i64 (room : Int)] w fun e w' => e = .returned (.tuple #[.pointer (some ⟨w.heap.size + 1, 0, none⟩), .int .i64 0]) ∧ Below w.heap.size w w' ∧ ManyAt w' (w.heap.size + 1) w.heap.size w.heap.size [] room := by
  have hz := rowZ_zero
  have hs := rowZ_set (room : Int)
  have hn := rowZ_ne
  have hsz := rowZ_size 0
  obtain ⟨zs, hzs⟩ : ∃ zs, rowZ 0 = zs := ⟨_, rfl⟩
  rw [hzs] at hs hn hsz
  simp only [hzs] at hz
  obtain ⟨cs, hcs⟩ : ∃ cs, rowZ (room : Int) = cs := ⟨_, rfl⟩
  rw [hcs] at hs
  obtain ⟨W0, hW0⟩ : ∃ W0, W0 = (w.alloc (.cells cs 92)).alloc (.cells #[.pointer (some ⟨w.heap.size, 0, none⟩)] 94) := ⟨_, rfl⟩
  have low : Below w.heap.size w W0 := by rw [hW0]; exact Below.new (Below.new (Below.refl _ _) _) _
  have F : ManyAt W0 (w.heap.size + 1) w.heap.size w.heap.size [] room := by
    rw [hW0]
    refine ⟨Fresh.new _ _ _ _ (by simp), ⟨[], _, _, rowZ_at room ?_, by simp, rfl⟩, List.Pairwise.nil⟩
    rw [hcs]
    exact (Fresh.new _ _ _ _ rfl).alloc _
  have FIN := Lib.hid (And.intro low F)
  have HW0 := Lib.hid hW0
  clear low F hW0 hcs hzs
  rcases h with rfl | rfl
  all_goals
    first
      | rw [show ((48 : Nat) : Int) = 48 from rfl] at hs ⊢
      | rw [show ((256 : Nat) : Int) = 256 from rfl] at hs ⊢
    go_enter Tryd.func43, Tryd.ntmps43
    go_wp2
    go_ret2
    exact ⟨rfl, by have := FIN.out; rw [HW0.out] at this; exact this⟩
end Go.Proofs.YtjaijomkdgoenaaDoor.Mn
