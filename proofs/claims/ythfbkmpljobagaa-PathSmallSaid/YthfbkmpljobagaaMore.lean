/- More walks of the path layer: Common, Begins, Cut, Rest, and the reference's functions. -/
import Derived.Test.YthfbkmpljobagaaWalks
namespace Go.Proofs.Ythfbkmpljobagaa
open Go.RowKit
set_option maxRecDepth 100000
set_option maxHeartbeats 400000

theorem all2_any (a b : ByteArray) (bl : Nat) (w : World) (hb : bl < w.heap.size) (ha : a.size ≤ maxLen) (hbz : b.size ≤ maxLen)
    (h0 : w.cell? ⟨bl, 0, none⟩ = some (.string a)) (h1 : w.cell? ⟨bl, 1, none⟩ = some (.string b)) :
    Calls Try.prog 13 #[.slice (some ⟨bl, 0, none⟩) 2 2] w fun e w' => e = .returned (.int .i64 (lcp a.data.toList b.data.toList)) ∧ Below w.heap.size w w' := by
  have h := all_any a [b] bl 0 2 w hb (by intro x hx; simp at hx; rcases hx with rfl | rfl <;> assumption) (by simp; decide) (by simp) (by
    intro i hi
    match i, hi with
    | 0, _ => simpa using h0
    | 1, _ => simpa using h1
    | n + 2, hi => exact absurd hi (by simp))
  refine h.mono ?_
  rintro e w' ⟨rfl, hb'⟩
  refine ⟨ret_int ?_, hb'⟩
  have := lcp_le_left a.data.toList b.data.toList
  simp only [lcpAll, List.foldl_cons, List.foldl_nil]
  rw [Nat.min_eq_right (by simpa using this)]

theorem common_any (a b : ByteArray) (w : World) (ha : a.size ≤ maxLen) (hbz : b.size ≤ maxLen) :
    Calls Try.prog 16 #[.string a, .string b] w fun e w' => e = .returned (.int .i64 (lcp a.data.toList b.data.toList)) ∧ Below w.heap.size w w' := by
  have HA := Lib.hid ha
  have HB := Lib.hid hbz
  clear ha hbz
  go_enter Try.func16, Try.ntmps16
  go_wp2_with (go_at_call 13; refine (all2_any a b _ _ (by simp) HA.out HB.out (by simp [go_sem]) (by simp [go_sem])).mono ?_; rintro e w1 ⟨rfl, hb1⟩)
  go_ret
  exact ⟨rfl, ((Below.refl _ _).alloc (Nat.le_refl _) _).trans (hb1.mono (by simp))⟩

theorem begins_any (a b : ByteArray) (w : World) (ha : a.size ≤ maxLen) (hbz : b.size ≤ maxLen) :
    Calls Try.prog 17 #[.string a, .string b] w fun e w' => e = .returned (.bool (((lcp a.data.toList b.data.toList : Nat) : Int) == (b.size : Int))) ∧ Below w.heap.size w w' := by
  have HA := Lib.hid ha
  have HB := Lib.hid hbz
  clear ha hbz
  go_enter Try.func17, Try.ntmps17
  go_wp2_with (go_at_call 16; refine (common_any a b _ HA.out HB.out).mono ?_; rintro e w1 ⟨rfl, hb1⟩)
  go_ret
  exact ⟨rfl, hb1⟩

theorem rest_any (s : ByteArray) (n : Int) (w : World) (hs : s.size ≤ maxLen) :
    Calls Try.prog 20 #[.string s, .int .i64 n] w fun e w' => e = .returned (.string (s.extract n.toNat s.size)) ∧ Below w.heap.size w w' := by
  have HA := Lib.hid hs
  unfold maxLen at hs
  have hfd := field0
  rcases (show n < 0 ∨ (0 ≤ n ∧ n < s.size) ∨ (s.size : Int) ≤ n from by omega) with h1 | ⟨h1, h2⟩ | h1
  all_goals
    go_enter Try.func20, Try.ntmps20
    go_wp2_with (first | (go_at_call 27; refine (of_any _ _).mono ?_; rintro e w1 ⟨rfl, hb1⟩) | (go_at_call 31; refine (from_any s _ _ HA.out (by omega) (by omega)).mono ?_; rintro e w2 ⟨rfl, rfl⟩))
  all_goals
    go_ret
    refine ⟨ret_str ?_, hb1⟩
    first | rfl | exact (from_all s n (by omega)).symm | exact (from_none s n (by omega)).symm | exact (from_nil s n (by first | omega | (split at * <;> omega))).symm

end Go.Proofs.Ythfbkmpljobagaa
