/- A slab's state. -/
import Derived.Test.YtbbadkgmnfjfaaaKit
import Derived.Deep.RegionHeld3
import Derived.Deep.QuietTactic
import Derived.BigRegion
import Derived.Deep.DeepCutAuto
import Derived.Deep.OwnRows
import Derived.Laws.MakeOwn
import Derived.IntWalk
import Derived.WalkKit
namespace Go.Proofs.Ytbbadkgmnfjfaaa
open Go.RowKit
set_option maxRecDepth 100000

abbrev refV (s g : Int) : Value := .agg #[.int .i64 s, .int .u32 g]
/-- A place: what it holds, how often it was used, whether it is taken. -/
structure Ce where
  x : Value
  u : Int
  t : Bool
def Ce.cells (c : Ce) : List Value := [c.x, .int .u32 c.u, .bool c.t]
def cec (l : List Ce) : List Value := l.flatMap Ce.cells
structure Sb where
  l : List Ce
  len : Int
  left : Int
  low : Int
  cap : Nat
  rest : List Value
theorem cec_app (l : List Ce) (r : List Value) (k : Nat) (h : k < (cec l).length) : (cec l ++ r)[k]? = (cec l)[k]? := List.getElem?_append_left h
theorem cec_length (l : List Ce) : (cec l).length = l.length * 3 := by
  induction l with
  | nil => rfl
  | cons t l ih => simp only [cec, List.flatMap_cons, List.length_append, List.length_cons] at *; rw [ih]; simp only [Ce.cells, List.length_cons, List.length_nil]; omega
theorem cec_at : ∀ (l : List Ce) (i : Nat) (t : Ce), l[i]? = some t → (cec l)[i * 3]? = some t.x ∧ (cec l)[i * 3 + 1]? = some (.int .u32 t.u) ∧ (cec l)[i * 3 + 2]? = some (.bool t.t)
  | [], _, _, h => by simp at h
  | x :: l, 0, t, h => by simp at h; subst h; exact ⟨rfl, rfl, rfl⟩
  | x :: l, i + 1, t, h => by
    obtain ⟨a, b, c⟩ := cec_at l i t (by simpa using h)
    refine ⟨?_, ?_, ?_⟩
    · rw [show (i + 1) * 3 = i * 3 + 3 from by omega]; exact a
    · rw [show (i + 1) * 3 + 1 = i * 3 + 1 + 3 from by omega]; exact b
    · rw [show (i + 1) * 3 + 2 = i * 3 + 2 + 3 from by omega]; exact c
theorem cec_set (l : List Ce) (i : Nat) (t : Ce) (hi : i < l.length) : cec (l.set i t) = (((cec l).set (i * 3) t.x).set (i * 3 + 1) (.int .u32 t.u)).set (i * 3 + 2) (.bool t.t) := by
  induction l generalizing i with
  | nil => simp at hi
  | cons a l ih =>
    cases i with
    | zero => rfl
    | succ i =>
      have := ih i (by simpa using hi)
      rw [List.set_cons_succ, show cec (a :: l.set i t) = [a.x, .int .u32 a.u, .bool a.t] ++ cec (l.set i t) from rfl, this, show cec (a :: l) = [a.x, .int .u32 a.u, .bool a.t] ++ cec l from rfl, show (i + 1) * 3 = i * 3 + 3 from by omega, show i * 3 + 3 + 1 = i * 3 + 1 + 3 from by omega, show i * 3 + 3 + 2 = i * 3 + 2 + 3 from by omega]
      rfl
/-- The place of a live reference. -/
def liveAt (s : Sb) (x k : Int) : Option Nat := if 0 ≤ x ∧ x < s.l.length then (match s.l[x.toNat]? with | some t => if (t.t && t.u == k) = true then some x.toNat else none | none => none) else none
theorem live_some {s : Sb} {x k : Int} {i : Nat} (h : liveAt s x k = some i) : x = i ∧ ∃ t, s.l[i]? = some t ∧ t.t = true ∧ t.u = k := by
  unfold liveAt at h
  split at h
  · rename_i hx
    split at h
    · rename_i t ht
      split at h
      · rename_i hb
        obtain rfl : x.toNat = i := by simpa using h
        simp only [Bool.and_eq_true, beq_iff_eq] at hb
        exact ⟨by omega, t, ht, hb.1, hb.2⟩
      · cases h
    · cases h
  · cases h
theorem cec_setx (l : List Ce) (i : Nat) (t : Ce) (v : Value) (h : l[i]? = some t) : cec (l.set i { t with x := v }) = (cec l).set (i * 3) v := by
  induction l generalizing i with
  | nil => simp at h
  | cons a l ih =>
    cases i with
    | zero => simp at h; subst h; rfl
    | succ i =>
      have := ih i (by simpa using h)
      rw [List.set_cons_succ, show cec (a :: l.set i { t with x := v }) = [a.x, .int .u32 a.u, .bool a.t] ++ cec (l.set i { t with x := v }) from rfl, this, show cec (a :: l) = [a.x, .int .u32 a.u, .bool a.t] ++ cec l from rfl, show (i + 1) * 3 = i * 3 + 3 from by omega]
      rfl
/-- Places that were never used. -/
def newSb (z : Value) (n : Nat) : Sb := { l := List.replicate n ⟨z, 0, false⟩, len := 0, left := n, low := 0, cap := n, rest := [] }
theorem made3 (z : Value) (n : Nat) : madeCells #[z, .int .u32 0, .bool false] (n * 3) = (cec (List.replicate n ⟨z, 0, false⟩)).toArray := by
  apply Array.ext_getElem?
  intro k
  by_cases hk : k < n * 3
  · have hi : k / 3 < n := by omega
    obtain ⟨a0, a1, a2⟩ := cec_at (List.replicate n ⟨z, 0, false⟩) (k / 3) ⟨z, 0, false⟩ (by rw [List.getElem?_replicate, if_pos hi])
    have hl : (madeCells #[z, .int .u32 0, .bool false] (n * 3))[k]? = some (#[z, Value.int .u32 0, Value.bool false][k % 3]!) := by
      unfold madeCells
      rw [Array.getElem?_map, Array.getElem?_range, if_pos hk]
      rfl
    rw [hl, List.getElem?_toArray]
    rcases (show k % 3 = 0 ∨ k % 3 = 1 ∨ k % 3 = 2 from by omega) with h | h | h
    · rw [h, show k = k / 3 * 3 from by omega, a0]; rfl
    · rw [h, show k = k / 3 * 3 + 1 from by omega, a1]; rfl
    · rw [h, show k = k / 3 * 3 + 2 from by omega, a2]; rfl
  · rw [Array.getElem?_eq_none (by rw [size_madeCells]; omega), List.getElem?_toArray, List.getElem?_eq_none (by rw [cec_length, List.length_replicate]; omega)]
/-- What the release of a place makes of a slab. -/
def relSb (z : Value) (s : Sb) (i : Nat) (u : Int) : Sb := { s with l := s.l.set i ⟨z, u, false⟩, len := s.len - 1, left := if u < 4294967295 then s.left + 1 else s.left, low := if u < 4294967295 then min s.low i else s.low }
end Go.Proofs.Ytbbadkgmnfjfaaa
