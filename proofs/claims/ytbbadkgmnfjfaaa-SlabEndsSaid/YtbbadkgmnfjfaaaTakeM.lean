/- What Take makes of a slab: plain mathematics; the state after some places were taken. -/
import Derived.Test.YtbbadkgmnfjfaaaBase
namespace Go.Proofs.Ytbbadkgmnfjfaaa
open Go.RowKit

def Ce.usable (t : Ce) : Bool := !t.t && decide (t.u < 4294967295)
/-- The usable places among those from lo on that are less than k. -/
def us (l : List Ce) (lo : Nat) : Nat → List Nat
  | 0 => []
  | k + 1 => us l lo k ++ (if lo ≤ k ∧ ((l[k]?).map Ce.usable).getD false = true then [k] else [])
/-- The first usable place from lo on. -/
def firstUs (l : List Ce) (lo : Nat) : Option Nat := (us l lo l.length).head?
theorem us_lt (l : List Ce) (lo : Nat) : ∀ k, ∀ i ∈ us l lo k, lo ≤ i ∧ i < k ∧ ((l[i]?).map Ce.usable).getD false = true
  | 0, i, h => by simp [us] at h
  | k + 1, i, h => by
    rw [us, List.mem_append] at h
    rcases h with h | h
    · obtain ⟨a, b, c⟩ := us_lt l lo k i h
      exact ⟨a, by omega, c⟩
    · split at h
      · rename_i hk
        simp at h
        subst h
        exact ⟨hk.1, by omega, hk.2⟩
      · simp at h
theorem us_nil {l : List Ce} {lo k : Nat} (h : ∀ i, lo ≤ i → i < k → ((l[i]?).map Ce.usable).getD false = false) : us l lo k = [] := by
  induction k with
  | zero => rfl
  | succ k ih =>
    rw [us, ih (fun i h1 h2 => h i h1 (by omega))]
    split
    · rename_i hk
      rw [h k hk.1 (by omega)] at hk
      simp at hk
    · rfl
theorem us_head {l : List Ce} {lo j : Nat} (hj : lo ≤ j) (hu : ((l[j]?).map Ce.usable).getD false = true) (hb : ∀ i, lo ≤ i → i < j → ((l[i]?).map Ce.usable).getD false = false) : ∀ k, j < k → (us l lo k).head? = some j
  | 0, h => by omega
  | k + 1, h => by
    rw [us]
    by_cases e : j = k
    · subst e
      rw [us_nil hb, if_pos ⟨hj, hu⟩]
      rfl
    · rw [List.head?_append, us_head hj hu hb k (by omega)]
      rfl
/-- What Take makes of a slab. -/
def takeSb (s : Sb) (lo : Nat) (v : Value) : Sb × Option (Nat × Int) := match firstUs s.l lo with
  | none => (s, none)
  | some i => match s.l[i]? with
    | none => (s, none)
    | some t => ({ s with l := s.l.set i ⟨v, t.u + 1, true⟩, len := s.len + 1, left := s.left - 1, low := (i : Int) + 1 }, some (i, t.u + 1))
/-- A slab of n places of which the first m were taken, each once. -/
def filled (z : Value) (f : Nat → Value) (n m : Nat) : Sb := { l := (List.range m).map (fun i => ⟨f i, 1, true⟩) ++ List.replicate (n - m) ⟨z, 0, false⟩, len := m, left := (n : Int) - m, low := m, cap := n, rest := [] }
theorem filled_len (z : Value) (f : Nat → Value) (n m : Nat) (h : m ≤ n) : (filled z f n m).l.length = n := by simp [filled]; omega
theorem filled_at (z : Value) (f : Nat → Value) (n m : Nat) (h : m < n) : (filled z f n m).l[m]? = some ⟨z, 0, false⟩ := by
  unfold filled
  rw [List.getElem?_append_right (by simp), List.getElem?_replicate]
  simp
  omega
theorem take_filled (z : Value) (f : Nat → Value) (n m : Nat) (h : m < n) : takeSb (filled z f n m) m (f m) = (filled z f n (m + 1), some (m, 1)) := by
  have ha := filled_at z f n m h
  have hf : firstUs (filled z f n m).l m = some m := by
    unfold firstUs
    rw [filled_len z f n m (by omega)]
    exact us_head (Nat.le_refl _) (by rw [ha]; rfl) (fun i h1 h2 => by omega) n h
  unfold takeSb
  rw [hf]
  dsimp only
  rw [ha]
  dsimp only
  have hl : (filled z f n m).l.set m ⟨f m, 0 + 1, true⟩ = (filled z f n (m + 1)).l := by
    unfold filled
    dsimp only
    rw [List.set_append_right _ _ (by simp), List.range_succ, List.map_append, List.append_assoc]
    congr 1
    obtain ⟨k, hk⟩ : ∃ k, n - m = k + 1 := ⟨n - m - 1, by omega⟩
    rw [hk, show n - (m + 1) = k from by omega]
    simp [List.replicate_succ]
  rw [hl]
  have e1 : (filled z f n m).len + 1 = (filled z f n (m + 1)).len := by simp [filled]
  have e2 : (filled z f n m).left - 1 = (filled z f n (m + 1)).left := by simp [filled]; omega
  have e3 : (m : Int) + 1 = (filled z f n (m + 1)).low := by simp [filled]
  rw [e1, e2, e3]
  rfl
theorem new_filled (z : Value) (f : Nat → Value) (n : Nat) : newSb z n = filled z f n 0 := by simp [newSb, filled]
theorem filled_old (z : Value) (f : Nat → Value) (n m k : Nat) (h : k < m) : (filled z f n m).l[k]? = some ⟨f k, 1, true⟩ := by
  unfold filled
  rw [List.getElem?_append_left (by simpa using h)]
  simp [h]
theorem live_at {s : Sb} {k : Nat} {t : Ce} (h : s.l[k]? = some t) (ht : t.t = true) : liveAt s k t.u = some k := by
  have hk := (List.getElem?_eq_some_iff.1 h).1
  unfold liveAt
  rw [if_pos ⟨Int.natCast_nonneg _, by omega⟩, Int.toNat_natCast, h]
  simp [ht]
/-- A place that was freed below all others is taken first, with its second use. -/
theorem take_freed (z v : Value) (f : Nat → Value) (n m k : Nat) (hk : k < m) (hm : m ≤ n) : ∃ s', takeSb (relSb z (filled z f n m) k 1) k v = (s', some (k, 2)) ∧ s'.l[k]? = some ⟨v, 2, true⟩ ∧ s'.len = m ∧ s'.l.length = n := by
  have hkl : k < (filled z f n m).l.length := by rw [filled_len z f n m hm]; omega
  have ha : (relSb z (filled z f n m) k 1).l[k]? = some ⟨z, 1, false⟩ := by
    show ((filled z f n m).l.set k _)[k]? = _
    rw [List.getElem?_set_self hkl]
  have hlen : (relSb z (filled z f n m) k 1).l.length = n := by
    show ((filled z f n m).l.set k _).length = n
    rw [List.length_set, filled_len z f n m hm]
  have hf : firstUs (relSb z (filled z f n m) k 1).l k = some k := by
    unfold firstUs
    rw [hlen]
    exact us_head (Nat.le_refl _) (by rw [ha]; rfl) (fun i h1 h2 => by omega) n (by omega)
  unfold takeSb
  rw [hf]
  dsimp only
  rw [ha]
  refine ⟨_, rfl, ?_, ?_, ?_⟩
  · show ((relSb z (filled z f n m) k 1).l.set k _)[k]? = _
    rw [List.getElem?_set_self (by rw [hlen]; omega)]
    rfl
  · show (filled z f n m).len - 1 + 1 = _
    simp [filled]
  · show ((relSb z (filled z f n m) k 1).l.set k _).length = n
    rw [List.length_set, hlen]
theorem rel_low (z : Value) (f : Nat → Value) (n m k : Nat) (hk : k < m) : (relSb z (filled z f n m) k 1).low = (k : Int) := by
  show (if (1 : Int) < 4294967295 then min (filled z f n m).low k else (filled z f n m).low) = _
  rw [if_pos (by decide)]
  show min (m : Int) (k : Int) = k
  omega
end Go.Proofs.Ytbbadkgmnfjfaaa
