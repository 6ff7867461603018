/- What the common prefix of a list depends on: plain facts for PathShares. -/
import Derived.Test.YthfbkmpljobagaaPathAll
namespace Go.Proofs.Ythfbkmpljobagaa

theorem le_lcp : ∀ (l k : List UInt8) (m : Nat), m ≤ lcp l k ↔ m ≤ l.length ∧ m ≤ k.length ∧ l.take m = k.take m
  | _, _, 0 => by simp
  | [], k, m + 1 => by simp [lcp]
  | _ :: _, [], m + 1 => by simp [lcp]
  | a :: l, b :: k, m + 1 => by
    have ih := le_lcp l k m
    simp only [lcp, List.length_cons, List.take_succ_cons]
    by_cases h : a = b
    · rw [if_pos h]; simp [h, ih]
    · rw [if_neg h]; simp [h]

/-- All strings of a list begin with the first m bytes of a. -/
def sharesB (a : ByteArray) (m : Nat) (s : ByteArray) : Bool := decide (m ≤ s.size) && s.data.toList.take m == a.data.toList.take m
theorem sharesB_iff {a s : ByteArray} {m : Nat} : sharesB a m s = true ↔ m ≤ s.size ∧ s.data.toList.take m = a.data.toList.take m := by
  simp [sharesB]

theorem le_fold (f : ByteArray → Nat) (m : Nat) : ∀ (r : List ByteArray) (x : Nat), m ≤ r.foldl (fun n s => min n (f s)) x ↔ m ≤ x ∧ ∀ s ∈ r, m ≤ f s
  | [], x => by simp
  | s :: r, x => by
    rw [List.foldl_cons, le_fold f m r]
    simp [Nat.le_min, and_assoc]

theorem le_allOf (a : ByteArray) (r : List ByteArray) (m : Nat) : m ≤ allOf (a :: r) ↔ ∀ s ∈ a :: r, sharesB a m s = true := by
  have hl : ∀ s : ByteArray, s.data.toList.length = s.size := fun s => by simp
  show m ≤ lcpAll a r ↔ _
  unfold lcpAll
  rw [le_fold]
  constructor
  · rintro ⟨h1, h2⟩ s hs
    rw [sharesB_iff]
    rcases List.mem_cons.1 hs with rfl | hs
    · exact ⟨h1, rfl⟩
    · have := (le_lcp _ _ _).1 (h2 s hs)
      rw [hl, hl] at this
      exact ⟨this.2.1, this.2.2.symm⟩
  · intro h
    refine ⟨(sharesB_iff.1 (h a (by simp))).1, fun s hs => ?_⟩
    have := sharesB_iff.1 (h s (by simp [hs]))
    rw [le_lcp, hl, hl]
    exact ⟨(sharesB_iff.1 (h a (by simp))).1, this.1, this.2.symm⟩

/-- Another list of the same strings has the same common prefix. -/
theorem allOf_le_of_mem {a b : ByteArray} {r q : List ByteArray} (h : ∀ s, s ∈ b :: q → s ∈ a :: r) : allOf (a :: r) ≤ allOf (b :: q) := by
  have h1 := (le_allOf a r _).1 (Nat.le_refl _)
  rw [le_allOf]
  intro s hs
  have e1 := sharesB_iff.1 (h1 s (h s hs))
  have e2 := sharesB_iff.1 (h1 b (h b (by simp)))
  rw [sharesB_iff]
  exact ⟨e1.1, e1.2.trans e2.2.symm⟩
theorem allOf_mem {zs ys : List ByteArray} (hz : zs ≠ []) (h : ∀ s, s ∈ ys ↔ s ∈ zs) : allOf ys = allOf zs := by
  cases zs with
  | nil => exact absurd rfl hz
  | cons a r =>
    cases ys with
    | nil => have := (h a).2 (by simp); simp at this
    | cons b q => exact Nat.le_antisymm (allOf_le_of_mem fun s hs => (h s).2 hs) (allOf_le_of_mem fun s hs => (h s).1 hs)

theorem allOf_le (a : ByteArray) (r : List ByteArray) : allOf (a :: r) ≤ a.size := (sharesB_iff.1 ((le_allOf a r _).1 (Nat.le_refl _) a (by simp))).1

/-- Begins, where the prefix is a's first m bytes. -/
theorem begins_shares (s a : ByteArray) (m : Nat) (hm : m ≤ a.size) :
    (((lcp s.data.toList (a.extract 0 m).data.toList : Nat) : Int) == ((a.extract 0 m).size : Int)) = sharesB a m s := by
  have hl : ∀ s : ByteArray, s.data.toList.length = s.size := fun s => by simp
  have e : (a.extract 0 m).data.toList = a.data.toList.take m := by rw [extract_list]; simp
  have hs : (a.extract 0 m).size = m := by simp; omega
  rw [Bool.eq_iff_iff, sharesB_iff, e, hs, beq_iff_eq]
  have hle := lcp_le_right s.data.toList (a.data.toList.take m)
  rw [List.length_take, hl] at hle
  have := le_lcp s.data.toList (a.data.toList.take m) m
  rw [List.length_take, hl, hl, List.take_take, Nat.min_self] at this
  constructor
  · intro h
    have := this.1 (by omega)
    exact ⟨this.1, this.2.2⟩
  · rintro ⟨h1, h2⟩
    have := this.2 ⟨h1, by omega, h2⟩
    omega

/-- 'more', behind k rounds. -/
def moreB (a : ByteArray) (n : Nat) (zs : List ByteArray) (k : Nat) : Bool := decide (n < a.size) && (zs.take k).all (sharesB a (n + 1))
theorem moreB_zero (a : ByteArray) (n : Nat) (zs : List ByteArray) : moreB a n zs 0 = decide (n < a.size) := by simp [moreB]
theorem moreB_succ (a : ByteArray) (n : Nat) (zs : List ByteArray) (k : Nat) (h : k < zs.length) : moreB a n zs (k + 1) = (moreB a n zs k && sharesB a (n + 1) (zs.getD k ByteArray.empty)) := by
  unfold moreB
  rw [List.take_succ_eq_append_getElem h, List.all_append, List.getD_eq_getElem?_getD, List.getElem?_eq_getElem h, Bool.and_assoc]
  simp
theorem moreB_lt {a : ByteArray} {n : Nat} {zs : List ByteArray} {k : Nat} (h : moreB a n zs k = true) : n < a.size := by
  simp [moreB] at h; exact h.1
theorem moreB_end (a : ByteArray) (r : List ByteArray) : moreB a (allOf (a :: r)) (a :: r) (r.length + 1) = false := by
  cases e : moreB a (allOf (a :: r)) (a :: r) (r.length + 1) with
  | false => rfl
  | true =>
    unfold moreB at e
    rw [List.take_of_length_le (by simp), Bool.and_eq_true, List.all_eq_true] at e
    have := (le_allOf a r (allOf (a :: r) + 1)).2 e.2
    omega

theorem turned_mem (zs : List ByteArray) (k : Nat) (h : k < zs.length) (s : ByteArray) : s ∈ zs.drop k ++ zs.take k ++ [zs.getD k ByteArray.empty] ↔ s ∈ zs := by
  have hk : zs.getD k ByteArray.empty ∈ zs := getD_mem' zs k h
  have : s ∈ zs ↔ s ∈ zs.take k ++ zs.drop k := by rw [List.take_append_drop]
  rw [this]
  simp only [List.mem_append, List.mem_singleton]
  constructor
  · rintro ((h | h) | rfl)
    · exact .inr h
    · exact .inl h
    · have := hk
      rw [← List.take_append_drop k zs, List.mem_append] at this
      rwa [List.take_append_drop] at this
  · rintro (h | h)
    · exact .inl (.inr h)
    · exact .inl (.inl h)

end Go.Proofs.Ythfbkmpljobagaa
