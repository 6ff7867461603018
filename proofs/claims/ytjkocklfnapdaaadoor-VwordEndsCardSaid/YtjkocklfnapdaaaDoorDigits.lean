/- Plain facts: the digits that a text begins with. -/
import Derived.Test.YtjkocklfnapdaaaDoorText
namespace Go.Proofs.YtjkocklfnapdaaaDoor
open Go.RowKit

theorem val_lt_acc (l : List UInt8) : ∀ acc, (∀ c ∈ l, isD c) → val acc l < (acc + 1) * 10 ^ l.length := by
  induction l with
  | nil => intro acc _; simp [val]
  | cons c l ih =>
    intro acc hd
    have h1 := ih (acc * 10 + (c.toNat - 48)) (fun x hx => hd x (by simp [hx]))
    have h2 : 48 ≤ c.toNat ∧ c.toNat ≤ 57 := hd c (by simp)
    have e : val acc (c :: l) = val (acc * 10 + (c.toNat - 48)) l := rfl
    rw [e, List.length_cons]
    have h3 : (acc * 10 + (c.toNat - 48) + 1) * 10 ^ l.length ≤ ((acc + 1) * 10) * 10 ^ l.length := Nat.mul_le_mul_right _ (by omega)
    have h4 : (acc + 1) * 10 * 10 ^ l.length = (acc + 1) * 10 ^ (l.length + 1) := by rw [Nat.pow_succ, Nat.mul_assoc, Nat.mul_comm 10]
    omega

theorem val_lt (l : List UInt8) (hd : ∀ c ∈ l, isD c) : val 0 l < 10 ^ l.length := by
  have := val_lt_acc l 0 hd
  omega

theorem val_snoc (l : List UInt8) (c : UInt8) : val 0 (l ++ [c]) = val 0 l * 10 + (c.toNat - 48) := by simp [val, List.foldl_append]

def Digs (l : List UInt8) (k : Nat) : Prop := ∀ j, j < k → ∃ c, l[j]? = some c ∧ isD c

theorem Digs.succ {l : List UInt8} {k : Nat} (h : Digs l k) {c : UInt8} (hc : l[k]? = some c) (hd : isD c) : Digs l (k + 1) := by
  intro j hj
  by_cases e : j = k
  · subst e; exact ⟨c, hc, hd⟩
  · exact h j (by omega)

theorem Digs.take {l : List UInt8} {k : Nat} (h : Digs l k) : ∀ c ∈ l.take k, isD c := by
  intro c hc
  obtain ⟨j, hj, rfl⟩ := List.mem_iff_getElem.1 hc
  obtain ⟨c', h1, h2⟩ := h j (by simp at hj; omega)
  have : (l.take k)[j] = c' := by
    rw [List.getElem_take]
    have := List.getElem?_eq_some_iff.1 h1
    exact this.2
  rw [this]; exact h2

theorem tail_head (m : Nat) : plusL (decide (m % 2 = 1)) ++ deadL (decide (m / 2 % 2 = 1)) = [] ∨ ∃ c r, plusL (decide (m % 2 = 1)) ++ deadL (decide (m / 2 % 2 = 1)) = c :: r ∧ ¬ isD c := by
  unfold plusL deadL
  split <;> split
  · exact .inr ⟨43, [120], rfl, by unfold isD; decide⟩
  · exact .inr ⟨43, [], rfl, by unfold isD; decide⟩
  · exact .inr ⟨120, [], rfl, by unfold isD; decide⟩
  · exact .inl rfl

theorem dec_len (v : Nat) (h : v < 4611686018427387904) : (Lib.decDigits v).length ≤ 19 := by
  rcases Nat.lt_or_ge 19 (Lib.decDigits v).length with h1 | h1
  · exfalso
    have hv := dec_val v
    -- twenty digits, the first of them no 0, spell at least 10 ^ 19
    rw [Lib.decDigits_length] at h1
    have : ∀ (n u : Nat), n < Lib.nDigits u → 10 ^ n ≤ u ∨ n = 0 := by
      intro n
      induction n with
      | zero => intro u _; exact .inr rfl
      | succ n ih =>
        intro u hu
        left
        rw [Lib.nDigits] at hu
        by_cases h10 : u < 10
        · rw [dif_pos h10] at hu; omega
        · rw [dif_neg h10] at hu
          rcases ih (u / 10) (by omega) with h | h
          · rw [Nat.pow_succ]; omega
          · subst h; simp; omega
    rcases this 19 v h1 with h2 | h2
    · have : (10 : Nat) ^ 19 = 10000000000000000000 := by decide
      omega
    · omega
  · exact h1

/-- Where the digits end: there the version's numeral ends. -/
theorem digs_end {m k : Nat} {l : List UInt8} (hm : m < 18446744073709551616) (hl : showL m = l) (hd : Digs l k) (he : k = l.length ∨ ∃ c, l[k]? = some c ∧ ¬ isD c) : k ≤ 19 ∧ val 0 (l.take k) = m / 4 := by
  rw [showL_eq, List.append_assoc] at hl
  have hlen := dec_len (m / 4) (by omega)
  have hD := dec_digits (m / 4)
  have hv := dec_val (m / 4)
  have ht := tail_head m
  generalize Lib.decDigits (m / 4) = D at *
  generalize plusL (decide (m % 2 = 1)) ++ deadL (decide (m / 2 % 2 = 1)) = T at *
  subst hl
  have h1 : k ≤ D.length := by
    rcases Nat.lt_or_ge D.length k with h | h
    · exfalso
      obtain ⟨c, hc, hdc⟩ := hd D.length h
      rw [List.getElem?_append_right (by omega)] at hc
      rcases ht with rfl | ⟨c', r, rfl, hn⟩
      · simp at hc
      · simp at hc; subst hc; exact hn hdc
    · exact h
  have h2 : D.length ≤ k := by
    rcases Nat.lt_or_ge k D.length with h | h
    · exfalso
      rcases he with he | ⟨c, hc, hn⟩
      · rw [List.length_append] at he; omega
      · rw [List.getElem?_append_left h, List.getElem?_eq_getElem h] at hc
        simp at hc
        exact hn (hc ▸ hD _ (List.getElem_mem h))
    · exact h
  obtain rfl : k = D.length := by omega
  exact ⟨hlen, by rw [List.take_left']; exact hv; rfl⟩

theorem digs_long {m k : Nat} {l : List UInt8} (hm : m < 18446744073709551616) (hl : showL m = l) (hd : Digs l k) : k ≤ 19 := by
  rw [showL_eq, List.append_assoc] at hl
  have hlen := dec_len (m / 4) (by omega)
  have ht := tail_head m
  generalize Lib.decDigits (m / 4) = D at *
  generalize plusL (decide (m % 2 = 1)) ++ deadL (decide (m / 2 % 2 = 1)) = T at *
  subst hl
  rcases Nat.lt_or_ge D.length k with h | h
  · exfalso
    obtain ⟨c, hc, hdc⟩ := hd D.length h
    rw [List.getElem?_append_right (by omega)] at hc
    rcases ht with rfl | ⟨c', r, rfl, hn⟩
    · simp at hc
    · simp at hc; subst hc; exact hn hdc
  · omega

end Go.Proofs.YtjkocklfnapdaaaDoor
