/- Plain facts on the bits of a word: what and, or, and-not with 1 and 2 come to. -/
import Derived.WalkKit
namespace Go.Proofs.Ythhmbmeajgjhcaa
open Go.RowKit

/-- A word fits 64 bits. -/
def W64 (n : Int) : Prop := 0 ≤ n ∧ n < 18446744073709551616

theorem and1 (n : Int) (h : W64 n) : bits .and .u64 n 1 = n % 2 := by
  rw [u64_and n 1 h.1 h.2 (by decide) (by decide)]
  have : (n.toNat &&& (1 : Int).toNat : Nat) = n.toNat % 2 := nat_mask1 _
  rw [this]; have := h.1; omega

theorem and2 (n : Int) (h : W64 n) : bits .and .u64 n 2 = n / 2 % 2 * 2 := by
  rw [u64_and n 2 h.1 h.2 (by decide) (by decide)]
  have : (n.toNat &&& (2 : Int).toNat : Nat) = n.toNat / 2 ^ 1 % 2 * 2 ^ 1 := nat_bit 1 _
  rw [this]; have := h.1; omega

theorem or1 (n : Int) (h : W64 n) (he : n % 2 = 0) : bits .or .u64 n 1 = n + 1 := by
  rw [u64_or n 1 h.1 h.2 (by decide) (by decide)]
  have : (n.toNat ||| (1 : Int).toNat : Nat) = n.toNat + 1 := nat_join 1 _ _ (by have := h.1; omega) (by decide)
  rw [this]; have := h.1; omega

theorem andNot1 (n : Int) (h : W64 n) : bits .andNot .u64 n 1 = n - n % 2 := by
  rw [u64_andNot n 1 h.1 h.2 (by decide) (by decide)]
  have hn : n.toNat < 18446744073709551616 := by have := h.1; have := h.2; omega
  have e1 : (18446744073709551615 - (1 : Int).toNat : Nat) = 18446744073709551614 := by decide
  rw [e1]
  have e2 : n.toNat &&& 18446744073709551614 = n.toNat - n.toNat % 2 := by
    apply Nat.eq_of_testBit_eq
    intro i
    rw [Nat.testBit_and]
    have h2 : n.toNat - n.toNat % 2 = 2 * (n.toNat / 2) := by omega
    rw [h2]
    have h3 : (18446744073709551614 : Nat) = 2 * (2 ^ 63 - 1) := by decide
    rw [h3]
    cases i with
    | zero => simp
    | succ j =>
      rw [Nat.testBit_succ, Nat.testBit_succ, Nat.testBit_succ]
      simp only [Nat.mul_div_cancel_left _ (show 0 < 2 by decide), Nat.testBit_two_pow_sub_one]
      by_cases hj : j < 63
      · simp [hj]
      · simp only [hj, decide_false, Bool.and_false]
        symm
        apply Nat.testBit_lt_two_pow
        calc n.toNat / 2 < 2 ^ 63 := by omega
          _ ≤ 2 ^ j := Nat.pow_le_pow_right (by decide) (by omega)
  rw [e2]; have := h.1; omega

theorem or2 (n : Int) (h : W64 n) (he : n % 4 = 0) : bits .or .u64 n 2 = n + 2 := by
  rw [u64_or n 2 h.1 h.2 (by decide) (by decide)]
  have : (n.toNat ||| (2 : Int).toNat : Nat) = n.toNat + 2 := nat_join 2 _ _ (by have := h.1; omega) (by decide)
  rw [this]; have := h.1; omega

theorem wrapU (x : Int) : IntKind.u64.wrap x = x % 18446744073709551616 := by simp [IntKind.wrap, IntKind.bits, IntKind.signed]

/-- The next version's word, and the dead word of the next version. -/
def doneV (n : Int) : Int := (n + 3) % 18446744073709551616
def killV (n : Int) : Int := (n + 5) % 18446744073709551616

theorem done_eq (n : Int) (h : W64 n) (he : n % 4 = 1) : IntKind.u64.wrap (bits .andNot .u64 n 1 + 4) = doneV n := by
  rw [wrapU, andNot1 n h]; unfold doneV; congr 1; omega
theorem kill_eq (n : Int) (h : W64 n) (he : n % 4 = 1) : IntKind.u64.wrap (bits .or .u64 (bits .andNot .u64 n 1) 2 + 4) = killV n := by
  have e : n - n % 2 = n - 1 := by omega
  rw [wrapU, andNot1 n h, e, or2 (n - 1) ⟨by have := h.1; omega, by have := h.2; omega⟩ (by omega)]
  unfold killV; congr 1; omega
theorem version_eq (n : Int) (h : W64 n) : IntKind.u64.wrap (n.tdiv 4) = n / 4 := by
  rw [wrapU, Int.tdiv_eq_ediv_of_nonneg h.1]
  have := h.1; have := h.2
  exact Int.emod_eq_of_lt (by omega) (by omega)
theorem doneV_W (n : Int) : W64 (doneV n) := ⟨Int.emod_nonneg _ (by decide), Int.emod_lt_of_pos _ (by decide)⟩
theorem killV_W (n : Int) : W64 (killV n) := ⟨Int.emod_nonneg _ (by decide), Int.emod_lt_of_pos _ (by decide)⟩

end Go.Proofs.Ythhmbmeajgjhcaa
