/- Plain facts: the word of a version and two flags. -/
import Derived.Test.YthhmbmeajgjhcaaBits
namespace Go.Proofs.Ythhmbmeajgjhcaa
open Go.RowKit

/-- The word of a version and two flags. -/
def VN (v : Int) (l d : Bool) : Int := v * 4 + (if l then 1 else 0) + (if d then 2 else 0)
theorem VN_W (v : Int) (l d : Bool) (h0 : 0 ≤ v) (h1 : v < 4611686018427387904) : W64 (VN v l d) := by
  unfold VN W64; cases l <;> cases d <;> simp <;> omega
theorem wrap4 (v : Int) (h0 : 0 ≤ v) (h1 : v < 4611686018427387904) : IntKind.u64.wrap (v * 4) = v * 4 := by
  rw [wrapU]; exact Int.emod_eq_of_lt (by omega) (by omega)
theorem wrap41 (v : Int) (h0 : 0 ≤ v) (h1 : v < 4611686018427387904) : IntKind.u64.wrap (v * 4 + 1) = v * 4 + 1 := by
  rw [wrapU]; exact Int.emod_eq_of_lt (by omega) (by omega)
theorem wrap42 (v : Int) (h0 : 0 ≤ v) (h1 : v < 4611686018427387904) : IntKind.u64.wrap (v * 4 + 2) = v * 4 + 2 := by
  rw [wrapU]; exact Int.emod_eq_of_lt (by omega) (by omega)
theorem wrap43 (v : Int) (h0 : 0 ≤ v) (h1 : v < 4611686018427387904) : IntKind.u64.wrap (v * 4 + 1 + 2) = v * 4 + 1 + 2 := by
  rw [wrapU]; exact Int.emod_eq_of_lt (by omega) (by omega)
theorem or42 (v : Int) (h0 : 0 ≤ v) (h1 : v < 4611686018427387904) : bits .or .u64 (v * 4 + 1) 2 = v * 4 + 1 + 2 := by
  rw [u64_or _ 2 (by omega) (by omega) (by decide) (by decide)]
  have : ((v * 4 + 1).toNat ||| (2 : Int).toNat : Nat) = (v * 4 + 1).toNat + 2 := by
    have e1 : (v * 4 + 1).toNat = v.toNat * 4 + 1 := by omega
    rw [e1]
    apply Nat.eq_of_testBit_eq
    intro i
    have a1 : v.toNat * 4 + 1 + 2 = v.toNat * 4 + 3 := by omega
    rw [a1, Nat.testBit_or]
    match i with
    | 0 => simp [Nat.testBit_zero]; omega
    | 1 =>
      have : (v.toNat * 4 + 1).testBit 1 = false := by rw [Nat.testBit_succ, Nat.testBit_zero]; simp; omega
      have h3 : (v.toNat * 4 + 3).testBit 1 = true := by rw [Nat.testBit_succ, Nat.testBit_zero]; simp; omega
      rw [this, h3]; rfl
    | j + 2 =>
      have b1 : (v.toNat * 4 + 1).testBit (j + 2) = v.toNat.testBit j := by
        rw [Nat.testBit_succ, Nat.testBit_succ]; congr 1; omega
      have b2 : (v.toNat * 4 + 3).testBit (j + 2) = v.toNat.testBit j := by
        rw [Nat.testBit_succ, Nat.testBit_succ]; congr 1; omega
      have b3 : (Int.toNat 2).testBit (j + 2) = false := by
        rw [Nat.testBit_succ, Nat.testBit_succ]; simp
      rw [b1, b2, b3]; simp
  rw [this]; omega

end Go.Proofs.Ythhmbmeajgjhcaa
