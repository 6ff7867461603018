/- The reference's Encode. -/
import Derived.Test.YthkndfammlibpaaMathC
namespace Go.Proofs.Ythkndfammlibpaa
open Go.RowKit
set_option maxRecDepth 100000
set_option maxHeartbeats 2000000

def outB (s : ByteArray) (k : Nat) : ByteArray := ⟨(encB (s.data.toList.take k)).toArray⟩
theorem outB_list (s : ByteArray) (k : Nat) : (outB s k).data.toList = encB (s.data.toList.take k) := rfl
theorem outB_size (s : ByteArray) (k : Nat) : (outB s k).size ≤ 2 * k := by
  have := encB_le (s.data.toList.take k)
  rw [← length_list, outB_list]
  have h2 : (s.data.toList.take k).length ≤ k := List.length_take_le _ _
  omega
theorem extract_one (s : ByteArray) (k : Nat) (h : k < s.size) : (s.extract k (k + 1)).data.toList = [s[k]] := by
  rw [extract_list, List.drop_eq_getElem_cons (by rw [length_list]; exact h), show k + 1 - k = 1 from by omega]
  rfl
theorem take_one (s : ByteArray) (k : Nat) (h : k < s.size) : s.data.toList.take (k + 1) = s.data.toList.take k ++ [s[k]] := by
  rw [List.take_succ_eq_append_getElem (by rw [length_list]; exact h)]; rfl
theorem outB_zero (s : ByteArray) (k : Nat) (h : k < s.size) (hc : s[k] = 0) : outB s k ++ s.extract k (k + 1) ++ ⟨#[1]⟩ = outB s (k + 1) := by
  apply bytes_ext
  rw [append_list, append_list, extract_one s k h, outB_list, outB_list, take_one s k h, encB_append, hc]
  simp [encB]
theorem outB_other (s : ByteArray) (k : Nat) (h : k < s.size) (hc : s[k] ≠ 0) : outB s k ++ s.extract k (k + 1) = outB s (k + 1) := by
  apply bytes_ext
  rw [append_list, extract_one s k h, outB_list, outB_list, take_one s k h, encB_append]
  simp [encB, hc]
theorem outB_end (s : ByteArray) : outB s s.size ++ ⟨#[0, 0]⟩ = codeOf s := by
  apply bytes_ext
  rw [append_list, outB_list, List.take_of_length_le (by rw [length_list]; omega)]
  simp [codeOf, codeL]

theorem rencode_any (s : ByteArray) (w : World) (hs : s.size ≤ 16) :
    Calls Try.prog 19 #[.string s] w fun e w' => e = .returned (.tuple #[.string (codeOf s), .int .i64 0]) ∧ w' = w := by
  have h1 : (s.size : Int) ≤ 16 := by omega
  go_enter Try.func19, Try.ntmps19
  go_wp2
  go_loop [4, 5] (fun out i => ∃ k : Nat, k ≤ s.size ∧ i = .int .i64 k ∧ out = .string (outB s k)) (fun _ i => s.size - (intOf i).toNat)
  case atStart => exact ⟨0, Nat.zero_le _, rfl, rfl⟩
  case round =>
    obtain ⟨k, hk1, rfl, rfl⟩ := hrel
    have hsz := outB_size s k
    have z1 : (outB s k).size ≤ 100 := by omega
    have z3 : (⟨#[1]⟩ : ByteArray).size = 1 := rfl
    have z4 : (⟨#[0, 0]⟩ : ByteArray).size = 2 := rfl
    by_cases hm : k < s.size
    · have hmI : (k : Int) < (s.size : Int) := by omega
      by_cases hc : s[k] = 0
      · have HS := Lib.hid (outB_zero s k hm hc)
        have q1 : (((s[k]'hm).toNat : Int) == 0) = true := by rw [hc]; rfl
        clear hc
        go_wp2
        go_round
        case rel => exact ⟨k + 1, by omega, by go_num, by rw [HS.out]⟩
        case measure => simp [intOf]; omega
      · have HS := Lib.hid (outB_other s k hm hc)
        have q1 : (((s[k]'hm).toNat : Int) == 0) = false := by rw [beq_eq_false_iff_ne]; intro e; exact hc (UInt8.toNat.inj (by show (s[k]'hm).toNat = 0; omega))
        clear hc
        go_wp2
        go_round
        case rel => exact ⟨k + 1, by omega, by go_num, by rw [HS.out]⟩
        case measure => simp [intOf]; omega
    · obtain rfl : k = s.size := by omega
      have HS := Lib.hid (outB_end s)
      go_wp2
      go_ret2
      refine ⟨?_, rfl⟩
      rw [← HS.out]
      rfl

end Go.Proofs.Ythkndfammlibpaa
