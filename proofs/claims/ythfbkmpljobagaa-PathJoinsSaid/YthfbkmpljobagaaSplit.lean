/- The walk of PathSplits, case by case: which of the two strings ends at the common prefix's end. -/
import Derived.Test.YthfbkmpljobagaaParts
import Derived.Lib.QuietBelow
namespace Go.Proofs.Ythfbkmpljobagaa
open Go.RowKit
set_option maxRecDepth 100000

set_option maxHeartbeats 4000000 in
theorem splits_A (a b : ByteArray) (n : Nat) (w : World) (ha : a.size ≤ 2000) (hb : b.size ≤ 2000) (hn : lcp a.data.toList b.data.toList = n) (h1 : n < a.size) (h2 : n < b.size) :
    Calls Try.prog 6 #[.string a, .string b] w fun e w' => e = .returned (.bool true) ∧ Below w.heap.size w w' := by
  have H1 := Lib.hid hn
  have H2 : Hid (lcp b.data.toList a.data.toList = n) := by show _ = _; rw [lcp_comm]; exact hn
  have A1 : Hid (a.size ≤ maxLen) := Nat.le_trans ha (by decide)
  have B1 : Hid (b.size ≤ maxLen) := Nat.le_trans hb (by decide)
  have l1 : n ≤ a.size := by have := lcp_le_left a.data.toList b.data.toList; rw [hn] at this; simpa using this
  have l2 : n ≤ b.size := by have := lcp_le_right a.data.toList b.data.toList; rw [hn] at this; simpa using this
  have q1 : ((a.extract 0 n).toList == (b.extract 0 n).toList) = true := by
    rw [beq_iff_eq, ByteArray.toList_eq, ByteArray.toList_eq, extract_list, extract_list, ← hn]
    simpa using lcp_take a.data.toList b.data.toList
  have q2 : (((a[n]'h1).toNat : Int) == ((b[n]'h2).toNat : Int)) = false := by
    have := lcp_differ a.data.toList b.data.toList (by rw [hn]; simpa using h1) (by rw [hn]; simpa using h2)
    rw [hn, byte_at a n h1, byte_at b n h2] at this
    rw [beq_eq_false_iff_ne]
    intro e
    exact this (congrArg some (UInt8.toNat_inj.1 (by omega)))
  have d1 : decide ((n : Int) < 0) = false := by simp
  have d2 : decide (a.size < n) = false := by simp; omega
  have d3 : decide (b.size < n) = false := by simp; omega
  have d4 : decide (n < a.size) = true := by simp; omega
  have d5 : decide (n < b.size) = true := by simp; omega
  have d6 : ((n : Int) == (a.size : Int)) = false := by simp; omega
  have d7 : ((n : Int) == (b.size : Int)) = false := by simp; omega
  clear hn
  go_enter Try.func6, Try.ntmps6
  go_wp2_with fail
  refine (awake_any _).mono ?_
  rintro e w1 ⟨rfl, hb1⟩
  go_wp2_with fail
  refine (common_any _ _ _ A1.out B1.out).mono ?_
  rintro e w2 ⟨rfl, hb2⟩
  rw [H1.out]
  go_wp2_with fail
  simp only [List.append_eq, List.cons_append, List.nil_append]
  refine wp_region_quiet_below (by kernel_rfl) (by kernel_rfl) ?_
  repeat (any_goals (first | go_big_quiet_step (first
    | (go_at_call 16; exact Calls.regrown_of ((common_any _ _ _ B1.out A1.out).mono fun e w' h => ⟨by rw [h.1, H2.out], h.2⟩))
    | (go_at_call 17; exact Calls.regrown_of ((begins_any _ _ _ (by first | exact A1.out | exact B1.out) (by first | exact B1.out | exact A1.out)).mono fun e w' h => ⟨by first | rw [h.1, H1.out] | rw [h.1, H2.out], h.2⟩))) | quiet_step (fail)))
  refine wpQuiet_nil ?_
  intro w3 hw3
  have hb3 : Below w2.heap.size w2 w3 := by obtain ⟨p, rfl⟩ := hw3; exact below_regrown _ _ _
  clear hw3
  go_wp2_with fail
  refine (cut_any _ _ _ A1.out).mono ?_
  rintro e w4 ⟨rfl, hb4⟩
  rw [cutVal_yes a n h1]
  go_wp2_with fail
  refine (cut_any _ _ _ B1.out).mono ?_
  rintro e w5 ⟨rfl, hb5⟩
  rw [cutVal_yes b n h2]
  go_wp2_with fail
  refine wp_region_quiet_below (by kernel_rfl) (by kernel_rfl) ?_
  repeat (any_goals (first | go_big_quiet_step (first
    | (go_at_call 19; with_reducible exact Calls.regrown_of (join_back a n _ h1 ha))
    | (go_at_call 19; with_reducible exact Calls.regrown_of (join_back b n _ h2 hb))
    | (go_at_call 20; exact Calls.regrown_of (rest_any _ _ _ (by first | exact A1.out | exact B1.out)))) | quiet_step (fail)))
  refine wpQuiet_nil ?_
  intro w6 hw6
  have hb6 : Below w5.heap.size w5 w6 := by obtain ⟨p, rfl⟩ := hw6; exact below_regrown _ _ _
  clear hw6
  go_wp2_with fail
  go_ret
  exact ⟨rfl, Below.step (Below.step (Below.step (Below.step (Below.step hb1 hb2) hb3) hb4) hb5) hb6⟩

set_option maxHeartbeats 4000000 in
theorem splits_B (a b : ByteArray) (n : Nat) (w : World) (ha : a.size ≤ 2000) (hb : b.size ≤ 2000) (hn : lcp a.data.toList b.data.toList = n) (h1 : n < a.size) (h2 : ¬ n < b.size) :
    Calls Try.prog 6 #[.string a, .string b] w fun e w' => e = .returned (.bool true) ∧ Below w.heap.size w w' := by
  have H1 := Lib.hid hn
  have H2 : Hid (lcp b.data.toList a.data.toList = n) := by show _ = _; rw [lcp_comm]; exact hn
  have A1 : Hid (a.size ≤ maxLen) := Nat.le_trans ha (by decide)
  have B1 : Hid (b.size ≤ maxLen) := Nat.le_trans hb (by decide)
  have l1 : n ≤ a.size := by have := lcp_le_left a.data.toList b.data.toList; rw [hn] at this; simpa using this
  have l2 : n ≤ b.size := by have := lcp_le_right a.data.toList b.data.toList; rw [hn] at this; simpa using this
  have q1 : ((a.extract 0 n).toList == (b.extract 0 n).toList) = true := by
    rw [beq_iff_eq, ByteArray.toList_eq, ByteArray.toList_eq, extract_list, extract_list, ← hn]
    simpa using lcp_take a.data.toList b.data.toList
  have d1 : decide ((n : Int) < 0) = false := by simp
  have d2 : decide (a.size < n) = false := by simp; omega
  have d3 : decide (b.size < n) = false := by simp; omega
  have d4 : decide (n < a.size) = true := by simp; omega
  have d5 : decide (n < b.size) = false := by simp; omega
  have d6 : ((n : Int) == (a.size : Int)) = false := by simp; omega
  have d7 : ((n : Int) == (b.size : Int)) = true := by simp; omega
  clear hn
  go_enter Try.func6, Try.ntmps6
  go_wp2_with fail
  refine (awake_any _).mono ?_
  rintro e w1 ⟨rfl, hb1⟩
  go_wp2_with fail
  refine (common_any _ _ _ A1.out B1.out).mono ?_
  rintro e w2 ⟨rfl, hb2⟩
  rw [H1.out]
  go_wp2_with fail
  simp only [List.append_eq, List.cons_append, List.nil_append]
  refine wp_region_quiet_below (by kernel_rfl) (by kernel_rfl) ?_
  repeat (any_goals (first | go_big_quiet_step (first
    | (go_at_call 16; exact Calls.regrown_of ((common_any _ _ _ B1.out A1.out).mono fun e w' h => ⟨by rw [h.1, H2.out], h.2⟩))
    | (go_at_call 17; exact Calls.regrown_of ((begins_any _ _ _ (by first | exact A1.out | exact B1.out) (by first | exact B1.out | exact A1.out)).mono fun e w' h => ⟨by first | rw [h.1, H1.out] | rw [h.1, H2.out], h.2⟩))) | quiet_step (fail)))
  refine wpQuiet_nil ?_
  intro w3 hw3
  have hb3 : Below w2.heap.size w2 w3 := by obtain ⟨p, rfl⟩ := hw3; exact below_regrown _ _ _
  clear hw3
  go_wp2_with fail
  refine (cut_any _ _ _ A1.out).mono ?_
  rintro e w4 ⟨rfl, hb4⟩
  rw [cutVal_yes a n h1]
  go_wp2_with fail
  refine (cut_any _ _ _ B1.out).mono ?_
  rintro e w5 ⟨rfl, hb5⟩
  rw [cutVal_no b n h2]
  go_wp2_with fail
  refine wp_region_quiet_below (by kernel_rfl) (by kernel_rfl) ?_
  repeat (any_goals (first | go_big_quiet_step (first
    | (go_at_call 19; with_reducible exact Calls.regrown_of (join_back a n _ h1 ha))
    | (go_at_call 20; exact Calls.regrown_of (rest_any _ _ _ (by first | exact A1.out | exact B1.out)))) | quiet_step (fail)))
  refine wpQuiet_nil ?_
  intro w6 hw6
  have hb6 : Below w5.heap.size w5 w6 := by obtain ⟨p, rfl⟩ := hw6; exact below_regrown _ _ _
  clear hw6
  go_wp2_with fail
  go_ret
  exact ⟨rfl, Below.step (Below.step (Below.step (Below.step (Below.step hb1 hb2) hb3) hb4) hb5) hb6⟩

end Go.Proofs.Ythfbkmpljobagaa
