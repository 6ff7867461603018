/- The walks of the word layer: what each function of the package vword does to a word, but for Show and Parse. -/
import Derived.Test.YthhmbmeajgjhcaaProg
import Derived.Test.YthhmbmeajgjhcaaBits
import Derived.Test.YthhmbmeajgjhcaaKit
import Derived.WalkSpells
import Derived.Lib.Hide
import Derived.Lib.QuietBelow
import Derived.BigQuiet
namespace Go.Proofs.Ythhmbmeajgjhcaa
open Go.RowKit
set_option maxRecDepth 100000
set_option maxHeartbeats 400000

theorem of_any (n : Int) (w : World) :
    Calls Try.prog 49 #[.int .u64 n] w fun e w' => e = .returned (.agg #[.int .u64 n]) ∧ Below w.heap.size w w' := by
  go_enter Try.func49, Try.ntmps49
  go_wp2
  exact bodyPost_ret (v := .agg #[.int .u64 n]) (by simp [results, Try.results49, go_sem]) rfl ⟨rfl, (Below.refl _ _).alloc (Nat.le_refl _) _⟩

theorem field0 (n : Int) (w : World) : (Instr.field 78 (.agg #[.int .u64 n]) 0).run Try.prog w = .ok (.int .u64 n) w := by kernel_rfl

theorem blocked_any (n : Int) (w : World) (h : W64 n) :
    Calls Try.prog 51 #[.int .u64 n] w fun e w' => e = .returned (.bool (n % 2 != 0)) ∧ w' = w := by
  have H := Lib.hid (and1 n h)
  clear h
  go_enter Try.func51, Try.ntmps51
  go_wp2
  go_ret
  exact ⟨ret_bool (by rw [H.out]), rfl⟩

theorem bdead_any (n : Int) (w : World) (h : W64 n) :
    Calls Try.prog 50 #[.int .u64 n] w fun e w' => e = .returned (.bool (n / 2 % 2 != 0)) ∧ w' = w := by
  have H := Lib.hid (and2 n h)
  clear h
  go_enter Try.func50, Try.ntmps50
  go_wp2
  go_ret
  exact ⟨ret_bool (by rw [H.out, Bool.eq_iff_iff]; simp), rfl⟩

theorem bfree_any (n : Int) (w : World) (h : W64 n) :
    Calls Try.prog 63 #[.int .u64 n] w fun e w' => e = .returned (.bool (n % 4 == 0)) ∧ w' = w := by
  have H := Lib.hid h
  clear h
  by_cases h1 : n % 2 = 0
  all_goals
    have d1 : (n % 2 != 0) = (decide (¬ n % 2 = 0)) := by simp [bne, h1]
    simp only [h1, not_true_eq_false, not_false_eq_true, decide_true, decide_false] at d1
    have H1 := Lib.hid h1
    clear h1
    go_enter Try.func63, Try.ntmps63
    go_wp2_with (first | (go_at_call 51; refine (blocked_any _ _ H.out).mono ?_; rintro e w1 ⟨rfl, rfl⟩) | (go_at_call 50; refine (bdead_any _ _ H.out).mono ?_; rintro e w1 ⟨rfl, rfl⟩))
    go_ret
    have := H1.out
    exact ⟨ret_bool (by rw [Bool.eq_iff_iff]; simp; omega), rfl⟩

theorem bheld_any (n : Int) (w : World) (h : W64 n) :
    Calls Try.prog 56 #[.int .u64 n] w fun e w' => e = .returned (.bool (n % 4 == 1)) ∧ w' = w := by
  have H := Lib.hid h
  clear h
  by_cases h1 : n % 2 = 0
  all_goals
    have d1 : (n % 2 != 0) = (decide (¬ n % 2 = 0)) := by simp [bne, h1]
    simp only [h1, not_true_eq_false, not_false_eq_true, decide_true, decide_false] at d1
    have H1 := Lib.hid h1
    clear h1
    go_enter Try.func56, Try.ntmps56
    go_wp2_with (first | (go_at_call 51; refine (blocked_any _ _ H.out).mono ?_; rintro e w1 ⟨rfl, rfl⟩) | (go_at_call 50; refine (bdead_any _ _ H.out).mono ?_; rintro e w1 ⟨rfl, rfl⟩))
    go_ret
    have := H1.out
    exact ⟨ret_bool (by rw [Bool.eq_iff_iff]; simp; omega), rfl⟩

/- The four changes, each as a literal function. -/
theorem lockF_any (n : Int) (w : World) (h : W64 n) (he : n % 2 = 0) :
    Calls Try.prog 64 #[.int .u64 n] w fun e w' => e = .returned (.int .u64 (n + 1)) ∧ w' = w := by
  have H := Lib.hid (or1 n h he)
  clear h he
  go_enter Try.func64, Try.ntmps64
  go_wp2
  go_ret
  exact ⟨ret_int (by rw [H.out]), rfl⟩

theorem dropF_any (n : Int) (w : World) (h : W64 n) (he : n % 2 = 1) :
    Calls Try.prog 57 #[.int .u64 n] w fun e w' => e = .returned (.int .u64 (n - 1)) ∧ w' = w := by
  have H := Lib.hid (andNot1 n h)
  have HE := Lib.hid he
  clear h he
  go_enter Try.func57, Try.ntmps57
  go_wp2
  go_ret
  exact ⟨ret_int (by rw [H.out, HE.out]), rfl⟩

theorem doneF_any (n : Int) (w : World) (h : W64 n) (he : n % 4 = 1) :
    Calls Try.prog 58 #[.int .u64 n] w fun e w' => e = .returned (.int .u64 (doneV n)) ∧ w' = w := by
  have H := Lib.hid (done_eq n h he)
  clear h he
  go_enter Try.func58, Try.ntmps58
  go_wp2
  go_ret
  exact ⟨ret_int (by rw [H.out]), rfl⟩

theorem killF_any (n : Int) (w : World) (h : W64 n) (he : n % 4 = 1) :
    Calls Try.prog 59 #[.int .u64 n] w fun e w' => e = .returned (.int .u64 (killV n)) ∧ w' = w := by
  have H := Lib.hid (kill_eq n h he)
  clear h he
  go_enter Try.func59, Try.ntmps59
  go_wp2
  go_ret
  exact ⟨ret_int (by rw [H.out]), rfl⟩

/- The exported questions. -/
theorem locked_any (n : Int) (w : World) (h : W64 n) :
    Calls Try.prog 35 #[.int .u64 n] w fun e w' => e = .returned (.bool (n % 2 != 0)) ∧ Below w.heap.size w w' := by
  have H := Lib.hid h
  clear h
  have hfd := field0
  go_enter Try.func35, Try.ntmps35
  go_wp2_with (first | (go_at_call 49; refine (of_any _ _).mono ?_; rintro e w1 ⟨rfl, hb1⟩) | (go_at_call 51; refine (blocked_any _ _ H.out).mono ?_; rintro e w2 ⟨rfl, rfl⟩))
  go_ret
  exact ⟨rfl, hb1⟩

theorem dead_any (n : Int) (w : World) (h : W64 n) :
    Calls Try.prog 34 #[.int .u64 n] w fun e w' => e = .returned (.bool (n / 2 % 2 != 0)) ∧ Below w.heap.size w w' := by
  have H := Lib.hid h
  clear h
  have hfd := field0
  go_enter Try.func34, Try.ntmps34
  go_wp2_with (first | (go_at_call 49; refine (of_any _ _).mono ?_; rintro e w1 ⟨rfl, hb1⟩) | (go_at_call 50; refine (bdead_any _ _ H.out).mono ?_; rintro e w2 ⟨rfl, rfl⟩))
  go_ret
  exact ⟨rfl, hb1⟩

end Go.Proofs.Ythhmbmeajgjhcaa
