/- The walks of the word layer: what each function of the package vword does to a word, but for Show and Parse. -/
import Derived.Test.YtjkocklfnapdaaaDoorProg
import Derived.Test.YtjkocklfnapdaaaDoorBits
import Derived.WalkSpells
import Derived.Lib.Hide
import Derived.Lib.QuietBelow
import Derived.BigQuiet
namespace Go.Proofs.YtjkocklfnapdaaaDoor
open Go.RowKit
set_option maxRecDepth 100000
set_option maxHeartbeats 400000

theorem makeFunc_run {P : Program} (fn : Fn) (first cap : Array Value) (w : World) : (Instr.makeFunc fn first cap).run P w = .ok (.func fn first cap) w := rfl
theorem Below.step {w w1 w2 : World} (h : Below w.heap.size w w1) (k : Below w1.heap.size w1 w2) : Below w.heap.size w w2 := h.trans (k.mono h.size)
theorem Below.new {w w1 : World} (h : Below w.heap.size w w1) (o : Obj) : Below w.heap.size w (w1.alloc o) := h.alloc h.size o
theorem ret_int {k : IntKind} {a b : Int} (h : a = b) : Ending.returned (.int k a) = .returned (.int k b) := by rw [h]
theorem ret_bool {a b : Bool} (h : a = b) : Ending.returned (.bool a) = .returned (.bool b) := by rw [h]

theorem of_any (n : Int) (w : World) :
    Calls Tryd.prog 29 #[.int .u64 n] w fun e w' => e = .returned (.agg #[.int .u64 n]) ∧ Below w.heap.size w w' := by
  go_enter Tryd.func29, Tryd.ntmps29
  go_wp2
  exact bodyPost_ret (v := .agg #[.int .u64 n]) (by simp [results, Tryd.results29, go_sem]) rfl ⟨rfl, (Below.refl _ _).alloc (Nat.le_refl _) _⟩

theorem field0 (n : Int) (w : World) : (Instr.field 46 (.agg #[.int .u64 n]) 0).run Tryd.prog w = .ok (.int .u64 n) w := by kernel_rfl

theorem blocked_any (n : Int) (w : World) (h : W64 n) :
    Calls Tryd.prog 35 #[.int .u64 n] w fun e w' => e = .returned (.bool (n % 2 != 0)) ∧ w' = w := by
  have H := Lib.hid (and1 n h)
  clear h
  go_enter Tryd.func35, Tryd.ntmps35
  go_wp2
  go_ret
  exact ⟨ret_bool (by rw [H.out]), rfl⟩

theorem bdead_any (n : Int) (w : World) (h : W64 n) :
    Calls Tryd.prog 36 #[.int .u64 n] w fun e w' => e = .returned (.bool (n / 2 % 2 != 0)) ∧ w' = w := by
  have H := Lib.hid (and2 n h)
  clear h
  go_enter Tryd.func36, Tryd.ntmps36
  go_wp2
  go_ret
  exact ⟨ret_bool (by rw [H.out, Bool.eq_iff_iff]; simp), rfl⟩

theorem bfree_any (n : Int) (w : World) (h : W64 n) :
    Calls Tryd.prog 31 #[.int .u64 n] w fun e w' => e = .returned (.bool (n % 4 == 0)) ∧ w' = w := by
  have H := Lib.hid h
  clear h
  by_cases h1 : n % 2 = 0
  all_goals
    have d1 : (n % 2 != 0) = (decide (¬ n % 2 = 0)) := by simp [bne, h1]
    simp only [h1, not_true_eq_false, not_false_eq_true, decide_true, decide_false] at d1
    have H1 := Lib.hid h1
    clear h1
    go_enter Tryd.func31, Tryd.ntmps31
    go_wp2_with (first | (go_at_call 35; refine (blocked_any _ _ H.out).mono ?_; rintro e w1 ⟨rfl, rfl⟩) | (go_at_call 36; refine (bdead_any _ _ H.out).mono ?_; rintro e w1 ⟨rfl, rfl⟩))
    go_ret
    have := H1.out
    exact ⟨ret_bool (by rw [Bool.eq_iff_iff]; simp; omega), rfl⟩

theorem bheld_any (n : Int) (w : World) (h : W64 n) :
    Calls Tryd.prog 33 #[.int .u64 n] w fun e w' => e = .returned (.bool (n % 4 == 1)) ∧ w' = w := by
  have H := Lib.hid h
  clear h
  by_cases h1 : n % 2 = 0
  all_goals
    have d1 : (n % 2 != 0) = (decide (¬ n % 2 = 0)) := by simp [bne, h1]
    simp only [h1, not_true_eq_false, not_false_eq_true, decide_true, decide_false] at d1
    have H1 := Lib.hid h1
    clear h1
    go_enter Tryd.func33, Tryd.ntmps33
    go_wp2_with (first | (go_at_call 35; refine (blocked_any _ _ H.out).mono ?_; rintro e w1 ⟨rfl, rfl⟩) | (go_at_call 36; refine (bdead_any _ _ H.out).mono ?_; rintro e w1 ⟨rfl, rfl⟩))
    go_ret
    have := H1.out
    exact ⟨ret_bool (by rw [Bool.eq_iff_iff]; simp; omega), rfl⟩

theorem bversion_any (n : Int) (w : World) (h : W64 n) :
    Calls Tryd.prog 39 #[.int .u64 n] w fun e w' => e = .returned (.int .u64 (n / 4)) ∧ w' = w := by
  have H := Lib.hid (version_eq n h)
  clear h
  go_enter Tryd.func39, Tryd.ntmps39
  go_wp2
  go_ret
  exact ⟨ret_int (by rw [H.out]), rfl⟩

/- The four changes, each as a literal function. -/
theorem lockF_any (n : Int) (w : World) (h : W64 n) (he : n % 2 = 0) :
    Calls Tryd.prog 32 #[.int .u64 n] w fun e w' => e = .returned (.int .u64 (n + 1)) ∧ w' = w := by
  have H := Lib.hid (or1 n h he)
  clear h he
  go_enter Tryd.func32, Tryd.ntmps32
  go_wp2
  go_ret
  exact ⟨ret_int (by rw [H.out]), rfl⟩

theorem dropF_any (n : Int) (w : World) (h : W64 n) (he : n % 2 = 1) :
    Calls Tryd.prog 37 #[.int .u64 n] w fun e w' => e = .returned (.int .u64 (n - 1)) ∧ w' = w := by
  have H := Lib.hid (andNot1 n h)
  have HE := Lib.hid he
  clear h he
  go_enter Tryd.func37, Tryd.ntmps37
  go_wp2
  go_ret
  exact ⟨ret_int (by rw [H.out, HE.out]), rfl⟩

theorem doneF_any (n : Int) (w : World) (h : W64 n) (he : n % 4 = 1) :
    Calls Tryd.prog 34 #[.int .u64 n] w fun e w' => e = .returned (.int .u64 (doneV n)) ∧ w' = w := by
  have H := Lib.hid (done_eq n h he)
  clear h he
  go_enter Tryd.func34, Tryd.ntmps34
  go_wp2
  go_ret
  exact ⟨ret_int (by rw [H.out]), rfl⟩

theorem killF_any (n : Int) (w : World) (h : W64 n) (he : n % 4 = 1) :
    Calls Tryd.prog 38 #[.int .u64 n] w fun e w' => e = .returned (.int .u64 (killV n)) ∧ w' = w := by
  have H := Lib.hid (kill_eq n h he)
  clear h he
  go_enter Tryd.func38, Tryd.ntmps38
  go_wp2
  go_ret
  exact ⟨ret_int (by rw [H.out]), rfl⟩

/- The exported questions. -/
theorem version_any (n : Int) (w : World) (h : W64 n) :
    Calls Tryd.prog 21 #[.int .u64 n] w fun e w' => e = .returned (.int .u64 (n / 4)) ∧ Below w.heap.size w w' := by
  have H := Lib.hid h
  clear h
  have hfd := field0
  go_enter Tryd.func21, Tryd.ntmps21
  go_wp2_with (first | (go_at_call 29; refine (of_any _ _).mono ?_; rintro e w1 ⟨rfl, hb1⟩) | (go_at_call 39; refine (bversion_any _ _ H.out).mono ?_; rintro e w2 ⟨rfl, rfl⟩))
  go_ret
  exact ⟨rfl, hb1⟩

theorem locked_any (n : Int) (w : World) (h : W64 n) :
    Calls Tryd.prog 17 #[.int .u64 n] w fun e w' => e = .returned (.bool (n % 2 != 0)) ∧ Below w.heap.size w w' := by
  have H := Lib.hid h
  clear h
  have hfd := field0
  go_enter Tryd.func17, Tryd.ntmps17
  go_wp2_with (first | (go_at_call 29; refine (of_any _ _).mono ?_; rintro e w1 ⟨rfl, hb1⟩) | (go_at_call 35; refine (blocked_any _ _ H.out).mono ?_; rintro e w2 ⟨rfl, rfl⟩))
  go_ret
  exact ⟨rfl, hb1⟩

theorem dead_any (n : Int) (w : World) (h : W64 n) :
    Calls Tryd.prog 18 #[.int .u64 n] w fun e w' => e = .returned (.bool (n / 2 % 2 != 0)) ∧ Below w.heap.size w w' := by
  have H := Lib.hid h
  clear h
  have hfd := field0
  go_enter Tryd.func18, Tryd.ntmps18
  go_wp2_with (first | (go_at_call 29; refine (of_any _ _).mono ?_; rintro e w1 ⟨rfl, hb1⟩) | (go_at_call 36; refine (bdead_any _ _ H.out).mono ?_; rintro e w2 ⟨rfl, rfl⟩))
  go_ret
  exact ⟨rfl, hb1⟩

theorem free_any (n : Int) (w : World) (h : W64 n) :
    Calls Tryd.prog 15 #[.int .u64 n] w fun e w' => e = .returned (.bool (n % 4 == 0)) ∧ Below w.heap.size w w' := by
  have H := Lib.hid h
  clear h
  have hfd := field0
  go_enter Tryd.func15, Tryd.ntmps15
  go_wp2_with (first | (go_at_call 29; refine (of_any _ _).mono ?_; rintro e w1 ⟨rfl, hb1⟩) | (go_at_call 31; refine (bfree_any _ _ H.out).mono ?_; rintro e w2 ⟨rfl, rfl⟩))
  go_ret
  exact ⟨rfl, hb1⟩

end Go.Proofs.YtjkocklfnapdaaaDoor
