/- The walks of Lock, Drop, Done and Kill. -/
import Derived.Test.YthhmbmeajgjhcaaWalks
namespace Go.Proofs.Ythhmbmeajgjhcaa
open Go.RowKit
set_option maxRecDepth 100000
set_option maxHeartbeats 400000

theorem lock_yes (n : Int) (w : World) (h : W64 n) (he : n % 4 = 0) :
    Calls Try.prog 53 #[.int .u64 n] w fun e w' => e = .returned (.tuple #[.int .u64 (n + 1), .bool true]) ∧ Below w.heap.size w w' := by
  have H := Lib.hid h
  have d1 : (n % 4 == 0) = true := by simpa using he
  have HE := Lib.hid he
  clear h he
  have hmf := @makeFunc_run Try.prog
  go_enter Try.func53, Try.ntmps53
  go_wp2_with (first | (go_at_call 49; refine (of_any _ _).mono ?_; rintro e w1 ⟨rfl, hb1⟩) | (go_at_call 55; go_in) | (go_at_call 63; refine (bfree_any _ _ H.out).mono ?_; rintro e w2 ⟨rfl, rfl⟩) | (go_at_call 64; refine (lockF_any _ _ H.out (by have := HE.out; omega)).mono ?_; rintro e w3 ⟨rfl, rfl⟩))
  go_ret2
  exact ⟨rfl, Below.new (Below.new hb1 _) _⟩

theorem lock_no (n : Int) (w : World) (h : W64 n) (he : ¬ n % 4 = 0) :
    Calls Try.prog 53 #[.int .u64 n] w fun e w' => e = .returned (.tuple #[.int .u64 n, .bool false]) ∧ Below w.heap.size w w' := by
  have H := Lib.hid h
  have d1 : (n % 4 == 0) = false := by simpa using he
  clear h he
  have hmf := @makeFunc_run Try.prog
  go_enter Try.func53, Try.ntmps53
  go_wp2_with (first | (go_at_call 49; refine (of_any _ _).mono ?_; rintro e w1 ⟨rfl, hb1⟩) | (go_at_call 55; go_in) | (go_at_call 63; refine (bfree_any _ _ H.out).mono ?_; rintro e w2 ⟨rfl, rfl⟩))
  go_ret2
  exact ⟨rfl, Below.new (Below.new hb1 _) _⟩

theorem drop_yes (n : Int) (w : World) (h : W64 n) (he : n % 4 = 1) :
    Calls Try.prog 39 #[.int .u64 n] w fun e w' => e = .returned (.tuple #[.int .u64 (n - 1), .bool true]) ∧ Below w.heap.size w w' := by
  have H := Lib.hid h
  have d1 : (n % 4 == 1) = true := by simpa using he
  have HE := Lib.hid he
  clear h he
  have hmf := @makeFunc_run Try.prog
  go_enter Try.func39, Try.ntmps39
  go_wp2_with (first | (go_at_call 49; refine (of_any _ _).mono ?_; rintro e w1 ⟨rfl, hb1⟩) | (go_at_call 55; go_in) | (go_at_call 56; refine (bheld_any _ _ H.out).mono ?_; rintro e w2 ⟨rfl, rfl⟩) | (go_at_call 57; refine (dropF_any _ _ H.out (by have := HE.out; omega)).mono ?_; rintro e w3 ⟨rfl, rfl⟩))
  go_ret2
  exact ⟨rfl, Below.new (Below.new hb1 _) _⟩

theorem drop_no (n : Int) (w : World) (h : W64 n) (he : ¬ n % 4 = 1) :
    Calls Try.prog 39 #[.int .u64 n] w fun e w' => e = .returned (.tuple #[.int .u64 n, .bool false]) ∧ Below w.heap.size w w' := by
  have H := Lib.hid h
  have d1 : (n % 4 == 1) = false := by simpa using he
  clear h he
  have hmf := @makeFunc_run Try.prog
  go_enter Try.func39, Try.ntmps39
  go_wp2_with (first | (go_at_call 49; refine (of_any _ _).mono ?_; rintro e w1 ⟨rfl, hb1⟩) | (go_at_call 55; go_in) | (go_at_call 56; refine (bheld_any _ _ H.out).mono ?_; rintro e w2 ⟨rfl, rfl⟩))
  go_ret2
  exact ⟨rfl, Below.new (Below.new hb1 _) _⟩

theorem done_yes (n : Int) (w : World) (h : W64 n) (he : n % 4 = 1) :
    Calls Try.prog 40 #[.int .u64 n] w fun e w' => e = .returned (.tuple #[.int .u64 (doneV n), .bool true]) ∧ Below w.heap.size w w' := by
  have H := Lib.hid h
  have d1 : (n % 4 == 1) = true := by simpa using he
  have HE := Lib.hid he
  clear h he
  have hmf := @makeFunc_run Try.prog
  go_enter Try.func40, Try.ntmps40
  go_wp2_with (first | (go_at_call 49; refine (of_any _ _).mono ?_; rintro e w1 ⟨rfl, hb1⟩) | (go_at_call 55; go_in) | (go_at_call 56; refine (bheld_any _ _ H.out).mono ?_; rintro e w2 ⟨rfl, rfl⟩) | (go_at_call 58; refine (doneF_any _ _ H.out HE.out).mono ?_; rintro e w3 ⟨rfl, rfl⟩))
  go_ret2
  exact ⟨rfl, Below.new (Below.new hb1 _) _⟩

theorem done_no (n : Int) (w : World) (h : W64 n) (he : ¬ n % 4 = 1) :
    Calls Try.prog 40 #[.int .u64 n] w fun e w' => e = .returned (.tuple #[.int .u64 n, .bool false]) ∧ Below w.heap.size w w' := by
  have H := Lib.hid h
  have d1 : (n % 4 == 1) = false := by simpa using he
  clear h he
  have hmf := @makeFunc_run Try.prog
  go_enter Try.func40, Try.ntmps40
  go_wp2_with (first | (go_at_call 49; refine (of_any _ _).mono ?_; rintro e w1 ⟨rfl, hb1⟩) | (go_at_call 55; go_in) | (go_at_call 56; refine (bheld_any _ _ H.out).mono ?_; rintro e w2 ⟨rfl, rfl⟩))
  go_ret2
  exact ⟨rfl, Below.new (Below.new hb1 _) _⟩

theorem kill_yes (n : Int) (w : World) (h : W64 n) (he : n % 4 = 1) :
    Calls Try.prog 41 #[.int .u64 n] w fun e w' => e = .returned (.tuple #[.int .u64 (killV n), .bool true]) ∧ Below w.heap.size w w' := by
  have H := Lib.hid h
  have d1 : (n % 4 == 1) = true := by simpa using he
  have HE := Lib.hid he
  clear h he
  have hmf := @makeFunc_run Try.prog
  go_enter Try.func41, Try.ntmps41
  go_wp2_with (first | (go_at_call 49; refine (of_any _ _).mono ?_; rintro e w1 ⟨rfl, hb1⟩) | (go_at_call 55; go_in) | (go_at_call 56; refine (bheld_any _ _ H.out).mono ?_; rintro e w2 ⟨rfl, rfl⟩) | (go_at_call 59; refine (killF_any _ _ H.out HE.out).mono ?_; rintro e w3 ⟨rfl, rfl⟩))
  go_ret2
  exact ⟨rfl, Below.new (Below.new hb1 _) _⟩

theorem kill_no (n : Int) (w : World) (h : W64 n) (he : ¬ n % 4 = 1) :
    Calls Try.prog 41 #[.int .u64 n] w fun e w' => e = .returned (.tuple #[.int .u64 n, .bool false]) ∧ Below w.heap.size w w' := by
  have H := Lib.hid h
  have d1 : (n % 4 == 1) = false := by simpa using he
  clear h he
  have hmf := @makeFunc_run Try.prog
  go_enter Try.func41, Try.ntmps41
  go_wp2_with (first | (go_at_call 49; refine (of_any _ _).mono ?_; rintro e w1 ⟨rfl, hb1⟩) | (go_at_call 55; go_in) | (go_at_call 56; refine (bheld_any _ _ H.out).mono ?_; rintro e w2 ⟨rfl, rfl⟩))
  go_ret2
  exact ⟨rfl, Below.new (Below.new hb1 _) _⟩

end Go.Proofs.Ythhmbmeajgjhcaa
