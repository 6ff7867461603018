/- The walks of Lock, Drop, Done and Kill. -/
import Derived.Test.YtjkocklfnapdaaaDoorWalks
namespace Go.Proofs.YtjkocklfnapdaaaDoor
open Go.RowKit
set_option maxRecDepth 100000
set_option maxHeartbeats 400000

theorem lock_yes (n : Int) (w : World) (h : W64 n) (he : n % 4 = 0) :
    Calls Tryd.prog 14 #[.int .u64 n] w fun e w' => e = .returned (.tuple #[.int .u64 (n + 1), .bool true]) ∧ Below w.heap.size w w' := by
  have H := Lib.hid h
  have d1 : (n % 4 == 0) = true := by simpa using he
  have HE := Lib.hid he
  clear h he
  have hmf := @makeFunc_run Tryd.prog
  go_enter Tryd.func14, Tryd.ntmps14
  go_wp2_with (first | (go_at_call 29; refine (of_any _ _).mono ?_; rintro e w1 ⟨rfl, hb1⟩) | (go_at_call 30; go_in) | (go_at_call 31; refine (bfree_any _ _ H.out).mono ?_; rintro e w2 ⟨rfl, rfl⟩) | (go_at_call 32; refine (lockF_any _ _ H.out (by have := HE.out; omega)).mono ?_; rintro e w3 ⟨rfl, rfl⟩))
  go_ret2
  exact ⟨rfl, Below.new (Below.new hb1 _) _⟩

theorem lock_no (n : Int) (w : World) (h : W64 n) (he : ¬ n % 4 = 0) :
    Calls Tryd.prog 14 #[.int .u64 n] w fun e w' => e = .returned (.tuple #[.int .u64 n, .bool false]) ∧ Below w.heap.size w w' := by
  have H := Lib.hid h
  have d1 : (n % 4 == 0) = false := by simpa using he
  clear h he
  have hmf := @makeFunc_run Tryd.prog
  go_enter Tryd.func14, Tryd.ntmps14
  go_wp2_with (first | (go_at_call 29; refine (of_any _ _).mono ?_; rintro e w1 ⟨rfl, hb1⟩) | (go_at_call 30; go_in) | (go_at_call 31; refine (bfree_any _ _ H.out).mono ?_; rintro e w2 ⟨rfl, rfl⟩))
  go_ret2
  exact ⟨rfl, Below.new (Below.new hb1 _) _⟩

theorem drop_yes (n : Int) (w : World) (h : W64 n) (he : n % 4 = 1) :
    Calls Tryd.prog 19 #[.int .u64 n] w fun e w' => e = .returned (.tuple #[.int .u64 (n - 1), .bool true]) ∧ Below w.heap.size w w' := by
  have H := Lib.hid h
  have d1 : (n % 4 == 1) = true := by simpa using he
  have HE := Lib.hid he
  clear h he
  have hmf := @makeFunc_run Tryd.prog
  go_enter Tryd.func19, Tryd.ntmps19
  go_wp2_with (first | (go_at_call 29; refine (of_any _ _).mono ?_; rintro e w1 ⟨rfl, hb1⟩) | (go_at_call 30; go_in) | (go_at_call 33; refine (bheld_any _ _ H.out).mono ?_; rintro e w2 ⟨rfl, rfl⟩) | (go_at_call 37; refine (dropF_any _ _ H.out (by have := HE.out; omega)).mono ?_; rintro e w3 ⟨rfl, rfl⟩))
  go_ret2
  exact ⟨rfl, Below.new (Below.new hb1 _) _⟩

theorem drop_no (n : Int) (w : World) (h : W64 n) (he : ¬ n % 4 = 1) :
    Calls Tryd.prog 19 #[.int .u64 n] w fun e w' => e = .returned (.tuple #[.int .u64 n, .bool false]) ∧ Below w.heap.size w w' := by
  have H := Lib.hid h
  have d1 : (n % 4 == 1) = false := by simpa using he
  clear h he
  have hmf := @makeFunc_run Tryd.prog
  go_enter Tryd.func19, Tryd.ntmps19
  go_wp2_with (first | (go_at_call 29; refine (of_any _ _).mono ?_; rintro e w1 ⟨rfl, hb1⟩) | (go_at_call 30; go_in) | (go_at_call 33; refine (bheld_any _ _ H.out).mono ?_; rintro e w2 ⟨rfl, rfl⟩))
  go_ret2
  exact ⟨rfl, Below.new (Below.new hb1 _) _⟩

theorem done_yes (n : Int) (w : World) (h : W64 n) (he : n % 4 = 1) :
    Calls Tryd.prog 16 #[.int .u64 n] w fun e w' => e = .returned (.tuple #[.int .u64 (doneV n), .bool true]) ∧ Below w.heap.size w w' := by
  have H := Lib.hid h
  have d1 : (n % 4 == 1) = true := by simpa using he
  have HE := Lib.hid he
  clear h he
  have hmf := @makeFunc_run Tryd.prog
  go_enter Tryd.func16, Tryd.ntmps16
  go_wp2_with (first | (go_at_call 29; refine (of_any _ _).mono ?_; rintro e w1 ⟨rfl, hb1⟩) | (go_at_call 30; go_in) | (go_at_call 33; refine (bheld_any _ _ H.out).mono ?_; rintro e w2 ⟨rfl, rfl⟩) | (go_at_call 34; refine (doneF_any _ _ H.out HE.out).mono ?_; rintro e w3 ⟨rfl, rfl⟩))
  go_ret2
  exact ⟨rfl, Below.new (Below.new hb1 _) _⟩

theorem done_no (n : Int) (w : World) (h : W64 n) (he : ¬ n % 4 = 1) :
    Calls Tryd.prog 16 #[.int .u64 n] w fun e w' => e = .returned (.tuple #[.int .u64 n, .bool false]) ∧ Below w.heap.size w w' := by
  have H := Lib.hid h
  have d1 : (n % 4 == 1) = false := by simpa using he
  clear h he
  have hmf := @makeFunc_run Tryd.prog
  go_enter Tryd.func16, Tryd.ntmps16
  go_wp2_with (first | (go_at_call 29; refine (of_any _ _).mono ?_; rintro e w1 ⟨rfl, hb1⟩) | (go_at_call 30; go_in) | (go_at_call 33; refine (bheld_any _ _ H.out).mono ?_; rintro e w2 ⟨rfl, rfl⟩))
  go_ret2
  exact ⟨rfl, Below.new (Below.new hb1 _) _⟩

theorem kill_yes (n : Int) (w : World) (h : W64 n) (he : n % 4 = 1) :
    Calls Tryd.prog 20 #[.int .u64 n] w fun e w' => e = .returned (.tuple #[.int .u64 (killV n), .bool true]) ∧ Below w.heap.size w w' := by
  have H := Lib.hid h
  have d1 : (n % 4 == 1) = true := by simpa using he
  have HE := Lib.hid he
  clear h he
  have hmf := @makeFunc_run Tryd.prog
  go_enter Tryd.func20, Tryd.ntmps20
  go_wp2_with (first | (go_at_call 29; refine (of_any _ _).mono ?_; rintro e w1 ⟨rfl, hb1⟩) | (go_at_call 30; go_in) | (go_at_call 33; refine (bheld_any _ _ H.out).mono ?_; rintro e w2 ⟨rfl, rfl⟩) | (go_at_call 38; refine (killF_any _ _ H.out HE.out).mono ?_; rintro e w3 ⟨rfl, rfl⟩))
  go_ret2
  exact ⟨rfl, Below.new (Below.new hb1 _) _⟩

theorem kill_no (n : Int) (w : World) (h : W64 n) (he : ¬ n % 4 = 1) :
    Calls Tryd.prog 20 #[.int .u64 n] w fun e w' => e = .returned (.tuple #[.int .u64 n, .bool false]) ∧ Below w.heap.size w w' := by
  have H := Lib.hid h
  have d1 : (n % 4 == 1) = false := by simpa using he
  clear h he
  have hmf := @makeFunc_run Tryd.prog
  go_enter Tryd.func20, Tryd.ntmps20
  go_wp2_with (first | (go_at_call 29; refine (of_any _ _).mono ?_; rintro e w1 ⟨rfl, hb1⟩) | (go_at_call 30; go_in) | (go_at_call 33; refine (bheld_any _ _ H.out).mono ?_; rintro e w2 ⟨rfl, rfl⟩))
  go_ret2
  exact ⟨rfl, Below.new (Below.new hb1 _) _⟩

end Go.Proofs.YtjkocklfnapdaaaDoor
