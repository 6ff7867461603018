/- The choice of an operation by its number. -/
import Derived.Test.YtfffifmpfkkgbaaKit
import Derived.IntWalk
namespace Go.Proofs.Ytfffifmpfkkgbaa
open Go.RowKit
set_option maxRecDepth 100000
set_option maxHeartbeats 4000000

theorem pick_any (x n : Int) (hn : 1 ≤ n) (hn2 : n ≤ 4611686018427387904) (w : World) :
    Calls Try.prog 19 #[.int .i64 x, .int .i64 n] w fun e w' => e = .returned (.int .i64 (x % n)) ∧ w' = w := by
  have h1 := Int.lt_tmod_of_pos x (show (0 : Int) < n by omega)
  have h2 := Int.tmod_lt_of_pos x (show (0 : Int) < n by omega)
  obtain ⟨y, hy⟩ : ∃ y, x.tmod n = y := ⟨_, rfl⟩
  rw [hy] at h1 h2
  have hn0 : ¬ n < 1 := by omega
  have hnz : ¬ n = 0 := by omega
  have e1 : x % n = y % n := by
    have h := Int.mul_tdiv_add_tmod x n
    rw [hy] at h
    rw [← h, Int.add_comm, Int.add_mul_emod_self_left]
  rcases (show y < 0 ∨ 0 ≤ y from by omega) with h | h
  · have hr : x % n = y + n := by
      rw [e1, ← Int.add_emod_right]
      exact Int.emod_eq_of_lt (by omega) (by omega)
    have kw : IntKind.i64.wrap (y + n) = y + n := IntWalk.i64_in _ (by omega)
    have HR := Lib.hid hr
    clear e1 hr
    go_enter Try.func19, Try.ntmps19
    go_wp2_with fail
    go_ret
    exact ⟨ret_int HR.out.symm, rfl⟩
  · have hr : x % n = y := by
      rw [e1]
      exact Int.emod_eq_of_lt (by omega) (by omega)
    have h' : ¬ y < 0 := by omega
    have HR := Lib.hid hr
    clear e1 hr
    go_enter Try.func19, Try.ntmps19
    go_wp2_with fail
    go_ret
    exact ⟨ret_int HR.out.symm, rfl⟩

end Go.Proofs.Ytfffifmpfkkgbaa
