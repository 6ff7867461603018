/- The walks of New, and of the reference's functions on words. -/
import Derived.Test.YtjkocklfnapdaaaDoorOnce
import Derived.Test.YtjkocklfnapdaaaDoorVn
namespace Go.Proofs.YtjkocklfnapdaaaDoor
open Go.RowKit
set_option maxRecDepth 100000
set_option maxHeartbeats 1000000

theorem wordR_any (v : Int) (l d : Bool) (w : World) (h0 : 0 ≤ v) (h1 : v < 4611686018427387904) :
    Calls Tryd.prog 24 #[.agg #[.int .u64 v, .bool l, .bool d]] w fun e w' => e = .returned (.int .u64 (VN v l d)) ∧ Below w.heap.size w w' := by
  have H1 := Lib.hid (wrap4 v h0 h1)
  have H2 := Lib.hid (wrap41 v h0 h1)
  have H3 := Lib.hid (wrap42 v h0 h1)
  have H4 := Lib.hid (wrap43 v h0 h1)
  clear h0 h1
  cases l <;> cases d
  all_goals
    go_enter Tryd.func24, Tryd.ntmps24
    go_wp2
    go_ret
    exact ⟨ret_int (by simp [VN, H1.out, H2.out, H3.out, H4.out]), (Below.refl _ _).alloc (Nat.le_refl _) _⟩

theorem ofR_any (n : Int) (w : World) (h : W64 n) :
    Calls Tryd.prog 25 #[.int .u64 n] w fun e w' => e = .returned (.agg #[.int .u64 (n / 4), .bool (n % 2 == 1), .bool (n / 2 % 2 == 1)]) ∧ Below w.heap.size w w' := by
  have H := Lib.hid h
  clear h
  go_enter Tryd.func25, Tryd.ntmps25
  go_wp2
  refine bodyPost_ret (v := .agg #[.int .u64 (IntKind.u64.wrap (n.tdiv 4)), .bool (n.tmod 2 == 1), .bool ((IntKind.u64.wrap (n.tdiv 2)).tmod 2 == 1)]) (by simp [results, Tryd.results25, go_sem]) rfl ⟨?_, (Below.refl _ _).alloc (Nat.le_refl _) _⟩
  have h0 := H.out.1
  have h1 := H.out.2
  have e2 : IntKind.u64.wrap (n.tdiv 2) = n / 2 := by
    rw [wrapU, Int.tdiv_eq_ediv_of_nonneg h0]
    exact Int.emod_eq_of_lt (by omega) (by omega)
  rw [version_eq n H.out, e2, Int.tmod_eq_emod_of_nonneg h0, Int.tmod_eq_emod_of_nonneg (show 0 ≤ n / 2 by omega)]

theorem newR_yes (v : Int) (l d : Bool) (w : World) (h0 : 0 ≤ v) (h1 : v < 4611686018427387904) :
    Calls Tryd.prog 9 #[.int .u64 v, .bool l, .bool d] w fun e w' => e = .returned (.tuple #[.int .u64 (VN v l d), .int .i64 0]) ∧ Below w.heap.size w w' := by
  have H0 := Lib.hid h0
  have H1 := Lib.hid h1
  go_enter Tryd.func9, Tryd.ntmps9
  go_wp2_with (go_at_call 24; refine (wordR_any v l d _ H0.out H1.out).mono ?_; rintro e w1 ⟨rfl, hb1⟩)
  go_ret2
  exact ⟨rfl, hb1⟩

theorem newR_no (v : Int) (l d : Bool) (w : World) (h1 : 4611686018427387904 ≤ v) :
    Calls Tryd.prog 9 #[.int .u64 v, .bool l, .bool d] w fun e w' => e = .returned (.tuple #[.int .u64 0, .int .i64 2]) ∧ w' = w := by
  go_enter Tryd.func9, Tryd.ntmps9
  go_wp2
  go_ret2
  exact ⟨rfl, rfl⟩

theorem new_yes (v : Int) (l d : Bool) (w : World) (h0 : 0 ≤ v) (h1 : v < 4611686018427387904) :
    Calls Tryd.prog 8 #[.int .u64 v, .bool l, .bool d] w fun e w' => e = .returned (.tuple #[.int .u64 (VN v l d), .int .i64 0]) ∧ w' = w := by
  have e1 := Lib.hid (wrap4 v h0 h1)
  have e2 := Lib.hid (or1 (v * 4) ⟨by omega, by omega⟩ (by omega))
  have e3 := Lib.hid (or2 (v * 4) ⟨by omega, by omega⟩ (by omega))
  have e4 := Lib.hid (or42 v h0 h1)
  cases l <;> cases d
  all_goals
    go_enter Tryd.func8, Tryd.ntmps8
    go_wp2
    go_ret2
    refine ⟨?_, rfl⟩
    simp [VN, e1.out, e2.out, e3.out, e4.out]

theorem new_no (v : Int) (l d : Bool) (w : World) (h1 : 4611686018427387904 ≤ v) :
    Calls Tryd.prog 8 #[.int .u64 v, .bool l, .bool d] w fun e w' => e = .returned (.tuple #[.int .u64 0, .int .i64 2]) ∧ w' = w := by
  go_enter Tryd.func8, Tryd.ntmps8
  go_wp2
  go_ret2
  exact ⟨rfl, rfl⟩

end Go.Proofs.YtjkocklfnapdaaaDoor
