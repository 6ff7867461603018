/- The walks of New, and of the reference's functions on words. -/
import Derived.Test.YthhmbmeajgjhcaaTurns
import Derived.Test.YthhmbmeajgjhcaaVn
namespace Go.Proofs.Ythhmbmeajgjhcaa
open Go.RowKit
set_option maxRecDepth 100000
set_option maxHeartbeats 1000000

theorem wordR_any (v : Int) (l d : Bool) (w : World) (h0 : 0 ≤ v) (h1 : v < 4611686018427387904) :
    Calls Try.prog 62 #[.agg #[.int .u64 v, .bool l, .bool d]] w fun e w' => e = .returned (.int .u64 (VN v l d)) ∧ Below w.heap.size w w' := by
  have H1 := Lib.hid (wrap4 v h0 h1)
  have H2 := Lib.hid (wrap41 v h0 h1)
  have H3 := Lib.hid (wrap42 v h0 h1)
  have H4 := Lib.hid (wrap43 v h0 h1)
  clear h0 h1
  cases l <;> cases d
  all_goals
    go_enter Try.func62, Try.ntmps62
    go_wp2
    go_ret
    exact ⟨ret_int (by simp [VN, H1.out, H2.out, H3.out, H4.out]), (Below.refl _ _).alloc (Nat.le_refl _) _⟩

theorem ofR_any (n : Int) (w : World) (h : W64 n) :
    Calls Try.prog 45 #[.int .u64 n] w fun e w' => e = .returned (.agg #[.int .u64 (n / 4), .bool (n % 2 == 1), .bool (n / 2 % 2 == 1)]) ∧ Below w.heap.size w w' := by
  have H := Lib.hid h
  clear h
  go_enter Try.func45, Try.ntmps45
  go_wp2
  refine bodyPost_ret (v := .agg #[.int .u64 (IntKind.u64.wrap (n.tdiv 4)), .bool (n.tmod 2 == 1), .bool ((IntKind.u64.wrap (n.tdiv 2)).tmod 2 == 1)]) (by simp [results, Try.results45, go_sem]) rfl ⟨?_, (Below.refl _ _).alloc (Nat.le_refl _) _⟩
  have h0 := H.out.1
  have h1 := H.out.2
  have e2 : IntKind.u64.wrap (n.tdiv 2) = n / 2 := by
    rw [wrapU, Int.tdiv_eq_ediv_of_nonneg h0]
    exact Int.emod_eq_of_lt (by omega) (by omega)
  rw [version_eq n H.out, e2, Int.tmod_eq_emod_of_nonneg h0, Int.tmod_eq_emod_of_nonneg (show 0 ≤ n / 2 by omega)]

end Go.Proofs.Ythhmbmeajgjhcaa
