/- The walk of PathShares, at every list. -/
import Derived.Test.YthfbkmpljobagaaShares
namespace Go.Proofs.Ythfbkmpljobagaa
open Go.RowKit
set_option maxRecDepth 100000
set_option maxHeartbeats 400000

theorem shares_out (ao : Option Addr) (len cap : Nat) (turn : Int) (w : World) (hl : len ≤ 9223372036854775807) (h : len = 0 ∨ 60 < len) :
    Calls Try.prog 7 #[.slice ao len cap, .int .i64 turn] w fun e w' => e = .returned (.bool true) ∧ Below w.heap.size w w' := by
  rcases h with rfl | h
  · go_enter Try.func7, Try.ntmps7
    go_wp2_with fail
    refine (awake_any _).mono ?_
    rintro e w1 ⟨rfl, hb1⟩
    go_wp2_with fail
    go_ret
    exact ⟨rfl, hb1⟩
  · have d0 : ((len : Int) == 0) = false := by simp; omega
    have d1 : decide ((60 : Int) < (len : Int)) = true := by simp; omega
    go_enter Try.func7, Try.ntmps7
    go_wp2_with fail
    refine (awake_any _).mono ?_
    rintro e w1 ⟨rfl, hb1⟩
    go_wp2_with fail
    go_ret
    exact ⟨rfl, hb1⟩

theorem pathShares_walk (ao : Option Addr) (len cap : Nat) (zs : List ByteArray) (turn : Int) (w : World) (h : IsStrs w ao len cap zs) (hn : (Lit.int .i64 turn).wf = true) :
    Calls Try.prog 7 #[.slice ao len cap, .int .i64 turn] w fun e w' => e = .returned (.bool true) ∧ Below w.heap.size w w' := by
  have hx : -9223372036854775808 ≤ turn ∧ turn ≤ 9223372036854775807 := by
    simpa [Lit.wf, IntKind.min, IntKind.max, IntKind.signed, IntKind.bits] using hn
  have hc := h.cap
  have hl := h.length
  by_cases hin : len = 0 ∨ 60 < len
  · exact shares_out ao len cap turn w (by unfold maxLen at hc; omega) hin
  · cases zs with
    | nil => simp at hl; omega
    | cons a r =>
      obtain rfl : len = r.length + 1 := by simpa using hl.symm
      obtain ⟨b, off, rfl, hb, hcell⟩ := h.at (by omega)
      exact shares_main a r b off cap turn w hb hc.1 hc.2 (by omega) h.small hx hcell

end Go.Proofs.Ythfbkmpljobagaa
