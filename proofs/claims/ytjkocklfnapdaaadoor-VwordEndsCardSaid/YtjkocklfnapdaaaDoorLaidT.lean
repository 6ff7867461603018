/- What the rows' lists of variables give the walks: the table of powers of ten, and the two errors. -/
import Derived.Test.YtjkocklfnapdaaaDoorLaid
import Derived.Test.YtjkocklfnapdaaaDoorReads
import Derived.Stop.LaidErr
namespace Go.Proofs.YtjkocklfnapdaaaDoor
open Go.RowKit

theorem star : "*" ++ "errors.errorString" = "*errors.errorString" := by decide
theorem esRow (u : TypeId) (h : Tryd.prog.typeName? 3 u = some "*errors.errorString") : u = 84 :=
  typeName_ptr_named (nm := "errors.errorString") (by rw [star]; kernel_rfl) (by kernel_rfl) (by decide) u (by rw [star]; exact h)

theorem range_of_head {W : World} {rest : List (String × DataW Unit)} (h : laidMet Tryd.prog (("strconv.ErrRange", Rows.laid_strconv_ErrRange) :: rest) W) : ∃ tp p, W.var? Tryd.prog "strconv.ErrRange" = some #[.iface tp p] := by
  obtain ⟨a0, s0, hv0, -, -, -⟩ := laid_sentinel (g := 1) h (by kernel_rfl) (by kernel_rfl) Tryd.underlying54 esRow Tryd.underlying84 Tryd.underlying86 rfl rfl Tryd.underlying9 (by kernel_rfl) (by kernel_rfl)
  exact ⟨_, _, hv0⟩

theorem syntax_of_head {W : World} {rest : List (String × DataW Unit)} (h : laidMet Tryd.prog (("strconv.ErrSyntax", Rows.laid_strconv_ErrSyntax) :: rest) W) : ∃ tp p, W.var? Tryd.prog "strconv.ErrSyntax" = some #[.iface tp p] := by
  obtain ⟨a0, s0, hv0, -, -, -⟩ := laid_sentinel (g := 0) h (by kernel_rfl) (by kernel_rfl) Tryd.underlying54 esRow Tryd.underlying84 Tryd.underlying86 rfl rfl Tryd.underlying9 (by kernel_rfl) (by kernel_rfl)
  exact ⟨_, _, hv0⟩

theorem all_of_five {W : World} (h : laidMetH Tryd.prog Rows.vwordReadsRow.laid W) : Tab W ∧ Errs W :=
  ⟨pow_of_head (laid_tail (laid_tail h)), syntax_of_head (laid_tail (laid_tail (laid_tail (laid_tail h)))), range_of_head (laid_tail (laid_tail (laid_tail h)))⟩

end Go.Proofs.YtjkocklfnapdaaaDoor
