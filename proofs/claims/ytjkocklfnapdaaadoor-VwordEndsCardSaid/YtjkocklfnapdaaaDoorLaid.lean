/- What the rows' lists of variables give the walks: the table of powers of ten. -/
import Derived.Test.YtjkocklfnapdaaaDoorRows
import Derived.Test.YtjkocklfnapdaaaDoorOnce
import Derived.Lib.LaidTab
namespace Go.Proofs.YtjkocklfnapdaaaDoor
open Go.RowKit

theorem laid_tail {P : Program} {x : String × DataW Unit} {l : List (String × DataW Unit)} {w : World} (h : laidMet P (x :: l) w) : laidMet P l w := by
  obtain ⟨ps, hl, hn, hc⟩ := h
  obtain ⟨g, t, cs, fuel, p, q, h1, h2, h3, h4, h5, rfl⟩ := hl
  exact ⟨q, h5, (List.nodup_append.1 hn).2.1, fun b off hm => hc b off (List.mem_append.2 (.inr hm))⟩

theorem pow_of_head {W : World} {rest : List (String × DataW Unit)} (h : laidMet Tryd.prog (("internal/strconv.uint64pow10", Rows.laid_internal_strconv_uint64pow10) :: rest) W) : Tab W :=
  Lib.tabIs_of_head (g := 2) (t := 78) (e := 22) (n := 20) (by kernel_rfl) (by kernel_rfl) Tryd.underlying78 Tryd.underlying22 (by kernel_rfl) (by kernel_rfl) h

theorem tab_of_three {W : World} (h : laidMetH Tryd.prog Rows.vwordOnceRow.laid W) : Tab W := pow_of_head (laid_tail (laid_tail h))

end Go.Proofs.YtjkocklfnapdaaaDoor
