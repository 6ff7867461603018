/- What HandleSmall's frame asks for. -/
import Derived.Test.YtcfkaginjcgmhaaDoorOpen
import Derived.Test.YtcfkaginjcgmhaaDoorSmall
namespace Go.Proofs.YtcfkaginjcgmhaaDoor
open Go.ChangeShapes Go.WideShapes Go.RowKit
theorem all_of_small {W : World} (h : laidMetH Tryd.prog Rows.handleSmallRow.laid W) : Tab W ∧ Errs W := five h
end Go.Proofs.YtcfkaginjcgmhaaDoor
