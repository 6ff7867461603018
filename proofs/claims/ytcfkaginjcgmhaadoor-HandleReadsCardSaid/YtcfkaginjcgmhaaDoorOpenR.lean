/- What HandleReads' frame asks for. -/
import Derived.Test.YtcfkaginjcgmhaaDoorOpen
import Derived.Test.YtcfkaginjcgmhaaDoorReads
namespace Go.Proofs.YtcfkaginjcgmhaaDoor
open Go.ChangeShapes Go.WideShapes Go.RowKit
theorem all_of_reads {W : World} (h : laidMetH Tryd.prog Rows.handleReadsRow.laid W) : Tab W ∧ Errs W := five h
theorem reads_walk (s : ByteArray) (w : World) (_ : s.size ≤ maxLen) (hw : Tab w ∧ Errs w) :
    Calls Tryd.prog 4 #[.string s] w fun e w' => e = .returned (.bool true) ∧ Below w.heap.size w w' := handleReads_walk s w hw
end Go.Proofs.YtcfkaginjcgmhaaDoor
