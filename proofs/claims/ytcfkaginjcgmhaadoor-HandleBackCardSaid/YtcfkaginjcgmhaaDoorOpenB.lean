/- What HandleBack's frame asks for. -/
import Derived.Test.YtcfkaginjcgmhaaDoorOpen
import Derived.Test.YtcfkaginjcgmhaaDoorBackW
namespace Go.Proofs.YtcfkaginjcgmhaaDoor
open Go.ChangeShapes Go.WideShapes Go.RowKit
theorem all_of_back {W : World} (h : laidMetH Tryd.prog Rows.handleBackRow.laid W) : Tab W ∧ Errs W := five h
theorem back_walk (a b : Hnd) (s : ByteArray) (w : World) (ha : a.Ok) (hb : b.Ok) (_ : s.size ≤ maxLen) (hw : Tab w ∧ Errs w) :
    Calls Tryd.prog 6 #[a.v, b.v, .string s] w fun e w' => e = .returned (.bool true) ∧ Below w.heap.size w w' :=
  handleBack_walk a.t a.g a.r b.t b.g b.r s w ha.1 hb.1 ha.2 hb.2 hw
end Go.Proofs.YtcfkaginjcgmhaaDoor
