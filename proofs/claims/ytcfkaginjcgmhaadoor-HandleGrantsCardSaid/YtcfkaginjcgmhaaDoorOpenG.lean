/- What HandleGrants' frame asks for. -/
import Derived.Test.YtcfkaginjcgmhaaDoorOpen
import Derived.Test.YtcfkaginjcgmhaaDoorGrants
namespace Go.Proofs.YtcfkaginjcgmhaaDoor
open Go.ChangeShapes Go.WideShapes Go.RowKit
theorem all_of_grants {W : World} (h : laidMetH Tryd.prog Rows.handleGrantsRow.laid W) : Tab W ∧ Errs W := five h
theorem grants_walk (a b c : Hnd) (d : Int) (w : World) (ha : a.Ok) (hb : b.Ok) (hc : c.Ok) (_ : (Lit.int .i64 d).wf = true) (hw : Tab w ∧ Errs w) :
    Calls Tryd.prog 7 #[a.v, b.v, c.v, .int .i64 d] w fun e w' => e = .returned (.bool true) ∧ Below w.heap.size w w' :=
  handleGrants_walk a.t a.g a.r b.t b.g b.r c.t c.g c.r d w ha.2 hb.2 hc.2 hw
end Go.Proofs.YtcfkaginjcgmhaaDoor
