/- What HandleApart's frame asks for. -/
import Derived.Test.YtcfkaginjcgmhaaDoorOpen
import Derived.Test.YtcfkaginjcgmhaaDoorApart
namespace Go.Proofs.YtcfkaginjcgmhaaDoor
open Go.ChangeShapes Go.WideShapes Go.RowKit
theorem all_of_apart {W : World} (h : laidMetH Tryd.prog Rows.handleApartRow.laid W) : Tab W ∧ Errs W := five h
theorem apart_walk (t g r b d : Int) (w : World) (_ : (Lit.int .i64 t).wf = true) (_ : (Lit.int .u32 g).wf = true) (h : (Lit.int .u8 r).wf = true) (_ : (Lit.int .i64 b).wf = true) (_ : (Lit.int .i64 d).wf = true) (hw : Tab w ∧ Errs w) :
    Calls Tryd.prog 8 #[.int .i64 t, .int .u32 g, .int .u8 r, .int .i64 b, .int .i64 d] w fun e w' => e = .returned (.bool true) ∧ Below w.heap.size w w' := by
  have h2 : 0 ≤ r ∧ r ≤ 255 := by simpa [Lit.wf, IntKind.min, IntKind.max, IntKind.bits, IntKind.signed] using h
  obtain ⟨k, rfl⟩ : ∃ k : Nat, r = k := ⟨r.toNat, by omega⟩
  exact handleApart_walk t g k b d w (by omega) hw
end Go.Proofs.YtcfkaginjcgmhaaDoor
