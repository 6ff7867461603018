/- What NodeGrows' frame asks for. -/
import Derived.Test.YtjaijomkdgoenaaDoorNdGrow
namespace Go.Proofs.YtjaijomkdgoenaaDoor.Nd
open Go.RowKit
theorem nodeGrows_walk (ao : Option Addr) (len cap : Nat) (keep : Bool) (W : World) (h : ∃ l, l.length = len ∧ BR W l (.slice ao len cap)) (hL : Rm W) :
    Calls Tryd.prog 4 #[.slice ao len cap, .bool keep] W fun e w' => e = .returned (.bool true) ∧ Below W.heap.size W w' := by
  obtain ⟨l, rfl, hb⟩ := h
  exact grows_any W l ao cap keep hL hb
end Go.Proofs.YtjaijomkdgoenaaDoor.Nd
