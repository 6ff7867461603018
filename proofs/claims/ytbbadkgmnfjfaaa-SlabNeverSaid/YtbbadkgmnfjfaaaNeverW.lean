/- SlabNever, over its opened arguments. -/
import Derived.Test.YtbbadkgmnfjfaaaOpenD
import Derived.Test.YtbbadkgmnfjfaaaNever
namespace Go.Proofs.Ytbbadkgmnfjfaaa
open Go.RowKit
theorem slabNever_walk (slots : Int) (ao : Option Addr) (len cap : Nat) (w : World) (h0 : (Lit.int .i64 slots).wf = true) (hd : IsDeeds w ao len) :
    Calls Try.prog 5 #[.int .i64 slots, .slice ao len cap] w fun e w' => e = .returned (.bool true) ∧ Below w.heap.size w w' := never_walk slots ao len cap w (i64_wf h0) hd
end Go.Proofs.Ytbbadkgmnfjfaaa
