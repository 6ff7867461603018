/- PurseTells, over its opened arguments. -/
import Derived.Test.YtpnddccanelcnaaTells
namespace Go.Proofs.Ytpnddccanelcnaa
open Go.RowKit
theorem tells_walkL (q : Lm) (ao : Option Addr) (len cap : Nat) (w : World) (hq : q.Ok) (hd : IsDeeds w ao len) :
    Calls Try.prog 3 #[q.v, .slice ao len cap] w fun e w' => e = .returned (.bool true) ∧ Below w.heap.size w w' := purseTells_walk q.k q.b ao len cap w hq.1 hq.2 hd
end Go.Proofs.Ytpnddccanelcnaa
