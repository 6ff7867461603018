/- LockApart, over its opened arguments. -/
import Derived.Test.YthhmbmeajgjhcaaOpenD
import Derived.Test.YthhmbmeajgjhcaaApartW
namespace Go.Proofs.Ythhmbmeajgjhcaa
open Go.RowKit
theorem apart_walk (ao : Option Addr) (len cap : Nat) (q : Int × Int) (w : World) (hd : IsDeeds w ao len) (hr : RefOk q.1 q.2) :
    Calls Try.prog 6 #[.slice ao len cap, refV q.1 q.2] w fun e w' => e = .returned (.bool true) ∧ Below w.heap.size w w' := lockApart_walk ao len cap q.1 q.2 w hd hr
end Go.Proofs.Ythhmbmeajgjhcaa
