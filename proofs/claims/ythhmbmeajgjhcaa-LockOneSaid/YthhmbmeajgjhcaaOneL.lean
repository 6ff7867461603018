/- LockOne, over its opened arguments. -/
import Derived.Test.YthhmbmeajgjhcaaOpenD
import Derived.Test.YthhmbmeajgjhcaaOneW
namespace Go.Proofs.Ythhmbmeajgjhcaa
open Go.RowKit
theorem one_walk (ao : Option Addr) (len cap : Nat) (rd : Int) (w : World) (hd : IsDeeds w ao len) (hrd : (Lit.int .u64 rd).wf = true) :
    Calls Try.prog 5 #[.slice ao len cap, .int .u64 rd] w fun e w' => e = .returned (.bool true) ∧ Below w.heap.size w w' := lockOne_walk ao len cap rd w hd (u_wf hrd)
end Go.Proofs.Ythhmbmeajgjhcaa
