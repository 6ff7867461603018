/- PurseOnce, over its opened arguments. -/
import Derived.Test.YtpnddccanelcnaaOpenD
import Derived.Test.YtpnddccanelcnaaOnceW
namespace Go.Proofs.Ytpnddccanelcnaa
open Go.RowKit
theorem once_walkL (q : Lm) (ao : Option Addr) (len cap : Nat) (kp : Bool) (o : Int) (w : World) (hq : q.Ok) (hd : IsDeeds w ao len) {P : Prop} (_ : P) :
    Calls Try.prog 8 #[q.v, .slice ao len cap, .bool kp, .int .i64 o] w fun e w' => e = .returned (.bool true) ∧ Below w.heap.size w w' := purseOnce_walk q.k q.b kp o ao len cap w hq.1 hq.2 hd
end Go.Proofs.Ytpnddccanelcnaa
