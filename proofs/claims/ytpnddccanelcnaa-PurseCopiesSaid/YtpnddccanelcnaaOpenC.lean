/- PurseCopies, over its opened arguments. -/
import Derived.Test.YtpnddccanelcnaaOpenD
import Derived.Test.YtpnddccanelcnaaCopies
namespace Go.Proofs.Ytpnddccanelcnaa
open Go.RowKit
theorem copies_walkL (q : Lm) (ao : Option Addr) (len cap : Nat) (aa : Option Addr) (la ca : Nat) (ab : Option Addr) (lb cb : Nat) (w : World) (hq : q.Ok) (hd : IsDeeds w ao len) (hda : IsDeeds w aa la) (hdb : IsDeeds w ab lb) :
    Calls Try.prog 4 #[q.v, .slice ao len cap, .slice aa la ca, .slice ab lb cb] w fun e w' => e = .returned (.bool true) ∧ Below w.heap.size w w' := purseCopies_walk q.k q.b ao aa ab len la lb cap ca cb w hq.1 hq.2 hd hda hdb
end Go.Proofs.Ytpnddccanelcnaa
