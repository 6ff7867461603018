/- PurseFits, over its opened arguments. -/
import Derived.Test.YtpnddccanelcnaaOpenD
import Derived.Test.YtpnddccanelcnaaFitsW
namespace Go.Proofs.Ytpnddccanelcnaa
open Go.RowKit
theorem fits_walkL (q : Lm) (ao : Option Addr) (len cap : Nat) (kk bb : Int) (w : World) (hq : q.Ok) (hd : IsDeeds w ao len) (hk : (Lit.int .u64 kk).wf = true) (hb : (Lit.int .u64 bb).wf = true) :
    Calls Try.prog 7 #[q.v, .slice ao len cap, .int .u64 kk, .int .u64 bb] w fun e w' => e = .returned (.bool true) ∧ Below w.heap.size w w' := purseFits_walk q.k q.b kk bb ao len cap w hq.1 hq.2 hd (u_wf hk) (u_wf hb)
end Go.Proofs.Ytpnddccanelcnaa
