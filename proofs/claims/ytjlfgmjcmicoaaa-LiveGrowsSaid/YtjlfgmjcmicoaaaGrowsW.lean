/- The law LiveGrows: for any request, numbers and second request the call returns true. -/
import Derived.Test.YtjlfgmjcmicoaaaGrows6
import Derived.Test.YtjlfgmjcmicoaaaGrowsNo
namespace Go.Proofs.Ytjlfgmjcmicoaaa
open Go.RowKit

theorem liveGrows_walk (r : Req) (a b : Int) (o : Req) (w : World) (h : r.Ok) (ha : (Lit.int .u32 a).wf = true) (hb : (Lit.int .u32 b).wf = true) (ho : o.Ok) :
    Calls Try.prog 6 #[reqV r, .int .u32 a, .int .u32 b, reqV o] w fun e w' => e = .returned (.bool true) ∧ Below w.heap.size w w' := by
  have h1 : 0 ≤ a ∧ a ≤ 4294967295 := by simpa [Lit.wf, IntKind.min, IntKind.max, IntKind.bits, IntKind.signed] using ha
  have h2 : 0 ≤ b ∧ b ≤ 4294967295 := by simpa [Lit.wf, IntKind.min, IntKind.max, IntKind.bits, IntKind.signed] using hb
  cases hi : isB r
  · exact grows_no r a b o w h hi h1 h2
  · exact grows_yes r a b o w h ho.lim hi h1 h2

end Go.Proofs.Ytjlfgmjcmicoaaa
