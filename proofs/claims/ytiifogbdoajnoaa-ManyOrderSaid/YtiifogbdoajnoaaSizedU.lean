/- The length of a slice of bytes that is read takes no more than the reach. -/
import Derived.Test.YtiifogbdoajnoaaOrderM3
import Derived.SizedLaws
import Derived.OpenShut
namespace Go.Proofs.Ytiifogbdoajnoaa
open Go.ChangeShapes
theorem sized_len {H : Type} {P : Program} {ts : List TypeId} {ds : List (DataW H)} (h : (DataW.weightsEach P ts ds).all (· ≤ reachBytes) = true) {j : Nat} {t e : TypeId} {A B : List Int} {len : Nat}
    (ht : ts[j]? = some t) (hd : ds[j]? = some (.slice (lits .u8 A) (lits .u8 B))) (hu : P.underlying t = some (.slice e)) (hb : P.bytesOf e = 1) (hl : A.length = len) : len ≤ 140737488351232 := by
  have := sized_slice h ht hd hu
  rw [hb] at this
  simp only [lits, List.length_map, reachBytes] at this
  omega
theorem take_leni {len cap : Nat} {zs : List Int} (hz : zs.length = cap) (hl : len ≤ cap) : (zs.take len).length = len := by rw [List.length_take]; omega
end Go.Proofs.Ytiifogbdoajnoaa
