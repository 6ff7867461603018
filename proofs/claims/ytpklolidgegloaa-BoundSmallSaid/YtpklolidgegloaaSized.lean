/- Each string of a slice of strings that is read takes no more than the reach. -/
import Derived.Test.YtpklolidgegloaaMark
import Derived.SliceStrings
import Derived.SizedLaws
namespace Go.Proofs.Ytpklolidgegloaa
open Go.ChangeShapes

theorem weights_strs {H : Type} {P : Program} {e : TypeId} : ∀ {l : List ByteArray} {s : ByteArray}, s ∈ l → s.size ∈ DataW.weightsAll (H := H) P e (strs l)
  | x :: l, s, h => by
    simp only [strs, List.map_cons, DataW.weightsAll, List.mem_append]
    rcases List.mem_cons.1 h with rfl | h
    · left; simp [DataW.weights]
    · right; exact weights_strs h
theorem sized_strs {H : Type} {P : Program} {ts : List TypeId} {ds : List (DataW H)} (h : (DataW.weightsEach P ts ds).all (· ≤ reachBytes) = true) {j : Nat} {t e : TypeId} {A B : List ByteArray}
    (ht : ts[j]? = some t) (hd : ds[j]? = some (.slice (strs A) (strs B))) (hu : P.underlying t = some (.slice e)) : ∀ s ∈ A, s.size ≤ 140737488351232 := by
  intro s hs
  have := List.all_eq_true.1 h _ (DataW.weights_mem_each ht hd s.size (by simp [DataW.weights, hu, weights_strs hs]))
  exact of_decide_eq_true this

theorem sized_len {H : Type} {P : Program} {ts : List TypeId} {ds : List (DataW H)} (h : (DataW.weightsEach P ts ds).all (· ≤ reachBytes) = true) {j : Nat} {t e : TypeId} {A B : List ByteArray} {len : Nat}
    (ht : ts[j]? = some t) (hd : ds[j]? = some (.slice (strs A) (strs B))) (hu : P.underlying t = some (.slice e)) (hb : P.bytesOf e = 16) (hl : A.length = len) : len ≤ 140737488351232 := by
  have := sized_slice h ht hd hu
  rw [hb] at this
  simp only [strs, List.length_map, reachBytes] at this
  omega
theorem take_len {len cap : Nat} {zs : List ByteArray} (hz : zs.length = cap) (hl : len ≤ cap) : (zs.take len).length = len := by rw [List.length_take]; omega

end Go.Proofs.Ytpklolidgegloaa
