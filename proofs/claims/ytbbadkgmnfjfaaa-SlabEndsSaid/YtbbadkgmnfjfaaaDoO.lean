/- Free, Set, Get, Take: the same on the slab and on its reference. -/
import Derived.Test.YtbbadkgmnfjfaaaDoT
import Derived.Test.YtbbadkgmnfjfaaaTaken
import Derived.Test.YtbbadkgmnfjfaaaInv
namespace Go.Proofs.Ytbbadkgmnfjfaaa
open Go.RowKit

theorem Fresh.apart {W : World} {p q : Nat} {cs ds : Array Value} {t t' : TypeId} (h : Fresh W p cs t) (k : Fresh W q ds t') (hne : t ≠ t') : p ≠ q := by
  rintro rfl
  unfold Fresh at h k
  rw [h] at k
  injection k with k
  injection k with _ k _
  exact hne k
theorem Si.At.turned {S : List Nat} {W W' : World} {p a g : Nat} {s : Sb} (h : Si.At W p a g s) (ht : Turned S W W') (hp : p ∉ S) (ha : a ∉ S) (hg : g ∉ S) : Si.At W' p a g s := ⟨ht.other h.hp hp, ht.other h.ha ha, ht.other h.hg hg⟩
theorem RAt.turned {S : List Nat} {W W' : World} {r gr : Nat} {l : List Ce} (h : RAt W r gr l) (ht : Turned S W W') (hr : r ∉ S) (hg : gr ∉ S) : RAt W' r gr l := ⟨ht.other h.hr hr, ht.other h.hg hg⟩
/-- The reference's blocks are not the slab's. -/
theorem Si.At.notRef {W : World} {p a g r gr : Nat} {s : Sb} {l : List Ce} (h : Si.At W p a g s) (k : RAt W r gr l) : (p ∉ [gr] ∧ a ∉ [gr] ∧ g ∉ [gr]) ∧ (r ∉ [a, g] ∧ gr ∉ [a, g]) := by
  have h1 := h.hp.apart k.hg (by decide)
  have h2 := h.ha.apart k.hg (by decide)
  have h3 := h.hg.apart k.hg (by decide)
  have h4 := h.ha.apart k.hr (by decide)
  have h5 := h.hg.apart k.hr (by decide)
  simp only [List.mem_cons, List.not_mem_nil, or_false, not_or]
  exact ⟨⟨h1, h2, h3⟩, ⟨h4.symm, h5.symm⟩, h2.symm, h3.symm⟩
/-- Behind an operation on the slab the reference lies as it lay. -/
theorem RAt.beside {W W' : World} {p a g r gr : Nat} {s : Sb} {l : List Ce} (k : RAt W r gr l) (h : Si.At W p a g s) (ht : Turned [a, g] W W') : RAt W' r gr l := k.turned ht (h.notRef k).2.1 (h.notRef k).2.2
/-- Behind an operation on the reference the slab lies as it lay. -/
theorem Si.At.beside {W W' : World} {p a g r gr : Nat} {s : Sb} {l : List Ce} (h : Si.At W p a g s) (k : RAt W r gr l) (ht : Turned [gr] W W') : Si.At W' p a g s := h.turned ht (h.notRef k).1.1 (h.notRef k).1.2.1 (h.notRef k).1.2.2
end Go.Proofs.Ytbbadkgmnfjfaaa
