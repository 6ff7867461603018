/- Blocks of cells lie as they lay when nothing but another object turns. -/
import Derived.Test.YtbbadkgmnfjfaaaKit
import Derived.RangeFuncNested
import Derived.Shelf.Abstract
namespace Go.Proofs.Ytbbadkgmnfjfaaa
open Go.RowKit

theorem Fresh.kept {W W' : World} {row : Option Nat} {q : Nat} {cs : Array Value} {t : TypeId} (h : Fresh W q cs t) (hg : W.grownBy W' row) (hr : ∀ r, row = some r → ∃ o : Obj, W.heap[r]? = some o ∧ o.isCells = false) : Fresh W' q cs t := by
  refine (hg.block q h.lt ?_).trans h
  intro e
  obtain ⟨o, ho, hc⟩ := hr q e.symm
  rw [show W.heap[q]? = _ from h] at ho
  cases ho
  cases hc
theorem Turned.kept {S : List Nat} {W0 W W' : World} {row : Option Nat} (h : Turned S W0 W) (hg : W.grownBy W' row) (hr : ∀ r, row = some r → W0.heap.size ≤ r) : Turned S W0 W' :=
  ⟨hg.os.trans h.os, hg.tape.trans h.tape, hg.output.trans h.output, Nat.le_trans h.size hg.size, fun k hk hn => (hg.block k (Nat.lt_of_lt_of_le hk h.size) (by rintro e; have := hr k e.symm; omega)).trans (h.block k hk hn)⟩
end Go.Proofs.Ytbbadkgmnfjfaaa
