/- Blocks of a call's own. -/
import Derived.Test.YtfffifmpfkkgbaaKit
import Derived.RangeFuncNested
import Derived.Shelf.Abstract
namespace Go.Proofs.Ytfffifmpfkkgbaa
open Go.RowKit

def Fresh (W : World) (p : Nat) (cs : Array Value) (t : TypeId) : Prop := W.heap[p]? = some (.cells cs t (0, 0))
theorem Fresh.new (W : World) (p : Nat) (cs : Array Value) (t : TypeId) (hp : W.heap.size = p) : Fresh (W.alloc (.cells cs t)) p cs t := by subst hp; exact heap_alloc_new W _
theorem Fresh.lt {W : World} {p : Nat} {cs : Array Value} {t : TypeId} (h : Fresh W p cs t) : p < W.heap.size := (Array.getElem?_eq_some_iff.1 h).1
theorem Fresh.below {W W' : World} {p : Nat} {cs : Array Value} {t : TypeId} (h : Fresh W p cs t) (hb : Below W.heap.size W W') : Fresh W' p cs t := (hb.block p h.lt).trans h
theorem Fresh.alloc {W : World} {p : Nat} {cs : Array Value} {t : TypeId} (h : Fresh W p cs t) (o : Obj) : Fresh (W.alloc o) p cs t := h.below ((Below.refl _ _).alloc (Nat.le_refl _) o)
theorem Fresh.cell {W : World} {p : Nat} {cs : Array Value} {t : TypeId} (h : Fresh W p cs t) (i : Nat) : W.cell? ⟨p, i, none⟩ = cs[i]? := by simp [World.cell?, show W.heap[p]? = _ from h]
theorem Fresh.thawed {W : World} {p : Nat} {cs : Array Value} {t : TypeId} (h : Fresh W p cs t) (i : Nat) : W.frozen? ⟨p, i, none⟩ = false := by simp [World.frozen?, show W.heap[p]? = _ from h]
theorem Fresh.set {W : World} {p : Nat} {cs : Array Value} {t : TypeId} (h : Fresh W p cs t) (i : Nat) (v : Value) : Fresh (W.setCell ⟨p, i, none⟩ v) p (cs.setIfInBounds i v) t := by
  unfold Fresh at *
  simp only [World.setCell, Array.getElem?_modify, h, Option.map_some, if_pos]
  rfl
theorem Fresh.drew {W : World} {p : Nat} {cs : Array Value} {t : TypeId} (h : Fresh W p cs t) : Fresh W.drew p cs t := h

/-- Nothing but some blocks has turned. -/
structure Turned (S : List Nat) (W W' : World) : Prop where
  os : W'.os = W.os
  tape : W'.tape = W.tape
  output : W'.output = W.output
  size : W.heap.size ≤ W'.heap.size
  block : ∀ k, k < W.heap.size → k ∉ S → W'.heap[k]? = W.heap[k]?
theorem Turned.refl (S : List Nat) (W : World) : Turned S W W := ⟨rfl, rfl, rfl, Nat.le_refl _, fun _ _ _ => rfl⟩
theorem Turned.trans {S : List Nat} {W W' W'' : World} (h : Turned S W W') (k : Turned S W' W'') : Turned S W W'' :=
  ⟨k.os.trans h.os, k.tape.trans h.tape, k.output.trans h.output, Nat.le_trans h.size k.size, fun j hj hn => (k.block j (Nat.lt_of_lt_of_le hj h.size) hn).trans (h.block j hj hn)⟩
theorem Turned.of_below {S : List Nat} {W W' : World} (h : Below W.heap.size W W') : Turned S W W' := ⟨h.os, h.tape, h.output, h.size, fun k hk _ => h.block k hk⟩
theorem Turned.below {S : List Nat} {n : Nat} {w W W' : World} (hb : Below n w W) (h : Turned S W W') (hS : ∀ k ∈ S, n ≤ k) (hn : n ≤ W.heap.size) : Below n w W' :=
  ⟨h.os.trans hb.os, h.tape.trans hb.tape, h.output.trans hb.output, Nat.le_trans hb.size h.size, fun k hk => (h.block k (by omega) (fun e => by have := hS k e; omega)).trans (hb.block k hk)⟩
theorem Turned.alloc {S : List Nat} {W W' : World} (h : Turned S W W') (o : Obj) : Turned S W (W'.alloc o) :=
  h.trans (.of_below ((Below.refl _ _).alloc (Nat.le_refl _) o))
theorem Turned.drew {S : List Nat} {W W' : World} (h : Turned S W W') : Turned S W W'.drew := ⟨h.os, h.tape, h.output, h.size, h.block⟩
theorem Turned.setCell {S : List Nat} {W W' : World} (h : Turned S W W') {p : Nat} (hp : p ∈ S ∨ W.heap.size ≤ p) (i : Nat) (v : Value) : Turned S W (W'.setCell ⟨p, i, none⟩ v) := by
  refine ⟨h.os, h.tape, h.output, by simp [World.setCell]; exact h.size, fun k hk hn => ?_⟩
  rw [Below.heap_setCell W' ⟨p, i, none⟩ v k (by rintro rfl; rcases hp with h1 | h1; exact hn h1; omega)]
  exact h.block k hk hn
theorem Turned.other {S : List Nat} {W W' : World} (h : Turned S W W') {p : Nat} {cs : Array Value} {t : TypeId} (hf : Fresh W p cs t) (hn : p ∉ S) : Fresh W' p cs t := (h.block p hf.lt hn).trans hf
theorem Fresh.other {W : World} {p q : Nat} {cs : Array Value} {t : TypeId} (h : Fresh W p cs t) (hn : p ≠ q) (i : Nat) (v : Value) : Fresh (W.setCell ⟨q, i, none⟩ v) p cs t :=
  (Below.heap_setCell W ⟨q, i, none⟩ v p hn).trans h


theorem Fresh.kept {W W' : World} {row : Option Nat} {q : Nat} {cs : Array Value} {t : TypeId} (h : Fresh W q cs t) (hg : W.grownBy W' row) (hr : ∀ r, row = some r → ∃ o : Obj, W.heap[r]? = some o ∧ o.isCells = false) : Fresh W' q cs t := by
  refine (hg.block q h.lt ?_).trans h
  intro e
  obtain ⟨o, ho, hc⟩ := hr q e.symm
  rw [show W.heap[q]? = _ from h] at ho
  cases ho
  cases hc
theorem Turned.kept {S : List Nat} {W0 W W' : World} {row : Option Nat} (h : Turned S W0 W) (hg : W.grownBy W' row) (hr : ∀ r, row = some r → W0.heap.size ≤ r) : Turned S W0 W' :=
  ⟨hg.os.trans h.os, hg.tape.trans h.tape, hg.output.trans h.output, Nat.le_trans h.size hg.size, fun k hk hn => (hg.block k (Nat.lt_of_lt_of_le hk h.size) (by rintro e; have := hr k e.symm; omega)).trans (h.block k hk hn)⟩
theorem Turned.put {S : List Nat} {W : World} {k : Nat} (hk : k ∈ S) (o : Obj) : Turned S W (W.putObj k o) :=
  ⟨rfl, rfl, rfl, by simp, fun j _ hn => World.putObj_heap_other (fun e => hn (e ▸ hk))⟩
theorem Turned.wide {S S' : List Nat} {W W' : World} (h : Turned S W W') (hs : ∀ k ∈ S, k ∈ S') : Turned S' W W' :=
  ⟨h.os, h.tape, h.output, h.size, fun k hk hn => h.block k hk (fun e => hn (hs k e))⟩
theorem KeepsFrom.of_turned {S : List Nat} {W W' : World} {B : Nat} (h : Turned S W W') (hs : ∀ k ∈ S, k < B) : KeepsFrom B W W' :=
  ⟨h.size, fun k o hB ho _ => (h.block k (Array.getElem?_eq_some_iff.1 ho).1 (fun e => by have := hs k e; omega)).trans ho⟩
end Go.Proofs.Ytfffifmpfkkgbaa
