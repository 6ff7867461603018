/- What a frame must give: nothing but some blocks turned; nothing but those and rows of bytes. -/
import Derived.Test.YtjaijomkdgoenaaDoorMnBytesM
namespace Go.Proofs.YtjaijomkdgoenaaDoor.Mn
open Go.RowKit
set_option maxRecDepth 100000
set_option maxHeartbeats 4000000

/-- A row of bytes. -/
abbrev Rw (t : TypeId) : Prop := t = 5 ∨ t = 29
def IsU8 (o : Option Obj) : Prop := ∃ cs t f, o = some (.cells cs t f) ∧ Rw t
def ObjKeep (o o' : Option Obj) : Prop := o' = o ∨ IsU8 o
theorem ObjKeep.trans {a b c : Option Obj} (h : ObjKeep a b) (k : ObjKeep b c) : ObjKeep a c := by
  rcases h with rfl | h1
  · exact k
  · exact .inr h1
structure KeepT (S : List Nat) (W W' : World) : Prop where
  os : W'.os = W.os
  tape : W'.tape = W.tape
  output : W'.output = W.output
  size : W.heap.size ≤ W'.heap.size
  block : ∀ k, k < W.heap.size → k ∉ S → ObjKeep W.heap[k]? W'.heap[k]?
theorem KeepT.refl (S : List Nat) (W : World) : KeepT S W W := ⟨rfl, rfl, rfl, Nat.le_refl _, fun _ _ _ => .inl rfl⟩
theorem KeepT.trans {S : List Nat} {W W' W'' : World} (h : KeepT S W W') (k : KeepT S W' W'') : KeepT S W W'' :=
  ⟨k.os.trans h.os, k.tape.trans h.tape, k.output.trans h.output, Nat.le_trans h.size k.size, fun j hj hn => (h.block j hj hn).trans (k.block j (Nat.lt_of_lt_of_le hj h.size) hn)⟩
theorem KeepT.of_turned {S : List Nat} {W W' : World} (h : Turned S W W') : KeepT S W W' := ⟨h.os, h.tape, h.output, h.size, fun k hk hn => .inl (h.block k hk hn)⟩
theorem KeepT.of_below {S : List Nat} {W W' : World} (h : Below W.heap.size W W') : KeepT S W W' := .of_turned (.of_below h)
theorem KeepT.drew {S : List Nat} {W W' : World} (h : KeepT S W W') : KeepT S W W'.drew := ⟨h.os, h.tape, h.output, h.size, h.block⟩
theorem KeepT.put {S : List Nat} {W : World} {k : Nat} (hk : k ∈ S) (o : Obj) : KeepT S W (W.putObj k o) := .of_turned (Turned.put hk o)
theorem KeepT.wide {S S' : List Nat} {W W' : World} (h : KeepT S W W') (hs : ∀ k ∈ S, k ∈ S') : KeepT S' W W' :=
  ⟨h.os, h.tape, h.output, h.size, fun k hk hn => h.block k hk (fun e => hn (hs k e))⟩
theorem KeepT.same {S : List Nat} {W W' : World} (h : KeepT S W W') {k : Nat} (hk : k < W.heap.size) (hn : k ∉ S) (h8 : ¬ IsU8 W.heap[k]?) : W'.heap[k]? = W.heap[k]? := by
  rcases h.block k hk hn with e | e
  · exact e
  · exact absurd e h8
theorem KeepT.other {S : List Nat} {W W' : World} (h : KeepT S W W') {p : Nat} {cs : Array Value} {t : TypeId} (hf : Fresh W p cs t) (hn : p ∉ S) (ht : ¬ Rw t) : Fresh W' p cs t :=
  (h.same hf.lt hn (by
    rintro ⟨c, t', f, e, e2⟩
    unfold Fresh at hf
    rw [hf] at e
    cases e
    exact ht e2)).trans hf
theorem KeepsFrom.of_keepT {S : List Nat} {W W' : World} {B : Nat} (h : KeepT S W W') (hs : ∀ k ∈ S, k < B) : KeepsFrom B W W' :=
  ⟨h.size, fun k o hB ho hc => (h.same (Array.getElem?_eq_some_iff.1 ho).1 (fun e => by have := hs k e; omega) (by
    rintro ⟨c, t', f, e, e2⟩
    rw [ho] at e
    cases e
    cases hc)).trans ho⟩
theorem fresh_not8 {W : World} {p : Nat} {cs : Array Value} {t : TypeId} (hf : Fresh W p cs t) (ht : ¬ Rw t) : ¬ IsU8 W.heap[p]? := by
  rintro ⟨c, t', f, e, e2⟩
  unfold Fresh at hf
  rw [hf] at e
  cases e
  exact ht e2
structure KLaw (Kp : List Nat → World → World → Prop) : Prop where
  refl : ∀ S A, Kp S A A
  trans : ∀ {S A B C}, Kp S A B → Kp S B C → Kp S A C
  wide : ∀ {S S' A B}, Kp S A B → (∀ k ∈ S, k ∈ S') → Kp S' A B
  put : ∀ {S : List Nat} {W : World} {k : Nat}, k ∈ S → ∀ o : Obj, Kp S W (W.putObj k o)
  turned : ∀ {S A B}, Turned S A B → Kp S A B
  keeps : ∀ {S A B} {C : Nat}, Kp S A B → (∀ k ∈ S, k < C) → KeepsFrom C A B
  other : ∀ {S A B} {p : Nat} {cs : Array Value} {t : TypeId}, Kp S A B → Fresh A p cs t → p ∉ S → ¬ Rw t → Fresh B p cs t
  size : ∀ {S} {A B : World}, Kp S A B → A.heap.size ≤ B.heap.size
theorem kTurned : KLaw Turned :=
  ⟨Turned.refl, fun h k => h.trans k, fun h k => h.wide k, fun h o => Turned.put h o, fun h => h, fun h k => KeepsFrom.of_turned h k, fun h f n _ => h.other f n, fun h => h.size⟩
theorem kKeepT : KLaw KeepT :=
  ⟨KeepT.refl, fun h k => h.trans k, fun h k => h.wide k, fun h o => KeepT.put h o, fun h => KeepT.of_turned h, fun h k => KeepsFrom.of_keepT h k, fun h f n t => h.other f n t, fun h => h.size⟩
theorem RowM.kp {Kp : List Nat → World → World → Prop} (K : KLaw Kp) {S : List Nat} {A B : World} {q e : Nat} {es : List En} {room : Nat} {cs : Array Value} {v : Value} (h : RowM A q e es room cs v) (hk : Kp S A B) (h1 : q ∉ S) (h2 : e ∉ S) : RowM B q e es room cs v := by
  refine h.same (K.size hk) ((K.other hk h.box h1 (by decide)).trans h.box.symm) ?_
  rcases h.ty with e1 | ⟨cur, e1⟩
  · rw [e1]; exact (K.other hk h.box h1 (by decide)).trans h.box.symm
  · exact (K.other (p := e) (cs := cur) (t := 137) hk e1 h2 (by decide)).trans e1.symm
theorem ByAt.kp {Kp : List Nat → World → World → Prop} (K : KLaw Kp) {S : List Nat} {W W' : World} {bf bi q e : Nat} {f : Int} {es : List En} {room : Nat} {cs : Array Value} {v : Value} (h : ByAt W bf bi q e f es room cs v) (ht : Kp S W W') (hn : bf ∉ S ∧ bi ∉ S ∧ q ∉ S ∧ e ∉ S) : ByAt W' bf bi q e f es room cs v :=
  ⟨h.row.kp K ht hn.2.2.1 hn.2.2.2, K.other ht h.frm hn.1 (by decide), K.other ht h.is hn.2.1 (by decide)⟩
end Go.Proofs.YtjaijomkdgoenaaDoor.Mn
