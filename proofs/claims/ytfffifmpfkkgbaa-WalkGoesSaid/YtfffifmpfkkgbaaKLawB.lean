/- What a frame must give: nothing but some blocks turned; nothing but those and rows of pairs. -/
import Derived.Test.YtfffifmpfkkgbaaEachS
namespace Go.Proofs.Ytfffifmpfkkgbaa
open Go.RowKit
set_option maxRecDepth 100000
set_option maxHeartbeats 4000000

/-- A row of pairs. -/
def IsPr (o : Option Obj) : Prop := ∃ cs f, o = some (.cells cs 34 f)
def ObjKeep (o o' : Option Obj) : Prop := o' = o ∨ IsPr o
theorem ObjKeep.trans {a b c : Option Obj} (h : ObjKeep a b) (k : ObjKeep b c) : ObjKeep a c := by
  rcases h with rfl | h1
  · exact k
  · exact .inr h1
structure KeepT (S : List Nat) (W W' : World) : Prop where
  os : W'.os = W.os
  tape : W'.tape = W.tape
  output : W'.output = W.output
  size : W.heap.size ≤ W'.heap.size
  block : ∀ k, k < W.heap.size → k ∉ S → ObjKeep W.heap[k]? W'.heap[k]?
theorem KeepT.refl (S : List Nat) (W : World) : KeepT S W W := ⟨rfl, rfl, rfl, Nat.le_refl _, fun _ _ _ => .inl rfl⟩
theorem KeepT.trans {S : List Nat} {W W' W'' : World} (h : KeepT S W W') (k : KeepT S W' W'') : KeepT S W W'' :=
  ⟨k.os.trans h.os, k.tape.trans h.tape, k.output.trans h.output, Nat.le_trans h.size k.size, fun j hj hn => (h.block j hj hn).trans (k.block j (Nat.lt_of_lt_of_le hj h.size) hn)⟩
theorem KeepT.of_turned {S : List Nat} {W W' : World} (h : Turned S W W') : KeepT S W W' := ⟨h.os, h.tape, h.output, h.size, fun k hk hn => .inl (h.block k hk hn)⟩
theorem KeepT.of_below {S : List Nat} {W W' : World} (h : Below W.heap.size W W') : KeepT S W W' := .of_turned (.of_below h)
theorem KeepT.drew {S : List Nat} {W W' : World} (h : KeepT S W W') : KeepT S W W'.drew := ⟨h.os, h.tape, h.output, h.size, h.block⟩
theorem KeepT.put {S : List Nat} {W : World} {k : Nat} (hk : k ∈ S) (o : Obj) : KeepT S W (W.putObj k o) := .of_turned (Turned.put hk o)
theorem KeepT.wide {S S' : List Nat} {W W' : World} (h : KeepT S W W') (hs : ∀ k ∈ S, k ∈ S') : KeepT S' W W' :=
  ⟨h.os, h.tape, h.output, h.size, fun k hk hn => h.block k hk (fun e => hn (hs k e))⟩
theorem KeepT.same {S : List Nat} {W W' : World} (h : KeepT S W W') {k : Nat} (hk : k < W.heap.size) (hn : k ∉ S) (h8 : ¬ IsPr W.heap[k]?) : W'.heap[k]? = W.heap[k]? := by
  rcases h.block k hk hn with e | e
  · exact e
  · exact absurd e h8
theorem KeepT.other {S : List Nat} {W W' : World} (h : KeepT S W W') {p : Nat} {cs : Array Value} {t : TypeId} (hf : Fresh W p cs t) (hn : p ∉ S) (ht : t ≠ 34) : Fresh W' p cs t :=
  (h.same hf.lt hn (by
    rintro ⟨c, f, e⟩
    unfold Fresh at hf
    rw [hf] at e
    cases e
    exact ht rfl)).trans hf
theorem KeepsFrom.of_keepT {S : List Nat} {W W' : World} {B : Nat} (h : KeepT S W W') (hs : ∀ k ∈ S, k < B) : KeepsFrom B W W' :=
  ⟨h.size, fun k o hB ho hc => (h.same (Array.getElem?_eq_some_iff.1 ho).1 (fun e => by have := hs k e; omega) (by
    rintro ⟨c, f, e⟩
    rw [ho] at e
    cases e
    cases hc)).trans ho⟩
theorem fresh_not8 {W : World} {p : Nat} {cs : Array Value} {t : TypeId} (hf : Fresh W p cs t) (ht : t ≠ 34) : ¬ IsPr W.heap[p]? := by
  rintro ⟨c, f, e⟩
  unfold Fresh at hf
  rw [hf] at e
  cases e
  exact ht rfl
structure KLaw (Kp : List Nat → World → World → Prop) : Prop where
  refl : ∀ S A, Kp S A A
  trans : ∀ {S A B C}, Kp S A B → Kp S B C → Kp S A C
  wide : ∀ {S S' A B}, Kp S A B → (∀ k ∈ S, k ∈ S') → Kp S' A B
  put : ∀ {S : List Nat} {W : World} {k : Nat}, k ∈ S → ∀ o : Obj, Kp S W (W.putObj k o)
  turned : ∀ {S A B}, Turned S A B → Kp S A B
  keeps : ∀ {S A B} {C : Nat}, Kp S A B → (∀ k ∈ S, k < C) → KeepsFrom C A B
  other : ∀ {S A B} {p : Nat} {cs : Array Value} {t : TypeId}, Kp S A B → Fresh A p cs t → p ∉ S → t ≠ 34 → Fresh B p cs t
  size : ∀ {S} {A B : World}, Kp S A B → A.heap.size ≤ B.heap.size
  same : ∀ {S A B} {k : Nat}, Kp S A B → k < A.heap.size → k ∉ S → ¬ IsPr A.heap[k]? → B.heap[k]? = A.heap[k]?
theorem kTurned : KLaw Turned :=
  ⟨Turned.refl, fun h k => h.trans k, fun h k => h.wide k, fun h o => Turned.put h o, fun h => h, fun h k => KeepsFrom.of_turned h k, fun h f n _ => h.other f n, fun h => h.size, fun h a b _ => h.block _ a b⟩
theorem kKeepT : KLaw KeepT :=
  ⟨KeepT.refl, fun h k => h.trans k, fun h k => h.wide k, fun h o => KeepT.put h o, fun h => KeepT.of_turned h, fun h k => KeepsFrom.of_keepT h k, fun h f n t => h.other f n t, fun h => h.size, fun h a b c => h.same a b c⟩
theorem EachAt.kp {Kp : List Nat → World → World → Prop} (K : KLaw Kp) {S : List Nat} {A B : World} {bx e : Nat} {ks : List ByteArray} {v : Value} (h : EachAt A bx e ks v) (hk : Kp S A B) (h1 : bx ∉ S) (h2 : e ∉ S) : EachAt B bx e ks v := by
  refine h.same ((K.other hk h.box h1 (by decide)).trans h.box.symm) ?_
  rcases h.ety with e1 | ⟨cur, e1⟩
  · rw [e1]; exact (K.other hk h.box h1 (by decide)).trans h.box.symm
  · exact (K.other hk e1 h2 (by decide)).trans e1.symm
theorem StAt.kp {Kp : List Nat → World → World → Prop} (K : KLaw Kp) {S : List Nat} {A B : World} {q e m : Nat} {l : List Pr} {v : Value} (h : StAt A q e m l v) (hk : Kp S A B) (h1 : q ∉ S) (h2 : e ∉ S) (h3 : m ∉ S) : StAt B q e m l v := by
  refine h.same ((K.other hk h.key.box h1 (by decide)).trans h.key.box.symm) ?_ ?_
  · rcases h.key.ety with e1 | ⟨cur, e1⟩
    · rw [e1]; exact (K.other hk h.key.box h1 (by decide)).trans h.key.box.symm
    · exact (K.other hk e1 h2 (by decide)).trans e1.symm
  · refine K.same hk h.lt.2.2 h3 ?_
    rintro ⟨c, f, e1⟩
    obtain ⟨ms, es, c2, e2, _⟩ := h.map.is
    rw [e2] at e1
    cases e1
theorem StAt.look1 {W : World} {q e m : Nat} {l : List Pr} {v : Value} (h : StAt W q e m l v) (x y : ByteArray) (hx : getT l x = some (x, y)) :
    (Instr.lookup 59 (.map (some m)) (.string x) false).run Try.prog W = .ok (.string y) W := by
  obtain ⟨ms, es, c, h1, h2, h3, h4⟩ := h.map.is
  have hk : Try.prog.underlying 9 = some .string := Try.underlying9
  have hc : (Instr.checkKey es.isEmpty 10000 9 (.string x)).run Try.prog W = .ok () W := MapKept.run_checkKey hk (show MapKept.IsKey .string (.string x) from trivial) _ 9999
  have hg : getT ms x = some (x, y) := by rw [get_same h3 (srt_uniq h.srt) h4 x]; exact hx
  rcases find_map h2 h3 x with ⟨g1, _, g2⟩ | ⟨t, j, g1, _, _, g2⟩
  · rw [hg] at g1; cases g1
  · rw [hg] at g1
    cases g1
    simp [Instr.lookup, run_underlying Try.underlying59, MapKept.run_getObj_map h1, hc, MapKept.run_findKey hk g2, Result.andThen]
end Go.Proofs.Ytfffifmpfkkgbaa
