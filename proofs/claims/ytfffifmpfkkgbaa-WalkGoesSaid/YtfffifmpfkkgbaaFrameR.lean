/- A frame: nothing but some blocks and the row in a box turned; a new row there is a new block. -/
import Derived.Test.YtfffifmpfkkgbaaWalkI
namespace Go.Proofs.Ytfffifmpfkkgbaa
open Go.RowKit Go.Shelf
set_option maxRecDepth 100000
set_option maxHeartbeats 4000000

def RowOf (oc : Option Nat) (A : World) (k : Nat) : Prop := ∃ c v, oc = some c ∧ A.cell? ⟨c, 0, none⟩ = some v ∧ v.ownBlock = some k
structure KR (S : List Nat) (oc : Option Nat) (A B : World) : Prop where
  os : B.os = A.os
  tape : B.tape = A.tape
  output : B.output = A.output
  size : A.heap.size ≤ B.heap.size
  block : ∀ k, k < A.heap.size → k ∉ S → B.heap[k]? = A.heap[k]? ∨ (RowOf oc A k ∧ ∃ cs, Fresh A k cs 34)
  row : ∀ k, RowOf oc B k → k < A.heap.size → RowOf oc A k ∨ k ∈ S
theorem KR.refl (S : List Nat) (oc : Option Nat) (A : World) : KR S oc A A := ⟨rfl, rfl, rfl, Nat.le_refl _, fun _ _ _ => .inl rfl, fun _ h _ => .inl h⟩
theorem KR.trans {S : List Nat} {oc : Option Nat} {A B C : World} (h : KR S oc A B) (k : KR S oc B C) : KR S oc A C := by
  refine ⟨k.os.trans h.os, k.tape.trans h.tape, k.output.trans h.output, Nat.le_trans h.size k.size, fun j hj hn => ?_, fun j hr hj => ?_⟩
  · rcases h.block j hj hn with h1 | h1
    · rcases k.block j (Nat.lt_of_lt_of_le hj h.size) hn with h2 | ⟨h2, cs, h3⟩
      · exact .inl (h2.trans h1)
      · refine .inr ⟨?_, cs, ?_⟩
        · rcases h.row j h2 hj with h4 | h4
          · exact h4
          · exact absurd h4 hn
        · unfold Fresh at h3 ⊢; rw [← h1]; exact h3
    · exact .inr h1
  · rcases k.row j hr (Nat.lt_of_lt_of_le hj h.size) with h1 | h1
    · exact h.row j h1 hj
    · exact .inr h1
theorem KR.wide {S S' : List Nat} {oc : Option Nat} {A B : World} (h : KR S oc A B) (hs : ∀ k ∈ S, k ∈ S') : KR S' oc A B :=
  ⟨h.os, h.tape, h.output, h.size, fun k hk hn => h.block k hk (fun e => hn (hs k e)), fun k hr hk => (h.row k hr hk).imp id (hs k)⟩
/-- What leaves the box alone. -/
theorem KR.of_turned {S : List Nat} {oc : Option Nat} {A B : World} (h : Turned S A B) (hc : ∀ c, oc = some c → c < A.heap.size ∧ c ∉ S) : KR S oc A B := by
  refine ⟨h.os, h.tape, h.output, h.size, fun k hk hn => .inl (h.block k hk hn), fun k hr _ => .inl ?_⟩
  obtain ⟨c, v, h1, h2, h3⟩ := hr
  obtain ⟨h4, h5⟩ := hc c h1
  exact ⟨c, v, h1, (cell_same (h.block c h4 h5)).symm.trans h2, h3⟩
theorem KR.of_turned0 {S : List Nat} {A B : World} (h : Turned S A B) : KR S none A B := KR.of_turned h (fun c e => by cases e)
theorem KR.put {S : List Nat} {oc : Option Nat} {W : World} {k : Nat} (hk : k ∈ S) (hc : ∀ c, oc = some c → c < W.heap.size ∧ c ≠ k) (o : Obj) : KR S oc W (W.putObj k o) := by
  have h := Turned.put (S := [k]) (W := W) (k := k) (by simp) o
  exact (KR.of_turned h (fun c e => ⟨(hc c e).1, by simpa using (hc c e).2⟩)).wide (by simpa using hk)
theorem KR.other {S : List Nat} {oc : Option Nat} {A B : World} (h : KR S oc A B) {p : Nat} {cs : Array Value} {t : TypeId} (hf : Fresh A p cs t) (hn : p ∉ S) (ht : t ≠ 34) : Fresh B p cs t := by
  rcases h.block p hf.lt hn with h1 | ⟨_, cs', h2⟩
  · exact h1.trans hf
  · exact absurd (fresh_ty hf h2) ht
theorem KR.noncell {S : List Nat} {oc : Option Nat} {A B : World} (h : KR S oc A B) {k : Nat} {o : Obj} (hk : k ∉ S) (ho : A.heap[k]? = some o) (hc : o.isCells = false) : B.heap[k]? = some o := by
  rcases h.block k (Array.getElem?_eq_some_iff.1 ho).1 hk with h1 | ⟨_, cs', h2⟩
  · exact h1.trans ho
  · unfold Fresh at h2
    rw [ho] at h2
    cases h2
    cases hc
theorem KR.keeps {S : List Nat} {oc : Option Nat} {A B : World} {C : Nat} (h : KR S oc A B) (hs : ∀ k ∈ S, k < C) : KeepsFrom C A B :=
  ⟨h.size, fun _ _ hB ho hc => h.noncell (fun e => by have := hs _ e; omega) ho hc⟩
theorem KR.pair {S : List Nat} {oc : Option Nat} {A B : World} (h : KR S oc A B) {b : Nat} {cs : Array Value} (hf : Fresh A b cs 34) (hn : b ∉ S) (hr : NoRow oc A b) : Fresh B b cs 34 := by
  rcases h.block b hf.lt hn with h1 | ⟨⟨c, v, h2, h3, h4⟩, _⟩
  · exact h1.trans hf
  · exact absurd h4 (hr c h2 v h3)
theorem StAt.kr {S : List Nat} {oc : Option Nat} {A B : World} {q e m : Nat} {l : List Pr} {v : Value} (h : StAt A q e m l v) (hk : KR S oc A B) (h1 : q ∉ S) (h2 : e ∉ S) (h3 : m ∉ S) : StAt B q e m l v := by
  refine h.same ((hk.other h.key.box h1 (by decide)).trans h.key.box.symm) ?_ ?_
  · rcases h.key.ety with e1 | ⟨cur, e1⟩
    · rw [e1]; exact (hk.other h.key.box h1 (by decide)).trans h.key.box.symm
    · exact (hk.other e1 h2 (by decide)).trans e1.symm
  · obtain ⟨ms, es, c2, e2, _⟩ := h.map.is
    exact (hk.noncell h3 e2 rfl).trans e2.symm
theorem ArtAt.kr {S : List Nat} {oc : Option Nat} {A B : World} {p q e m : Nat} {l : List Pr} (h : ArtAt A p q e m l) (hk : KR S oc A B) (h0 : p ∉ S) (h1 : q ∉ S) (h2 : e ∉ S) (h3 : m ∉ S) : ArtAt B p q e m l := by
  obtain ⟨v, hv⟩ := h.st
  exact ⟨hk.other h.ptr h0 (by decide), v, hv.kr hk h1 h2 h3⟩
/-- How many pairs still stand behind a bound. -/
def restN (l : List Pr) (b : ByteArray) : Nat := l.length - atK b (keys l)
theorem restN_lt {l : List Pr} (hs : SrtP l) {b : ByteArray} {z : Pr} (h : nextP b l = some z) : restN l (zup z.1) < restN l b := by
  unfold nextP at h
  have h1 := at_zup hs h
  have h2 := (List.getElem?_eq_some_iff.1 h).1
  unfold restN
  omega
end Go.Proofs.Ytfffifmpfkkgbaa
