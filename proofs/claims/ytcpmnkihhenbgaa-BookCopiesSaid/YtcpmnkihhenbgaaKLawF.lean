/- A frame that lets one book turn, wherever its keys lie by then, and rows of pairs. -/
import Derived.Test.YtcpmnkihhenbgaaAllS
import Derived.Test.YtcpmnkihhenbgaaEachX
namespace Go.Proofs.Ytcpmnkihhenbgaa
open Go.RowKit Go.Shelf
set_option maxRecDepth 100000
set_option maxHeartbeats 4000000

/-- Where the keys of the store at q lie. -/
def foot (q : Nat) (W : World) (k : Nat) : Prop := ∃ v : Value, W.cell? ⟨q, 0, none⟩ = some v ∧ v.ownBlock = some k
def IsStr (o : Option Obj) : Prop := ∃ cs f, o = some (.cells cs 9 f)
structure KpF (q : Nat) (S : List Nat) (A B : World) : Prop where
  os : B.os = A.os
  tape : B.tape = A.tape
  output : B.output = A.output
  size : A.heap.size ≤ B.heap.size
  block : q ∉ S → q < A.heap.size → ∀ k, k < A.heap.size → k ∉ S → k ≠ q → ObjKeep A.heap[k]? B.heap[k]? ∨ (foot q A k ∧ IsStr A.heap[k]?)
  fut : q ∉ S → q < A.heap.size → ∀ k, foot q B k → foot q A k ∨ A.heap.size ≤ k
theorem foot_same {q : Nat} {A B : World} (h : B.heap[q]? = A.heap[q]?) (k : Nat) : foot q B k ↔ foot q A k := by
  unfold foot
  rw [World.cell?_of_block (a := ⟨q, 0, none⟩) h]
theorem KpF.refl (q : Nat) (S : List Nat) (A : World) : KpF q S A A := ⟨rfl, rfl, rfl, Nat.le_refl _, fun _ _ _ _ _ _ => .inl (.inl rfl), fun _ _ _ h => .inl h⟩
theorem KpF.trans {q : Nat} {S : List Nat} {A B C : World} (h : KpF q S A B) (k : KpF q S B C) : KpF q S A C := by
  refine ⟨k.os.trans h.os, k.tape.trans h.tape, k.output.trans h.output, Nat.le_trans h.size k.size, fun hq hl i hi hn hne => ?_, fun hq hl i hi => ?_⟩
  · rcases h.block hq hl i hi hn hne with (e | e) | e
    · rcases k.block hq (Nat.lt_of_lt_of_le hl h.size) i (Nat.lt_of_lt_of_le hi h.size) hn hne with e2 | ⟨e2, e3⟩
      · rw [e] at e2; exact .inl e2
      · rw [e] at e3
        rcases h.fut hq hl i e2 with e4 | e4
        · exact .inr ⟨e4, e3⟩
        · omega
    · exact .inl (.inr e)
    · exact .inr e
  · rcases k.fut hq (Nat.lt_of_lt_of_le hl h.size) i hi with e | e
    · exact h.fut hq hl i e
    · exact .inr (Nat.le_trans h.size e)
theorem KpF.wide {q : Nat} {S S' : List Nat} {A B : World} (h : KpF q S A B) (hs : ∀ k ∈ S, k ∈ S') : KpF q S' A B :=
  ⟨h.os, h.tape, h.output, h.size, fun hq hl i hi hn hne => h.block (fun e => hq (hs _ e)) hl i hi (fun e => hn (hs _ e)) hne, fun hq hl i hi => h.fut (fun e => hq (hs _ e)) hl i hi⟩
theorem KpF.of_turned {q : Nat} {S : List Nat} {A B : World} (h : Turned S A B) : KpF q S A B :=
  ⟨h.os, h.tape, h.output, h.size, fun _ _ i hi hn _ => .inl (.inl (h.block i hi hn)), fun hq hl i hi => .inl ((foot_same (h.block q hl hq) i).1 hi)⟩
theorem KpF.of_keep {q : Nat} {S : List Nat} {A B : World} (h : KeepT S A B) (hq : q < A.heap.size → ¬ IsPr A.heap[q]?) : KpF q S A B :=
  ⟨h.os, h.tape, h.output, h.size, fun _ _ i hi hn _ => .inl (h.block i hi hn), fun hqs hl i hi => .inl ((foot_same (h.same hl hqs (hq hl)) i).1 hi)⟩
theorem KpF.put {q : Nat} {S : List Nat} {W : World} {k : Nat} (hk : k ∈ S) (o : Obj) : KpF q S W (W.putObj k o) := .of_turned (Turned.put hk o)
theorem KpF.same {q : Nat} {S : List Nat} {A B : World} (h : KpF q S A B) (hq : q ∉ S) (hl : q < A.heap.size) {k : Nat} (hk : k < A.heap.size) (hn : k ∉ S) (hne : k ≠ q) (h8 : ¬ IsPr A.heap[k]?) (hf : ¬ (foot q A k ∧ IsStr A.heap[k]?)) : B.heap[k]? = A.heap[k]? := by
  rcases h.block hq hl k hk hn hne with (e | e) | e
  · exact e
  · exact absurd e h8
  · exact absurd e hf
theorem KpF.other {q : Nat} {S : List Nat} {A B : World} (h : KpF q S A B) (hq : q ∉ S) (hl : q < A.heap.size) {p : Nat} {cs : Array Value} {t : TypeId} (hf : Fresh A p cs t) (hn : p ∉ S) (hne : p ≠ q) (ht : t ≠ 49) (hff : ¬ foot q A p ∨ t ≠ 9) : Fresh B p cs t := by
  refine (h.same hq hl hf.lt hn hne (fresh_not8 hf ht) ?_).trans hf
  rintro ⟨h1, c, f, e⟩
  rcases hff with h2 | h2
  · exact h2 h1
  · unfold Fresh at hf
    rw [hf] at e
    cases e
    exact h2 rfl
theorem KpF.keeps {q : Nat} {S : List Nat} {A B : World} {C : Nat} (h : KpF q S A B) (hq : q ∉ S) (hl : q < A.heap.size) (hC : q < C) (hs : ∀ k ∈ S, k < C) : KeepsFrom C A B :=
  ⟨h.size, fun k o hB ho hc => (h.same hq hl (Array.getElem?_eq_some_iff.1 ho).1 (fun e => by have := hs k e; omega) (by omega) (by
    rintro ⟨c, f, e⟩
    rw [ho] at e
    cases e
    cases hc) (by
    rintro ⟨_, c, f, e⟩
    rw [ho] at e
    cases e
    cases hc)).trans ho⟩
/-- What the rounds of All keep, beside a book that turns. -/
structure AllF (qb : Nat) (W : World) (y l0 z q e m : Nat) (l : List Pr) (K B : Nat) (v : Value) : Prop where
  at_ : AllAt W y l0 z q e m l K B v
  ft : ¬ foot qb W e
  qlt : qb < W.heap.size
theorem AllF.kp {qb : Nat} {S : List Nat} {W W' : World} {y l0 z q e m : Nat} {l : List Pr} {k b : Nat} {v : Value} (h : AllF qb W y l0 z q e m l k b v) (ht : KpF qb S W W') (hq : qb ∉ S) (h1 : y ∉ S) (h2 : z ∉ S) (h3 : q ∉ S) (h4 : e ∉ S) (h5 : m ∉ S) (hne : qb ≠ y ∧ qb ≠ z ∧ qb ≠ q ∧ qb ≠ e ∧ qb ≠ m) : AllF qb W' y l0 z q e m l k b v := by
  refine ⟨⟨ht.other hq h.qlt h.at_.yld h1 (fun e => hne.1 e.symm) (by decide) (.inr (by decide)), ht.other hq h.qlt h.at_.box h2 (fun e => hne.2.1 e.symm) (by decide) (.inr (by decide)), ?_⟩, ?_, Nat.lt_of_lt_of_le h.qlt ht.size⟩
  · have hS := h.at_.st
    have hbox := ht.other hq h.qlt hS.key.box h3 (fun e => hne.2.2.1 e.symm) (by decide) (.inr (by decide))
    refine hS.same (hbox.trans hS.key.box.symm) ?_ ?_
    · rcases hS.key.ety with e1 | ⟨cur, e1⟩
      · rw [e1]; exact hbox.trans hS.key.box.symm
      · exact (ht.other hq h.qlt e1 h4 (fun e => hne.2.2.2.1 e.symm) (by decide) (.inl h.ft)).trans e1.symm
    · have hm : ∀ c t f, W.heap[m]? ≠ some (.cells c t f) := by
        intro c t f e1
        obtain ⟨ms, es, c2, e2, _⟩ := hS.map.is
        rw [e2] at e1
        cases e1
      refine ht.same hq h.qlt hS.lt.2.2 h5 (fun e => hne.2.2.2.2 e.symm) ?_ ?_
      · rintro ⟨c, f, e1⟩; exact hm _ _ _ e1
      · rintro ⟨_, c, f, e1⟩; exact hm _ _ _ e1
  · intro hf
    rcases ht.fut hq h.qlt e hf with h6 | h6
    · exact h.ft h6
    · have := h.at_.st.lt.2.1
      omega
theorem foot_below {q : Nat} {A B : World} (hb : Below A.heap.size A B) (hq : q < A.heap.size) (k : Nat) : foot q B k ↔ foot q A k := foot_same (hb.block q hq) k
theorem foot_book {W : World} {p q e m : Nat} {l : List Pr} {K B : Nat} (h : BookAt W p q e m l K B) {k : Nat} (hf : foot q W k) : k = e := by
  obtain ⟨v0, hr⟩ := h.st
  obtain ⟨v, h1, h2⟩ := hf
  rw [hr.cells.1] at h1
  cases h1
  rcases hr.key.row.form with ⟨h3, _⟩ | ⟨cap, cur, h3, _⟩
  · rw [h3] at h2; cases h2
  · rw [h3] at h2; cases h2; rfl
end Go.Proofs.Ytcpmnkihhenbgaa
