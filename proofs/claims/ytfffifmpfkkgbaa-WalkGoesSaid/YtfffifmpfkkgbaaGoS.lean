/- WalkGoes: where its loop stands. -/
import Derived.Test.YtfffifmpfkkgbaaGoM
import Derived.Test.YtfffifmpfkkgbaaRef12
import Derived.Test.YtfffifmpfkkgbaaAdj
namespace Go.Proofs.Ytfffifmpfkkgbaa
open Go.RowKit Go.Shelf Go.ChangeShapes Go.WideShapes
set_option maxRecDepth 1000000
set_option maxHeartbeats 4000000

section
variable {H : Type} {enc : TypeId × Value → H} {w : World} {base : Nat} {spare : Nat → Bool} {held : Bool}
def IsDeeds2 (w : World) (ao : Option Addr) (len cap : Nat) : Prop := IsDeeds w ao len ∧ len ≤ cap ∧ cap ≤ maxLen
theorem open_deeds2 {fuel : Nat} {ao : Option Addr} {len cap : Nat} {x : DataW H × List MemPlace} (h : DataW.trod enc Try.prog w base spare held fuel 22 [.slice ao len cap] = some x) : IsDeeds2 w ao len cap := by
  refine ⟨open_deeds h, ?_⟩
  rcases DataW.trod_slice Try.underlying22 h with ⟨h0, _⟩ | ⟨a, l, c, elems, rest, n, _, hcs, _, _, hl, hm, _⟩
  · simp only [List.cons.injEq, Value.slice.injEq, and_true] at h0
    obtain ⟨_, rfl, rfl⟩ := h0
    exact ⟨Nat.le_refl _, Nat.zero_le _⟩
  · simp only [List.cons.injEq, Value.slice.injEq, and_true] at hcs
    obtain ⟨rfl, rfl, rfl⟩ := hcs
    exact ⟨hl, hm⟩
end
def fromD (a : Option Addr) (cap lo : Nat) : Option Addr := if cap = lo then a else a.map fun p => p.add (lo * 4)
/-- One operation out of a list. -/
theorem HasD.one {w : World} {ao : Option Addr} {len cap : Nat} {ds : Nat → Dd} (h : HasD w ao len ds) {n : Nat} (hn : n < len) (hc : len ≤ cap) : HasD w (fromD ao cap n) 1 (fun i => ds (n + i)) := by
  refine ⟨fun i hi => ?_⟩
  obtain ⟨blk, off, rfl, h2, h3, h4, h5, h6, h7⟩ := h.at_ (n + i) (by omega)
  refine ⟨blk, off + n * 4, ?_, h2, ?_, ?_, ?_, ?_, h7⟩
  · unfold fromD
    rw [if_neg (by omega)]
    simp [Addr.add_lit]
  · rw [← h3]; congr 2; omega
  · rw [← h4]; congr 2; omega
  · rw [← h5]; congr 2; omega
  · rw [← h6]; congr 2; omega
/-- A box stored beside an art and its model. -/
theorem Two.set {w0 A : World} {p q e m M : Nat} {v u : Value} {l : List Pr} {cs : Array Value} {t : TypeId} (h : Two w0 A p q e m v l) (hf : Fresh A M cs t) (ht : t ≠ 34) (hM : w0.heap.size ≤ M) (hn : p ≠ M ∧ q ≠ M ∧ e ≠ M ∧ m ≠ M) : Two w0 (A.setCell ⟨M, 0, none⟩ u) p q e m v l := by
  have hT := (Turned.refl [M] A).setCell (p := M) (.inl (by simp)) 0 u
  refine ⟨Turned.below (S := [M]) h.low hT (by simpa using hM) h.low.size, h.hq, h.he, h.hm, h.art.turned hT (by simpa using hn.1) (by simpa using hn.2.1) (by simpa using hn.2.2.1) (by simpa using hn.2.2.2), h.seg.same fun g hg => hT.block g (h.seg.lt hg).1 (fun e => by
    simp at e
    subst e
    obtain ⟨cur, hc⟩ := (h.seg.lt hg).2
    exact ht (fresh_ty hf hc))⟩
theorem Two.grown {w0 A B : World} {p q e m : Nat} {v : Value} {l : List Pr} {row : Option Nat} (h : Two w0 A p q e m v l) (hg : A.grownBy B row) (hm : ∀ r, row = some r → m < r ∧ w0.heap.size ≤ r ∧ ∃ o : Obj, A.heap[r]? = some o ∧ o.isCells = false) : Two w0 B p q e m v l := by
  have hk := fun r e => (hm r e).2.2
  obtain ⟨u, hu⟩ := h.art.st
  refine ⟨Below.grownLow h.low hg (fun r e => (hm r e).2.1), h.hq, h.he, h.hm, ⟨h.art.ptr.kept hg hk, u, hu.kept hg hk (fun e => by have := (hm m e).1; omega)⟩, h.seg.same fun g hg2 => hg.block g (h.seg.lt hg2).1 (fun e => ?_)⟩
  obtain ⟨o, ho, hc⟩ := hk g e.symm
  obtain ⟨cs, h4⟩ := (h.seg.lt hg2).2
  unfold Fresh at h4
  rw [ho] at h4
  cases h4
  cases hc
/-- What the loop over Goes keeps. -/
structure GoG (w W : World) (b0 : ByteArray) (ds : Nat → Dd) (N : Nat) (l0 : List Pr) (p q m AB DB MB BB NB RB bw : Nat) (dv : Value) (pre : List Pr) (A : World) : Prop where
  cnt : pre.length + gMu ds N l0 pre.length (bdOf b0 pre) ≤ 200
  two : ∃ e v, Two w A p q e m v (LL ds N l0 pre.length) ∧ Fresh A MB #[v] 28 ∧ e ≠ BB
  fa : Fresh A AB #[.pointer (some ⟨p, 0, none⟩)] 24
  fd : Fresh A DB #[dv] 22
  bb : Fresh A BB #[.string (bdOf b0 pre)] 9
  nb : Fresh A NB #[.int .i64 (pre.length : Int)] 3
  fr : Fresh A RB #[.bool false] 4
  fw : Fresh A bw #[.pointer (some ⟨p, 0, none⟩)] 74
section
variable {w W : World} {b0 : ByteArray} {ds : Nat → Dd} {N : Nat} {l0 : List Pr} {p q m AB DB MB BB NB RB bw : Nat} {dv : Value} {pre : List Pr} {A B : World}
theorem GoG.grown {row : Option Nat} (h : GoG w W b0 ds N l0 p q m AB DB MB BB NB RB bw dv pre A) (hg : A.grownBy B row) (hr : ∀ r, row = some r → m < r ∧ w.heap.size ≤ r ∧ ∃ o : Obj, A.heap[r]? = some o ∧ o.isCells = false) : GoG w W b0 ds N l0 p q m AB DB MB BB NB RB bw dv pre B := by
  have hk := fun r e => (hr r e).2.2
  obtain ⟨e, v, h1, h2, h3⟩ := h.two
  exact ⟨h.cnt, ⟨e, v, h1.grown hg hr, h2.kept hg hk, h3⟩, h.fa.kept hg hk, h.fd.kept hg hk, h.bb.kept hg hk, h.nb.kept hg hk, h.fr.kept hg hk, h.fw.kept hg hk⟩
theorem GoG.below (h : GoG w W b0 ds N l0 p q m AB DB MB BB NB RB bw dv pre A) (hb : Below A.heap.size A B) : GoG w W b0 ds N l0 p q m AB DB MB BB NB RB bw dv pre B := by
  obtain ⟨e, v, h1, h2, h3⟩ := h.two
  exact ⟨h.cnt, ⟨e, v, h1.below hb, h2.below hb, h3⟩, h.fa.below hb, h.fd.below hb, h.bb.below hb, h.nb.below hb, h.fr.below hb, h.fw.below hb⟩
end
end Go.Proofs.Ytfffifmpfkkgbaa
