/- BookCopies: the rounds of the range. -/
import Derived.Test.YtcpmnkihhenbgaaCopB
import Derived.Maps.OwnIn
namespace Go.Proofs.Ytcpmnkihhenbgaa
open Go.RowKit Go.Shelf
set_option maxRecDepth 100000
set_option maxHeartbeats 4000000

/-- What stands in the rounds: k of them are done. -/
structure Rnd (W1 W : World) (A : Ix) (sb ib C : Nat) (e : Nat) (l2 : List Pr) (vn : Value) (e2 : Nat) (v : Value) (l : List Pr) (vx : Value) (k : Nat) (K B : Nat) : Prop where
  cp : Cps W1 W A e l2 vn e2 l v v l K B
  md : MidP W1 W sb C l vx k
  ib : Fresh W ib #[.int .i64 (k : Int)] 3
  al : ∀ g, vx.ownBlock = some g → vn.ownBlock ≠ some g ∧ v.ownBlock ≠ some g
  len : l2.length ≤ 80 + k
theorem MidP.turned {w W W' : World} {X C : Nat} {l : List Pr} {vx : Value} {k : Nat} (h : MidP w W X C l vx k) {S : List Nat} (ht : Turned S W W') (hS : ∀ b ∈ S, w.heap.size ≤ b) (hX : X ∉ S) (hv : ∀ g, vx.ownBlock = some g → g ∉ S) : MidP w W' X C l vx k :=
  ⟨ht.other h.fx hX, row_keep h.ox fun b hb => ht.block b (h.ox.lt b hb).2 (hv b hb), Turned.below h.low ht hS h.low.size, h.hC⟩
theorem Rnd.below {W1 W W' : World} {A : Ix} {sb ib C e e2 k K B : Nat} {l2 l : List Pr} {vn v vx : Value} (h : Rnd W1 W A sb ib C e l2 vn e2 v l vx k K B) (hb : Below W.heap.size W W') : Rnd W1 W' A sb ib C e l2 vn e2 v l vx k K B :=
  ⟨h.cp.below hb, h.md.below hb, h.ib.below hb, h.al, h.len⟩
theorem Rnd.kept {W1 W W' : World} {A : Ix} {sb ib C e e2 k K B : Nat} {l2 l : List Pr} {vn v vx : Value} (h : Rnd W1 W A sb ib C e l2 vn e2 v l vx k K B) {row : Option Nat} (hg : W.grownBy W' row) (hr : ∀ r, row = some r → (W1.heap.size ≤ r ∧ r ≠ A.m ∧ r ≠ A.m2) ∧ ∃ o : Obj, W.heap[r]? = some o ∧ o.isCells = false) : Rnd W1 W' A sb ib C e l2 vn e2 v l vx k K B :=
  ⟨h.cp.kept hg hr, h.md.kept hg (fun r e => ⟨(hr r e).1.1, (hr r e).2⟩), h.ib.kept hg (fun r e => (hr r e).2), h.al, h.len⟩
/-- A pair told: the list of what was seen grows. -/
theorem Rnd.push {W1 W w7 : World} {A : Ix} {sb ib C e e2 k K B : Nat} {l2 l : List Pr} {vn v vx v7 : Value} (h : Rnd W1 W A sb ib C e l2 vn e2 v l vx k K B) {x : Pr}
    (hown : w7.ownsRow C 49 2 v7 (k + 1) (flatP (l.take k) ++ [.string x.1, .string x.2])) (hg : (W.alloc (.cells #[.string x.1, .string x.2] 49)).grownBy w7 vx.ownBlock)
    (hloc : v7.ownBlock = vx.ownBlock ∨ v7.ownBlock = some (W.heap.size + 1))
    (hbt : flatP (l.take (k + 1)) = flatP (l.take k) ++ [.string x.1, .string x.2]) (hC : C ≤ W.heap.size) {S : List Nat} (hsb : sb ∈ S) :
    w7.cell? ⟨sb, 0, none⟩ = some vx ∧ w7.frozen? ⟨sb, 0, none⟩ = false ∧ Cps W1 (w7.setCell ⟨sb, 0, none⟩ v7) A e l2 vn e2 l v v l K B ∧ MidP W1 (w7.setCell ⟨sb, 0, none⟩ v7) sb C l v7 (k + 1) ∧ Fresh (w7.setCell ⟨sb, 0, none⟩ v7) ib #[.int .i64 (k : Int)] 3 ∧
      (∀ g, v7.ownBlock = some g → vn.ownBlock ≠ some g ∧ v.ownBlock ≠ some g) ∧ KpF A.q S W (w7.setCell ⟨sb, 0, none⟩ v7) ∧ W.heap.size ≤ (w7.setCell ⟨sb, 0, none⟩ v7).heap.size := by
  obtain ⟨m1, m2, m3, m4⟩ := h.md.push hown hg hbt
  have low : Below W.heap.size W (W.alloc (.cells #[.string x.1, .string x.2] 49)) := Below.new (Below.refl _ _) _
  have t1 : Turned (sb :: vx.ownBlock.toList) (W.alloc (.cells #[.string x.1, .string x.2] 49)) w7 :=
    ⟨hg.os, hg.tape, hg.output, hg.size, fun b hb hn => hg.block b hb (fun e => hn (by rw [← e]; simp))⟩
  have T : Turned (sb :: vx.ownBlock.toList) W (w7.setCell ⟨sb, 0, none⟩ v7) := ((Turned.of_below low).trans t1).setCell (.inl (by simp)) _ _
  have hvx : ∀ g, vx.ownBlock = some g → C ≤ g ∧ g < W.heap.size := fun g hg => h.md.ox.lt g hg
  have hrow : ∀ g, vx.ownBlock = some g → ∃ cs, Fresh W g cs 49 := fun g hg => row_type h.md.ox hg
  have hS : ∀ b ∈ sb :: vx.ownBlock.toList, W1.heap.size ≤ b := fun b hb => by
    have := h.md.hC
    rcases List.mem_cons.1 hb with rfl | hb
    · omega
    · rw [Option.mem_toList] at hb
      have := hvx b hb
      omega
  have hdis : ∀ b ∈ Cps.blks A e e2 vn v v, b ∉ sb :: vx.ownBlock.toList := fun b hb hx => by
    rcases List.mem_cons.1 hx with rfl | hx
    · exact h.cp.not_ty h.md.fx (by decide) (fun e => absurd e (by decide)) hb
    · rw [Option.mem_toList] at hx
      obtain ⟨cs, hf⟩ := hrow b hx
      exact h.cp.not_ty hf (by decide) (fun _ => ⟨(h.al b hx).1, (h.al b hx).2, (h.al b hx).2⟩) hb
  refine ⟨m1, m2, h.cp.turned T hS hdis, m3, ?_, ?_, ?_, T.size⟩
  · refine T.other h.ib (fun hx => ?_)
    rcases List.mem_cons.1 hx with e | hx
    · have := h.ib
      rw [e] at this
      exact absurd (fresh_ty this h.md.fx) (by decide)
    · rw [Option.mem_toList] at hx
      obtain ⟨cs, hf⟩ := hrow ib hx
      exact absurd (fresh_ty hf h.ib) (by decide)
  · intro g hgv
    rcases hloc with e1 | e1
    · rw [e1] at hgv; exact h.al g hgv
    · rw [e1] at hgv
      cases hgv
      have hlt : ∀ {u y}, Seg W u y → u.ownBlock ≠ some (W.heap.size + 1) := fun hs e => by
        have := (hs.lt e).1
        omega
      exact ⟨hlt h.cp.sa, hlt h.cp.sm⟩
  · refine (KpF.of_keep (q := A.q) m4 (fun _ => ?_)).wide (by simpa using hsb)
    obtain ⟨v0, hs⟩ := h.cp.a.bk.st
    exact fresh_not8 hs.key.box (by decide)
/-- A round ends: one more is counted. -/
theorem Rnd.tick {W1 W5 W : World} {A : Ix} {sb ib C e e2 k K B : Nat} {l2 l : List Pr} {vn v vx : Value} {S : List Nat} (hc : Cps W1 W A e l2 vn e2 l v v l K B) (hm : MidP W1 W sb C l vx (k + 1)) (hi : Fresh W ib #[.int .i64 (k : Int)] 3)
    (al : ∀ g, vx.ownBlock = some g → vn.ownBlock ≠ some g ∧ v.ownBlock ≠ some g) (len : l2.length ≤ 80 + (k + 1)) (hib : W1.heap.size ≤ ib) (hS : ib ∈ S) (hK : KpF A.q S W5 W) :
    Rnd W1 (W.setCell ⟨ib, 0, none⟩ (.int .i64 ((k + 1 : Nat) : Int))) A sb ib C e l2 vn e2 v l vx (k + 1) K B ∧ KpF A.q S W5 (W.setCell ⟨ib, 0, none⟩ (.int .i64 ((k + 1 : Nat) : Int))) := by
  have T : Turned [ib] W (W.setCell ⟨ib, 0, none⟩ (.int .i64 ((k + 1 : Nat) : Int))) := (Turned.refl _ _).setCell (.inl (by simp)) _ _
  have hge : ∀ b ∈ [ib], W1.heap.size ≤ b := fun b hb => by simp at hb; rw [hb]; exact hib
  refine ⟨⟨hc.turned T hge (fun b hb hx => ?_), hm.turned T hge (fun hx => ?_) (fun g hg hx => ?_), hi.set 0 _, al, len⟩, hK.trans (KpF.of_turned (T.wide (by simpa using hS)))⟩
  · simp at hx
    subst hx
    exact hc.not_ty hi (by decide) (fun e => absurd e (by decide)) hb
  · simp at hx
    have := hm.fx
    rw [hx] at this
    exact absurd (fresh_ty this hi) (by decide)
  · simp at hx
    subst hx
    obtain ⟨cs, hf⟩ := row_type hm.ox hg
    exact absurd (fresh_ty hf hi) (by decide)
/-- An operation on the book in a round. -/
theorem Rnd.does {W1 W w' : World} {A : Ix} {sb ib C e e' e2 k K B : Nat} {l2 l2' l : List Pr} {vn v' v vx : Value} {S : List Nat} {j : Int} (h : Cps W1 W A e l2 vn e2 l v v l K B) (hn : e = A.q ∨ foot A.q W e) (hm : MidP W1 W sb C l vx k) (hi : Fresh W ib #[.int .i64 j] 3)
    (al : ∀ g, vx.ownBlock = some g → vn.ownBlock ≠ some g ∧ v.ownBlock ≠ some g)
    (hh : Nw.HereN W1 W w' A.p A.q e e' A.m l2' K B) (ht : Turned [A.q, e, A.m] W w') (hs : SegN W w' vn v' l2') (hmS : A.m ∈ S) (hnS : A.nb ∈ S) :
    Cps W1 (stored w' A.nb v' K B) A e' l2' v' e2 l v v l K B ∧ MidP W1 (stored w' A.nb v' K B) sb C l vx k ∧ Fresh (stored w' A.nb v' K B) ib #[.int .i64 j] 3 ∧ (∀ g, vx.ownBlock = some g → v'.ownBlock ≠ some g ∧ v.ownBlock ≠ some g) ∧ KpF A.q S W (stored w' A.nb v' K B) := by
  have hT := stored_turned w' A.nb v' K B
  have hrow : ∀ g, vx.ownBlock = some g → ∃ cs, Fresh W g cs 49 := fun g hg => row_type hm.ox hg
  have hge : ∀ b ∈ [A.q, e, A.m], W1.heap.size ≤ b := fun b hb => by
    simp at hb
    rcases hb with rfl | rfl | rfl
    · exact h.a.hq
    · exact h.a.he
    · exact h.a.hm
  have fnw : Fresh w' A.nb (rcs vn K B) refT := ht.other h.fn (h.a.bk.out h.fn (by decide) (by decide))
  have hm1 : MidP W1 w' sb C l vx k := hm.turned ht hge (h.a.bk.out hm.fx (by decide) (by decide)) (fun g hg => by
    obtain ⟨cs, hf⟩ := hrow g hg
    exact h.a.bk.out hf (by decide) (by decide))
  have hi1 : Fresh w' ib #[.int .i64 j] 3 := ht.other hi (h.a.bk.out hi (by decide) (by decide))
  refine ⟨h.doesA hh ht hs, hm1.turned hT (fun b hb => by simp at hb; rw [hb]; exact h.ge.1) (fun hx => ?_) (fun g hg hx => ?_), stored_other hi1 (fun e => ?_), fun g hg => ⟨fun hg' => ?_, (al g hg).2⟩, (kpf_does h.a.bk hn hh ht hmS).trans (KpF.of_turned (hT.wide (by simpa using hnS)))⟩
  · simp at hx
    have := hm1.fx
    rw [hx] at this
    exact absurd (fresh_ty this fnw) (by decide)
  · simp at hx
    subst hx
    obtain ⟨cs, hf⟩ := row_type hm1.ox hg
    exact absurd (fresh_ty hf fnw) (by decide)
  · rw [e] at hi1
    exact absurd (fresh_ty hi1 fnw) (by decide)
  · rcases hs.2 g hg' with h1 | h1
    · exact (al g hg).1 h1
    · have := (hm.ox.lt g hg).2
      omega
end Go.Proofs.Ytcpmnkihhenbgaa
