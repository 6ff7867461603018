/- BookCopies: the rounds of the last loop. -/
import Derived.Test.YtcpmnkihhenbgaaCopR
namespace Go.Proofs.Ytcpmnkihhenbgaa
open Go.RowKit Go.Shelf
set_option maxRecDepth 100000
set_option maxHeartbeats 4000000

/-- What stands in the last loop. -/
structure Lp (W1 W : World) (A : Ix) (sb ib C D : Nat) (e : Nat) (l2 : List Pr) (vn : Value) (e3 : Nat) (l3 : List Pr) (vo v : Value) (l : List Pr) (vx : Value) (j : Int) (K B : Nat) : Prop where
  cp : Cps W1 W A e l2 vn e3 l3 vo v l K B
  md : MidP W1 W sb C l vx l.length
  ib : Fresh W ib #[.int .i64 j] 3
  df : W.heap[D]? = some (.deferred (some []))
  dn : D ≠ A.m ∧ D ≠ A.m2
theorem Lp.below {W1 W W' : World} {A : Ix} {sb ib C D e e3 K B : Nat} {l2 l3 l : List Pr} {vn vo v vx : Value} {j : Int} (h : Lp W1 W A sb ib C D e l2 vn e3 l3 vo v l vx j K B) (hb : Below W.heap.size W W') : Lp W1 W' A sb ib C D e l2 vn e3 l3 vo v l vx j K B :=
  ⟨h.cp.below hb, h.md.below hb, h.ib.below hb, (hb.block D (Array.getElem?_eq_some_iff.1 h.df).1).trans h.df, h.dn⟩
theorem Lp.notD {W1 W : World} {A : Ix} {sb ib C D e e3 K B : Nat} {l2 l3 l : List Pr} {vn vo v vx : Value} {j : Int} (h : Lp W1 W A sb ib C D e l2 vn e3 l3 vo v l vx j K B) {k : Nat} {cs : Array Value} {t : TypeId} (hf : Fresh W k cs t) : D ≠ k := by
  rintro rfl
  have := h.df
  unfold Fresh at hf
  rw [hf] at this
  cases this
/-- The index is set. -/
theorem Lp.set {W1 W : World} {A : Ix} {sb ib C D e e3 K B : Nat} {l2 l3 l : List Pr} {vn vo v vx : Value} {j : Int} (h : Lp W1 W A sb ib C D e l2 vn e3 l3 vo v l vx j K B) (hib : W1.heap.size ≤ ib) (j' : Int) : Lp W1 (W.setCell ⟨ib, 0, none⟩ (.int .i64 j')) A sb ib C D e l2 vn e3 l3 vo v l vx j' K B := by
  have T : Turned [ib] W (W.setCell ⟨ib, 0, none⟩ (.int .i64 j')) := (Turned.refl _ _).setCell (.inl (by simp)) _ _
  have hge : ∀ b ∈ [ib], W1.heap.size ≤ b := fun b hb => by simp at hb; rw [hb]; exact hib
  refine ⟨h.cp.turned T hge (fun b hb hx => ?_), h.md.turned T hge (fun hx => ?_) (fun g hg hx => ?_), h.ib.set 0 _, (T.block D (Array.getElem?_eq_some_iff.1 h.df).1 (by simpa using h.notD h.ib)).trans h.df, h.dn⟩
  · simp at hx
    subst hx
    exact h.cp.not_ty h.ib (by decide) (fun e => absurd e (by decide)) hb
  · simp at hx
    have := h.md.fx
    rw [hx] at this
    exact absurd (fresh_ty this h.ib) (by decide)
  · simp at hx
    subst hx
    obtain ⟨cs, hf⟩ := row_type h.md.ox hg
    exact absurd (fresh_ty hf h.ib) (by decide)
/-- An operation on the copy. -/
theorem Lp.does {W1 W w' : World} {A : Ix} {sb ib C D e e3 e' K B : Nat} {l2 l3 l3' l : List Pr} {vn vo v' v vx : Value} {j : Int} (h : Lp W1 W A sb ib C D e l2 vn e3 l3 vo v l vx j K B)
    (hh : Nw.HereN W1 W w' A.p2 A.q2 e3 e' A.m2 l3' K B) (ht : Turned [A.q2, e3, A.m2] W w') (hs : SegN W w' vo v' l3') : Lp W1 (stored w' A.ob v' K B) A sb ib C D e l2 vn e' l3' v' v l vx j K B := by
  have hT := stored_turned w' A.ob v' K B
  have hrow : ∀ g, vx.ownBlock = some g → ∃ cs, Fresh W g cs 49 := fun g hg => row_type h.md.ox hg
  have hge : ∀ b ∈ [A.q2, e3, A.m2], W1.heap.size ≤ b := fun b hb => by
    simp at hb
    rcases hb with rfl | rfl | rfl
    · exact h.cp.c.hq
    · exact h.cp.c.he
    · exact h.cp.c.hm
  have fnw : Fresh w' A.ob (rcs vo K B) refT := ht.other h.cp.fo (h.cp.c.bk.out h.cp.fo (by decide) (by decide))
  have hm1 : MidP W1 w' sb C l vx l.length := h.md.turned ht hge (h.cp.c.bk.out h.md.fx (by decide) (by decide)) (fun g hg => by
    obtain ⟨cs, hf⟩ := hrow g hg
    exact h.cp.c.bk.out hf (by decide) (by decide))
  have hi1 : Fresh w' ib #[.int .i64 j] 3 := ht.other h.ib (h.cp.c.bk.out h.ib (by decide) (by decide))
  obtain ⟨v9, hs9⟩ := h.cp.c.bk.st
  have hDn : D ∉ [A.q2, e3, A.m2] := by
    simp only [List.mem_cons, List.not_mem_nil, or_false]
    rintro (e1 | e1 | e1)
    · exact h.notD hs9.key.box e1
    · rcases hs9.key.ety with e2 | ⟨cur, e2⟩
      · exact h.notD hs9.key.box (e1.trans e2)
      · exact h.notD e2 e1
    · exact h.dn.2 e1
  have hd1 : w'.heap[D]? = some (.deferred (some [])) := (ht.block D (Array.getElem?_eq_some_iff.1 h.df).1 hDn).trans h.df
  have hDo : D ≠ A.ob := by
    intro e1
    unfold Fresh at fnw
    rw [← e1, hd1] at fnw
    cases fnw
  refine ⟨h.cp.doesC hh ht hs, hm1.turned hT (fun b hb => by simp at hb; rw [hb]; exact h.cp.ge.2) (fun hx => ?_) (fun g hg hx => ?_), stored_other hi1 (fun e => ?_), (hT.block D (Array.getElem?_eq_some_iff.1 hd1).1 (by simpa using hDo)).trans hd1, h.dn⟩
  · simp at hx
    have := hm1.fx
    rw [hx] at this
    exact absurd (fresh_ty this fnw) (by decide)
  · simp at hx
    subst hx
    obtain ⟨cs, hf⟩ := row_type hm1.ox hg
    exact absurd (fresh_ty hf fnw) (by decide)
  · rw [e] at hi1
    exact absurd (fresh_ty hi1 fnw) (by decide)
end Go.Proofs.Ytcpmnkihhenbgaa
