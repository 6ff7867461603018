/- WalkPages: where its last loop stands. -/
import Derived.Test.YtfffifmpfkkgbaaAwakeW
import Derived.Test.YtfffifmpfkkgbaaAdj
import Derived.Maps.OwnIn
namespace Go.Proofs.Ytfffifmpfkkgbaa
open Go.RowKit Go.Shelf
set_option maxRecDepth 1000000
set_option maxHeartbeats 4000000

/-- What the loop over Goes keeps. -/
structure GoR (w W : World) (l : List Pr) (p q e m AB G bw : Nat) (pv : Value) (j : Nat) (pre : List Pr) (vx : Value) (A : World) : Prop where
  le : j ≤ l.length
  ini : pre = l.take j
  art : ArtAt A p q e m l
  ml : m < W.heap.size
  wl : w.heap.size ≤ W.heap.size
  fr : Fresh A w.heap.size #[.bool false] 4
  fa : Fresh A AB #[.pointer (some ⟨p, 0, none⟩)] 24
  fg : Fresh A G #[vx] 26
  row : A.ownsRow W.heap.size 34 2 vx pre.length (flatP pre)
  pg : Seg A pv l
  pk : ∀ k, pv.ownBlock = some k → k < W.heap.size
  fw : Fresh A bw #[.pointer (some ⟨p, 0, none⟩)] 74
  low : Below w.heap.size w A
section
variable {w W : World} {l : List Pr} {p q e m AB G bw : Nat} {pv : Value} {j : Nat} {pre : List Pr} {vx : Value} {A B : World}
theorem GoR.grown {row : Option Nat} (h : GoR w W l p q e m AB G bw pv j pre vx A) (hg : A.grownBy B row) (hr : ∀ r, row = some r → W.heap.size ≤ r ∧ ∃ o : Obj, A.heap[r]? = some o ∧ o.isCells = false) : GoR w W l p q e m AB G bw pv j pre vx B := by
  have hk := fun r e => (hr r e).2
  obtain ⟨v, hv⟩ := h.art.st
  have hml := h.ml
  have hwl := h.wl
  refine ⟨h.le, h.ini, ⟨h.art.ptr.kept hg hk, v, hv.kept hg hk (fun e => by have := (hr m e).1; omega)⟩, hml, hwl, h.fr.kept hg hk, h.fa.kept hg hk, h.fg.kept hg hk, ?_, ?_, h.pk, h.fw.kept hg hk, Below.grownLow h.low hg (fun r e => by have := (hr r e).1; omega)⟩
  · exact row_keep h.row fun k hk2 => hg.block k (h.row.lt k hk2).2 (fun e => by
      obtain ⟨o, ho, hc⟩ := hk k e.symm
      obtain ⟨cs, h4⟩ := row_type h.row hk2
      rw [ho] at h4
      cases h4
      cases hc)
  · exact h.pg.same fun k hk2 => hg.block k (h.pg.lt hk2).1 (fun e => by
      have := (hr k e.symm).1
      have := h.pk k hk2
      omega)
theorem GoR.below (h : GoR w W l p q e m AB G bw pv j pre vx A) (hb : Below A.heap.size A B) : GoR w W l p q e m AB G bw pv j pre vx B :=
  ⟨h.le, h.ini, h.art.below hb, h.ml, h.wl, h.fr.below hb, h.fa.below hb, h.fg.below hb, row_keep h.row fun k hk => hb.block k (h.row.lt k hk).2, h.pg.below hb, h.pk, h.fw.below hb, Below.step h.low hb⟩
theorem GoR.append (h : GoR w W l p q e m AB G bw pv j pre vx A) {z : Pr} (hz : l[j]? = some z) {W9 W10 : World} {v' : Value} (h9 : Below A.heap.size A W9) (hg : W9.grownBy W10 vx.ownBlock) (ho : W10.ownsRow W.heap.size 34 2 v' (pre ++ [z]).length (flatP (pre ++ [z]))) (hv : v'.ownBlock = vx.ownBlock ∨ v'.ownBlock = some W9.heap.size)
    (hG : w.heap.size < G ∧ G < W.heap.size ∧ p ≠ G ∧ q ≠ G ∧ e ≠ G ∧ m ≠ G ∧ AB ≠ G ∧ bw ≠ G) :
    KR [G] (some G) A (W10.setCell ⟨G, 0, none⟩ v') ∧ GoR w W l p q e m AB G bw pv (j + 1) (pre ++ [z]) v' (W10.setCell ⟨G, 0, none⟩ v') := by
  obtain ⟨g0, g1, g2, g3, g4, g5, g6, g7⟩ := hG
  have hjl := (List.getElem?_eq_some_iff.1 hz).1
  have fG10 : Fresh W10 G #[vx] 26 := (h.fg.below h9).grown hg (fun e => absurd (fresh_ty h.fg (row_type h.row e.symm).choose_spec) (by decide))
  have hK : KR [G] (some G) A (W10.setCell ⟨G, 0, none⟩ v') := KR.appended (vx := vx) (KR.refl _ _ _) (by simp) h.fg.lt h9 ((h.fg.cell 0).trans rfl) (fun k hk => row_type h.row hk) hg fG10 hv
  refine ⟨hK, hjl, ?_, h.art.kr hK (by simpa using g2) (by simpa using g3) (by simpa using g4) (by simpa using g5), h.ml, h.wl, hK.other h.fr (by simp; omega) (by decide), hK.other h.fa (by simpa using g6) (by decide), fG10.set 0 _, ?_, ?_, h.pk, hK.other h.fw (by simpa using g7) (by decide), ?_⟩
  · rw [List.take_succ_eq_append_getElem hjl, ← h.ini]
    obtain ⟨_, e⟩ := List.getElem?_eq_some_iff.1 hz
    rw [e]
  · exact row_keep ho fun k hk => Below.heap_setCell W10 ⟨G, 0, none⟩ v' k (fun e => by
      have := (ho.lt k hk).1
      simp at e
      omega)
  · refine h.pg.same fun k hk => ?_
    obtain ⟨h1, cur, h2⟩ := h.pg.lt hk
    have hkG : k ≠ G := by rintro rfl; exact absurd (fresh_ty h.fg h2) (by decide)
    rcases hK.block k h1 (by simpa using hkG) with h3 | ⟨⟨c, v, h3, h4, h5⟩, _⟩
    · exact h3
    · cases h3
      rw [h.fg.cell 0] at h4
      cases h4
      have := (h.row.lt k h5).1
      have := h.pk k hk
      omega
  · have hT := kr_turned (S := []) hK (Turned.of_below h.low) (by omega) ((h.fg.cell 0).trans rfl) h.row h.wl
    exact Turned.below (S := []) (Below.refl _ _) hT (by simp) (Nat.le_refl _)
end
theorem wpListIn_append_by {F : Fence} {n : Nat} {P : Program} {w : World} {ops : Array Oper} {rest : List Oper} {o : Oper} {a : Act} {Q : Exit → Act → World → Prop} (hgd : o.guard = none) (s x : Operand) (t : TypeId)
    (ho : o.op = .call { callee := .builtin .append, args := #[s, x], argTypes := #[t, t] }) {vs vx v' : Value} {w' : World} (hs : a.eval s = vs) (hx : a.eval x = vx) (hr : ∀ ty, (Builtin.append_ #[t, t] ty #[vs, vx]).run P w = .ok v' w') (h : wpListIn F n P ops Q rest (a.put o.dst v') w') :
    wpListIn F n P ops Q (o :: rest) a w := by
  refine wpListIn_plain hgd fun K hK => ?_
  unfold Oper.wpIn
  refine ⟨by simp [Oper.about, ho, resolve, Target.leads, Sem.run_pure], ?_⟩
  rw [Oper.semAt_plain F _ _ (by rw [ho]; intro c hc'; cases hc')]
  simp [execOp, ho, resolve, invoke, builtin, hs, hx, hr, Result.andThen]
  exact hK _ _ h
theorem pg_end {w W7 : World} {F : Fence} {n : Nat} {a : Act} {D : Nat} (hd : a.defers = [{ target := .collected D, args := #[] }]) (h4 : a.tmps[4]? = some (.pointer (some ⟨w.heap.size, 0, none⟩)))
    (f0 : Fresh W7 w.heap.size #[.bool true] 4) (hb : Below w.heap.size w W7) (hD : W7.heap[D]? = some (.deferred (some []))) (hlt : w.heap.size < D) :
    calmQ (bodyPostM F n Try.prog Try.f5 fun e w' => e = .returned (.bool true) ∧ Below w.heap.size w w') .ret a W7 := by
  have g0 := f0.putObj (D := D) (by omega) (.deferred none)
  have q0 := g0.cell 0
  simp only [List.getElem?_toArray, List.getElem?_cons_zero] at q0
  have e4 : a.tmps.getD 4 undef = .pointer (some ⟨w.heap.size, 0, none⟩) := by simp [Array.getD_eq_getD_getElem?, h4]
  refine calm_ret1 hd hD (v := .bool true) ?_ ⟨rfl, ?_⟩
  · simp [results, Try.results5, go_sem, h4, e4, q0]
  · exact Turned.below (S := [D]) hb (Turned.put (by simp) _) (by simp; omega) hb.size
end Go.Proofs.Ytfffifmpfkkgbaa
