/- WalkGoes: the steps of a round. -/
import Derived.Test.YtfffifmpfkkgbaaGoS
namespace Go.Proofs.Ytfffifmpfkkgbaa
open Go.RowKit Go.Shelf
set_option maxRecDepth 1000000
set_option maxHeartbeats 4000000

theorem ArtAt.e_ne {W : World} {p q e m k : Nat} {l : List Pr} {cs : Array Value} {t : TypeId} (h : ArtAt W p q e m l) (hf : Fresh W k cs t) (ht : t ≠ 9) (hq : q ≠ k) : e ≠ k := by
  obtain ⟨u, hs⟩ := h.st
  rcases hs.key.ety with h1 | ⟨c2, h1⟩
  · rw [h1]; exact hq
  · rintro rfl; exact ht (fresh_ty hf h1)
structure GoZ (w : World) (p q m C1 C4 bw : Nat) : Prop where
  h1 : w.heap.size + 1 < C1
  h2 : C1 < C4
  h3 : C4 + 3 ≤ bw
  hp : p < C1 ∧ w.heap.size + 1 < p
  hq : q < C1 ∧ w.heap.size + 1 < q
  hm : m < C1 ∧ w.heap.size + 1 < m
structure GoH (w : World) (ds : Nat → Dd) (N : Nat) (l0 : List Pr) (p q e m C1 C4 bw : Nat) (dv v : Value) (j : Nat) (ku : ByteArray) (L : List Pr) (A : World) : Prop where
  two : Two w A p q e m v L
  fm : Fresh A C4 #[v] 28
  ne : e ≠ C4 + 1
  fa : Fresh A C1 #[.pointer (some ⟨p, 0, none⟩)] 24
  fd : Fresh A w.heap.size #[dv] 22
  bb : Fresh A (C4 + 1) #[.string ku] 9
  nb : Fresh A (C4 + 2) #[.int .i64 (j : Int)] 3
  fr : Fresh A (w.heap.size + 1) #[.bool false] 4
  fw : Fresh A bw #[.pointer (some ⟨p, 0, none⟩)] 74
section
variable {w W : World} {b0 : ByteArray} {ds : Nat → Dd} {N : Nat} {l0 : List Pr} {p q e m C1 C4 bw : Nat} {dv v : Value} {pre : List Pr} {A B : World} {ku : ByteArray} {L : List Pr} {j : Nat}
/-- The next bound is stored. -/
theorem GoG.bound (h : GoG w W b0 ds N l0 p q m C1 w.heap.size C4 (C4 + 1) (C4 + 2) (w.heap.size + 1) bw dv pre A) (hz : GoZ w p q m C1 C4 bw) (ku : ByteArray) :
    KT [C4 + 1] A (A.setCell ⟨C4 + 1, 0, none⟩ (.string ku)) ∧ ∃ e v, GoH w ds N l0 p q e m C1 C4 bw dv v pre.length ku (LL ds N l0 pre.length) (A.setCell ⟨C4 + 1, 0, none⟩ (.string ku)) := by
  obtain ⟨e, v, h1, h2, h3⟩ := h.two
  obtain ⟨z1, z2, z3, z4, z5, z6⟩ := hz
  refine ⟨KT.of_turned ((Turned.refl _ _).setCell (.inl (by simp)) _ _), e, v, h1.set h.bb (by decide) (by omega) ⟨by omega, by omega, h3, by omega⟩, h2.other (by omega) 0 _, h3, h.fa.other (by omega) 0 _, h.fd.other (by omega) 0 _, h.bb.set 0 _, h.nb.other (by omega) 0 _, h.fr.other (by omega) 0 _, h.fw.other (by omega) 0 _⟩
theorem GoH.below (h : GoH w ds N l0 p q e m C1 C4 bw dv v j ku L A) (hb : Below A.heap.size A B) : GoH w ds N l0 p q e m C1 C4 bw dv v j ku L B :=
  ⟨h.two.below hb, h.fm.below hb, h.ne, h.fa.below hb, h.fd.below hb, h.bb.below hb, h.nb.below hb, h.fr.below hb, h.fw.below hb⟩
/-- An operation on both. -/
theorem GoH.both (h : GoH w ds N l0 p q e m C1 C4 bw dv v j ku L A) (hz : GoZ w p q m C1 C4 bw) {e2 : Nat} {v2 : Value} {L2 : List Pr} (h2 : Two w B p q e2 m v2 L2) (he : e2 = e ∨ A.heap.size ≤ e2) (hT : Turned [q, e, m] A B) :
    Fresh B C4 #[v] 28 ∧ KT [q, m, C4] A (B.setCell ⟨C4, 0, none⟩ v2) ∧ GoH w ds N l0 p q e2 m C1 C4 bw dv v2 j ku L2 (B.setCell ⟨C4, 0, none⟩ v2) := by
  obtain ⟨z1, z2, z3, z4, z5, z6⟩ := hz
  have hn : ∀ {k : Nat} {cs : Array Value} {t : TypeId}, Fresh A k cs t → t ≠ 9 → k ≠ q → k ≠ m → Fresh B k cs t := fun {k cs t} hf ht h1 h2 => hT.other hf (by
    simp only [List.mem_cons, List.not_mem_nil, or_false, not_or]
    exact ⟨h1, (h.two.art.e_ne hf ht (Ne.symm h1)).symm, h2⟩)
  have fm := hn h.fm (by decide) (by omega) (by omega)
  have fa := hn h.fa (by decide) (by omega) (by omega)
  have fd := hn h.fd (by decide) (by omega) (by omega)
  have nb := hn h.nb (by decide) (by omega) (by omega)
  have fr := hn h.fr (by decide) (by omega) (by omega)
  have fw := hn h.fw (by decide) (by omega) (by omega)
  have bb : Fresh B (C4 + 1) #[.string ku] 9 := hT.other h.bb (by
    simp only [List.mem_cons, List.not_mem_nil, or_false, not_or]
    exact ⟨by omega, h.ne.symm, by omega⟩)
  have hb := h.bb.lt
  refine ⟨fm, ((KT.of_both hT h.two.art).wide (by simp)).trans (KT.of_turned ((Turned.refl _ _).setCell (.inl (by simp)) _ _)), h2.set fm (by decide) (by omega) (h2.art.not_box fm), fm.set 0 _, ?_, fa.other (by omega) 0 _, fd.other (by omega) 0 _, bb.other (by omega) 0 _, nb.other (by omega) 0 _, fr.other (by omega) 0 _, fw.other (by omega) 0 _⟩
  rcases he with he | he
  · rw [he]; exact h.ne
  · omega
/-- The number is counted. -/
theorem GoH.tick {z : Pr} (hk : zup z.1 = ku) (h : GoH w ds N l0 p q e m C1 C4 bw dv v pre.length ku L A) (hz : GoZ w p q m C1 C4 bw) (hL : L = LL ds N l0 (pre.length + 1)) (hs : SrtP l0) (hnx : nextP (bdOf b0 pre) (LL ds N l0 pre.length) = some z) (hc : pre.length + gMu ds N l0 pre.length (bdOf b0 pre) ≤ 200) :
    KT [C4 + 2] A (A.setCell ⟨C4 + 2, 0, none⟩ (.int .i64 ((pre.length : Int) + 1))) ∧ GoG w W b0 ds N l0 p q m C1 w.heap.size C4 (C4 + 1) (C4 + 2) (w.heap.size + 1) bw dv (pre ++ [z]) (A.setCell ⟨C4 + 2, 0, none⟩ (.int .i64 ((pre.length : Int) + 1))) := by
  subst hk
  obtain ⟨z1, z2, z3, z4, z5, z6⟩ := hz
  have hl : (pre ++ [z]).length = pre.length + 1 := by simp
  have hlt := gMu_lt ds hs hnx
  refine ⟨KT.of_turned ((Turned.refl _ _).setCell (.inl (by simp)) _ _), ?_, ⟨e, v, ?_, h.fm.other (by omega) 0 _, h.ne⟩, h.fa.other (by omega) 0 _, h.fd.other (by omega) 0 _, ?_, ?_, h.fr.other (by omega) 0 _, h.fw.other (by omega) 0 _⟩
  · rw [hl, bdOf_snoc]
    omega
  · rw [hl, ← hL]
    exact h.two.set h.nb (by decide) (by omega) ⟨by omega, by omega, h.two.art.e_ne h.nb (by decide) (by omega), by omega⟩
  · rw [bdOf_snoc]; exact h.bb.other (by omega) 0 _
  · rw [hl]
    have := h.nb.set 0 (.int .i64 ((pre.length : Int) + 1))
    simpa using this
end
theorem goes_end {w W7 : World} {F : Fence} {n : Nat} {a : Act} {D : Nat} (hd : a.defers = [{ target := .collected D, args := #[] }]) (h4 : a.tmps[6]? = some (.pointer (some ⟨w.heap.size + 1, 0, none⟩)))
    (f0 : Fresh W7 (w.heap.size + 1) #[.bool true] 4) (hb : Below w.heap.size w W7) (hD : W7.heap[D]? = some (.deferred (some []))) (hlt : w.heap.size + 1 < D) :
    calmQ (bodyPostM F n Try.prog Try.f3 fun e w' => e = .returned (.bool true) ∧ Below w.heap.size w w') .ret a W7 := by
  have g0 := f0.putObj (D := D) (by omega) (.deferred none)
  have q0 := g0.cell 0
  simp only [List.getElem?_toArray, List.getElem?_cons_zero] at q0
  have e4 : a.tmps.getD 6 undef = .pointer (some ⟨w.heap.size + 1, 0, none⟩) := by simp [Array.getD_eq_getD_getElem?, h4]
  refine calm_ret1 hd hD (v := .bool true) ?_ ⟨rfl, ?_⟩
  · simp [results, Try.results3, go_sem, h4, e4, q0]
  · exact Turned.below (S := [D]) hb (Turned.put (by simp) _) (by simp; omega) hb.size
end Go.Proofs.Ytfffifmpfkkgbaa
