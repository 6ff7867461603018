/- collect: the pairs from a bound on, as long as a predicate holds, in a row of their own. -/
import Derived.Test.YtfffifmpfkkgbaaVisit
import Derived.Test.YtfffifmpfkkgbaaRef2
namespace Go.Proofs.Ytfffifmpfkkgbaa
open Go.RowKit Go.Shelf
set_option maxRecDepth 1000000
set_option maxHeartbeats 4000000

theorem app_one {W : World} {B : Nat} {vx : Value} {l : List Pr} {z : Pr} {g : Nat} (ho : W.ownsRow B 34 2 vx l.length (flatP l)) (hg : Fresh W g (prV z) 34) (hB : B ≤ W.heap.size) (hn : l.length ≤ 100000) :
    ∃ v' W', (∀ ty, (Builtin.append_ #[26, 26] ty #[vx, .slice (some ⟨g, 0, none⟩) 1 1]).run Try.prog W = .ok v' W') ∧ W'.ownsRow B 34 2 v' (l ++ [z]).length (flatP (l ++ [z])) ∧ W.grownBy W' vx.ownBlock ∧ (v'.ownBlock = vx.ownBlock ∨ v'.ownBlock = some W.heap.size) := by
  obtain ⟨i0, hi0, hz0, hzs, hzb⟩ := infoP
  have hfl : flatP (l ++ [z]) = flatP l ++ [.string z.1, .string z.2] := flatP_snoc l z
  rw [hfl, List.length_append]
  obtain ⟨v', w', h1, h2, h3, _, h4⟩ := run_append_own_at (P := Try.prog) (w := W) B 26 0 34 i0 _ 2 32 Try.underlying26 hi0 hz0 hzs hzb rfl (by omega) vx l.length (flatP l) ho ⟨g, 0, none⟩ 1 1 [.string z.1, .string z.2] rfl
      (fun j u hj => by rw [Addr.add_lit, hg.cell, Nat.zero_add]; unfold prV; simpa using hj)
      (fun u hu => by simp at hu; rcases hu with rfl | rfl <;> rfl) (by unfold maxLen; omega) (by omega) hB
  exact ⟨v', w', fun ty => h1, h2, h3, h4⟩
/-- What stands when a pair has been appended and the row stored in its box. -/
theorem KR.appended {S : List Nat} {bl : Nat} {A A1 W5 W6 : World} {vx v' : Value} (h : KR S (some bl) A A1) (hbl : bl ∈ S) (hl : bl < A.heap.size) (h5 : Below A1.heap.size A1 W5) (hc : A1.cell? ⟨bl, 0, none⟩ = some vx) (ht : ∀ k, vx.ownBlock = some k → ∃ cs, Fresh A1 k cs 34) (hg : W5.grownBy W6 vx.ownBlock) {t : TypeId} (hf6 : Fresh W6 bl #[vx] t)
    (hv : v'.ownBlock = vx.ownBlock ∨ v'.ownBlock = some W5.heap.size) : KR S (some bl) A (W6.setCell ⟨bl, 0, none⟩ v') := by
  refine h.trans ?_
  have hl1 := Nat.lt_of_lt_of_le hl h.size
  refine ⟨?_, ?_, ?_, ?_, fun k hk hn => ?_, fun k hr hk => ?_⟩
  · show W6.os = _; rw [hg.os, h5.os]
  · show W6.tape = _; rw [hg.tape, h5.tape]
  · show W6.output = _; rw [hg.output, h5.output]
  · rw [World.size_setCell]; exact Nat.le_trans h5.size hg.size
  · have hkb : k ≠ bl := fun e => hn (e ▸ hbl)
    rw [Below.heap_setCell W6 ⟨bl, 0, none⟩ v' k hkb]
    by_cases hro : vx.ownBlock = some k
    · exact .inr ⟨⟨bl, vx, rfl, hc, hro⟩, ht k hro⟩
    · left
      rw [hg.block k (Nat.lt_of_lt_of_le hk h5.size) (fun e => hro e.symm), h5.block k hk]
  · obtain ⟨c, v, h1, h2, h3⟩ := hr
    cases h1
    have hfx : (W6.setCell ⟨bl, 0, none⟩ v').cell? ⟨bl, 0, none⟩ = some v' := by
      rw [(hf6.set 0 v').cell 0]; rfl
    rw [hfx] at h2
    cases h2
    rcases hv with hv | hv
    · left; exact ⟨bl, vx, rfl, hc, hv ▸ h3⟩
    · rw [hv] at h3
      cases h3
      have := h5.size
      omega
/-- collect's own function. -/
theorem collect1_any {A : World} {bis bl C fi : Nat} {capi : Array Value} {vx : Value} {xs : List Pr} {z : Pr} {r : Bool} {Si : List Nat} {IsN : World → Prop} (hfi : ∀ args w, (callFunc fi args).run Try.prog w = .ok (.enter fi args) w)
    (h1 : Fresh A bis #[.func (.func fi) #[] capi] 80) (h2 : Fresh A bl #[vx] 26) (h3 : A.ownsRow C 34 2 vx xs.length (flatP xs)) (hC : C ≤ A.heap.size) (hn : xs.length ≤ 100000) (hSi : ∀ k ∈ Si, k < C ∧ k ≠ bl ∧ k ≠ bis) (hbl : bl < C)
    (his : ∀ B, Below A.heap.size A B → Calls Try.prog fi (#[pairV z] ++ capi) B fun e B' => e = .returned (.bool r) ∧ Turned Si B B' ∧ IsN B')
    (hkeep : ∀ X Y : World, (∀ k ∈ Si, Y.heap[k]? = X.heap[k]?) → IsN X → IsN Y) :
    Calls Try.prog 52 #[pairV z, .pointer (some ⟨bis, 0, none⟩), .pointer (some ⟨bl, 0, none⟩)] A fun e B => KR (bl :: Si) (some bl) A B ∧ IsN B ∧ e = .returned (.bool r) ∧ ∃ v', Fresh B bl #[v'] 26 ∧ B.ownsRow C 34 2 v' (xs ++ (if r = true then [z] else [])).length (flatP (xs ++ (if r = true then [z] else []))) := by
  obtain ⟨zk, zv⟩ := z
  obtain ⟨W1, hW1⟩ : ∃ W1, W1 = A.alloc (.cells #[.string zk, .string zv] 34) := ⟨_, rfl⟩
  have b1 : Below A.heap.size A W1 := by rw [hW1]; exact Below.new (Below.refl _ _) _
  have fz : Fresh W1 A.heap.size #[.string zk, .string zv] 34 := by rw [hW1]; exact Fresh.new _ _ _ _ rfl
  have HI := Lib.hid (his W1 b1)
  have g1 := (h1.below b1).cell 0
  have z0 := fz.cell 0
  have z1 := fz.cell 1
  simp only [List.getElem?_toArray, List.getElem?_cons_zero, List.getElem?_cons_succ] at g1 z0 z1
  have HW1 := Lib.hid hW1
  have H := Lib.hid (And.intro b1 (And.intro (h2.below b1) (And.intro fz (h1.below b1))))
  have HA := Lib.hid (And.intro h1.lt h2)
  have H3 := Lib.hid (And.intro h3 (And.intro hC (And.intro hn (And.intro hSi hbl))))
  have HK := Lib.hid hkeep
  clear h1 h2 h3 hC hn hSi hbl his hkeep hW1 b1 fz
  unfold pairV at HI ⊢
  dsimp only at HI ⊢
  have KR1 : Hid (∀ w2, Turned Si W1 w2 → KR (bl :: Si) (some bl) A w2 ∧ Fresh w2 bl #[vx] 26 ∧ w2.ownsRow C 34 2 vx xs.length (flatP xs) ∧ Fresh w2 A.heap.size #[.string zk, .string zv] 34 ∧ A.heap.size < w2.heap.size) := by
    intro w2 ht
    have hsi := H3.out.2.2.2.1
    have hT : Turned Si A w2 := (Turned.of_below H.out.1).trans ht
    have hb : bl ∉ Si := fun h => (hsi _ h).2.1 rfl
    refine ⟨(KR.of_turned hT (fun c hc => ?_)).wide (fun k hk => List.mem_cons_of_mem _ hk), hT.other HA.out.2 hb, row_keep H3.out.1 fun k hk => hT.block k (H3.out.1.lt k hk).2 (fun h => ?_), ht.other H.out.2.2.1 (fun h => ?_), Nat.lt_of_lt_of_le H.out.2.2.1.lt ht.size⟩
    · cases hc
      exact ⟨HA.out.2.lt, hb⟩
    · have := (hsi k h).1
      have := (H3.out.1.lt k hk).1
      omega
    · have := (hsi _ h).1
      have := H3.out.2.1
      omega
  cases r
  · go_enter Try.func52, Try.ntmps52
    go_upto_region 1 with fail
    rw [← HW1.out]
    go_wp2_with (refine HI.out.mono ?_; rintro e2 w2 ⟨rfl, ht2, hi2⟩; have H2 := Lib.hid (And.intro hi2 (KR1.out w2 ht2)); clear ht2 hi2)
    go_ret
    exact ⟨H2.out.2.1, H2.out.1, rfl, vx, H2.out.2.2.1, by simpa using H2.out.2.2.2.1⟩
  · go_enter Try.func52, Try.ntmps52
    go_upto_region 1 with fail
    rw [← HW1.out]
    have hvx := row_form H3.out.1
    obtain ⟨av, cv, hvx⟩ := hvx
    subst hvx
    go_wp2_with (first
      | (refine HI.out.mono ?_; rintro e2 w2 ⟨rfl, ht2, hi2⟩; obtain ⟨y1, y2, y3, y4, y5⟩ := KR1.out w2 ht2; have x0 := y2.cell 0; have x1 := y2.thawed 0; have x2 := y4.cell 0; have x3 := y4.cell 1; simp only [List.getElem?_toArray, List.getElem?_cons_zero, List.getElem?_cons_succ] at x0 x2 x3; have B5 := Below.new (Below.refl w2.heap.size w2) (.cells #[.string zk, .string zv] 34); obtain ⟨v5, W5, r5, o5, g5, v5b⟩ := app_one (z := (zk, zv)) (row_keep y3 fun k hk => B5.block k (y3.lt k hk).2) (Fresh.new w2 w2.heap.size #[.string zk, .string zv] 34 rfl) (by have := H3.out.2.1; simp; omega) H3.out.2.2.1; obtain ⟨a5, c5, rfl⟩ := row_form o5; have f5 : Fresh W5 bl #[.slice av xs.length cv] 26 := (y2.below B5).grown g5 (fun e => absurd (fresh_ty y2 (row_type y3 e.symm).choose_spec) (by decide)); have p0 := f5.cell 0; have p1 := f5.thawed 0; have H2 := Lib.hid (And.intro hi2 (And.intro y1 (And.intro y2 (And.intro y3 (And.intro B5 (And.intro o5 (And.intro g5 (And.intro v5b f5)))))))); clear ht2 hi2 y1 y2 y3 y4 y5 o5 g5 v5b f5 B5)
      | (at_builtin; refine Lib.wpList_append_run _ rfl _ _ _ _ rfl _ _ rfl rfl _ _ (r5 _) ?_; clear r5))
    go_ret
    obtain ⟨k1, k2, k3, k4, k5, k6, k7, k8, k9⟩ := H2.out
    have hsi := H3.out.2.2.2.1
    have hbs : bl ∉ Si := fun h => (hsi _ h).2.1 rfl
    have hT6 : ∀ k ∈ Si, (W5.setCell ⟨bl, 0, none⟩ (.slice a5 (xs.length + 1) c5)).heap[k]? = w2.heap[k]? := by
      intro k hk
      have hkl : k < w2.heap.size := by
        have := (hsi k hk).1
        have := H3.out.2.1
        have := k2.size
        omega
      rw [Below.heap_setCell W5 ⟨bl, 0, none⟩ _ k (fun e => (hsi k hk).2.1 e), k7.block k (Nat.lt_of_lt_of_le hkl k5.size) (fun e => ?_), k5.block k hkl]
      have := (k4.lt k e.symm).1
      have := (hsi k hk).1
      omega
    have hl : (xs ++ [(zk, zv)]).length = xs.length + 1 := by simp
    rw [hl] at k6 k8
    refine ⟨KR.appended (vx := .slice av xs.length cv) k2 (by simp) HA.out.2.lt k5 ((k3.cell 0).trans rfl) (fun k hk => row_type k4 hk) k7 k9 k8, HK.out w2 _ hT6 k1, rfl, .slice a5 (xs.length + 1) c5, k9.set 0 _, ?_⟩
    have o6 := row_keep k6 (W' := W5.setCell ⟨bl, 0, none⟩ (.slice a5 (xs.length + 1) c5)) fun k hk => Below.heap_setCell W5 ⟨bl, 0, none⟩ _ k (fun e => ?_)
    · simpa using o6
    · have := (k6.lt k hk).1
      have := H3.out.2.2.2.2
      simp at e
      omega
end Go.Proofs.Ytfffifmpfkkgbaa
