/- The reference model of a table: Gone. -/
import Derived.Test.YthhmbmeajgjhcaaRadd
namespace Go.Proofs.Ythhmbmeajgjhcaa
open Go.RowKit
set_option maxRecDepth 100000
set_option maxHeartbeats 4000000

theorem del_at {l : List Wd} {x g : Int} {j : Nat} {u : Wd} (hu : Uniq l) (hj : l[j]? = some u) (hx : u.is x g = true) : delW l x g = l.take j ++ l.drop (j + 1) := by
  induction l generalizing j with
  | nil => simp at hj
  | cons a l ih =>
    obtain ⟨h1, h2⟩ := List.pairwise_cons.1 hu
    obtain ⟨e1, e2⟩ := (is_iff u x g).1 hx
    cases j with
    | zero =>
      simp at hj
      subst hj
      show List.filter _ (a :: l) = l
      rw [List.filter_cons_of_neg (by simp [hx])]
      refine List.filter_eq_self.2 fun b hb => ?_
      have := h1 b hb
      cases hc : b.is x g with
      | false => rfl
      | true =>
        obtain ⟨f1, f2⟩ := (is_iff b x g).1 hc
        exact absurd ⟨e1.trans f1.symm, e2.trans f2.symm⟩ this
    | succ j =>
      have hj' : l[j]? = some u := by simpa using hj
      have ha : ¬ a.is x g = true := by
        intro hc
        obtain ⟨f1, f2⟩ := (is_iff a x g).1 hc
        exact h1 u (List.mem_of_getElem? hj') ⟨f1.trans e1.symm, f2.trans e2.symm⟩
      show List.filter _ (a :: l) = a :: (l.take j ++ l.drop (j + 1))
      rw [List.filter_cons_of_pos (by simp [ha])]
      congr 1
      exact ih h2 hj'
theorem row_empty (W : World) (B p : Nat) (e : TypeId) (z : Nat) (hp : W.heap.size = p) (hB : B ≤ p) : (W.alloc (.cells #[] e)).ownsRow B e z (.slice (some ⟨p, 0, none⟩) 0 0) 0 [] := by
  subst hp
  exact ⟨by simp, .inr ⟨W.heap.size, 0, #[], rfl, hB, heap_alloc_new W _, Nat.le_refl _, by unfold maxLen; omega, by simp, by simp⟩⟩
theorem row_low {W : World} {B C n z : Nat} {e : TypeId} {v : Value} {xs : List Value} (h : W.ownsRow B e z v n xs) (hC : C ≤ B) : W.ownsRow C e z v n xs := by
  obtain ⟨h1, h2⟩ := h
  refine ⟨h1, ?_⟩
  rcases h2 with h2 | ⟨g, cap, cur, h3, h4, h5⟩
  · exact .inl h2
  · exact .inr ⟨g, cap, cur, h3, Nat.le_trans hC h4, h5⟩

theorem rgone_none {W : World} {B r : Nat} {s : Lk} (h : RAt W B r s.l s.taken) (ho : ∀ u ∈ s.l, RefOk u.s u.g) (hl : s.l.length ≤ 1000000) (x g : Int) (hr : RefOk x g) (hg : getW s.l x g = none) :
    Calls Try.prog 27 #[.pointer (some ⟨r, 0, none⟩), refV x g] W fun e w' => e = .returned (.int .i64 5) ∧ Mod B r W w' ∧ RAt w' B r s.l s.taken := by
  obtain ⟨W1, hx⟩ := h.boxed x g
  have HX := Lib.hid hx
  have HW := Lib.hid hx.is
  have HA := rat_any hx.at' ho hl x g hr
  obtain ⟨r0, r1⟩ := hx.ref
  rcases at_get x g s.l with ⟨_, e2⟩ | ⟨j, u, hj, e1, e2⟩
  rotate_left
  · rw [e1] at hg; cases hg
  · rw [e2] at HA
    have HA := Lib.hid HA
    clear h hx hg hr e2 ho hl
    go_enter Try.func27, Try.ntmps27
    go_upto_region 1 with fail
    rw [← HW.out]
    go_wp2_with fail
    refine HA.out.mono ?_
    rintro e w2 ⟨rfl, hb2⟩
    have H2 := Lib.hid hb2
    clear hb2 r0 r1
    go_wp2_with fail
    go_ret
    exact ⟨rfl, Mod.of_below (Below.step HX.out.low H2.out), HX.out.at'.below H2.out⟩

/-- The model between the two halves of Gone. -/
def GoneMid (W : World) (B r : Nat) (l k : List Wd) (aW : Option Addr) (cW : Nat) (t : Int) (wx : World) : Prop :=
  Mod B r W wx ∧ (∃ v, Fresh wx r #[v, .slice aW l.length cW, .int .i64 t] TL ∧ wx.ownsRow B 33 2 v k.length (rc k)) ∧ wx.ownsRow B 35 1 (.slice aW l.length cW) l.length (wc l)

theorem gone_mid1 {W w2 w5 : World} {B r j n k cW k5 : Nat} {a5 : Option Addr} {x0 : Value} {l : List Wd} {t : Int} (hB : B ≤ W.heap.size) (h2 : Below W.heap.size W w2) (b5 : Below w2.heap.size w2 w5) (f5 : Fresh w5 r #[x0, .slice (some ⟨k, 0, none⟩) n cW, .int .i64 t] TL)
    (o5 : w5.ownsRow w2.heap.size 33 2 (.slice a5 (j + (n - (j + 1))) k5) (j + (n - (j + 1))) (rc (l.take j) ++ rc (l.drop (j + 1)))) (ow : W.ownsRow B 35 1 (.slice (some ⟨k, 0, none⟩) l.length cW) l.length (wc l)) (hn : l.length = n) (hj : j < n) :
    GoneMid W B r l (l.take j ++ l.drop (j + 1)) (some ⟨k, 0, none⟩) cW t (w5.setCell ⟨r, 0, none⟩ (.slice a5 (j + (n - (j + 1))) k5)) := by
  have hb := Below.step h2 b5
  have hlen : (l.take j ++ l.drop (j + 1)).length = j + (n - (j + 1)) := by rw [List.length_append, List.length_take, List.length_drop, hn]; omega
  refine ⟨(Mod.of_below hb).trans (Mod.set _ _ _), ⟨_, by rw [hn]; exact f5.set 0 _, ?_⟩, ?_⟩
  · rw [rc_append, hlen]
    exact row_low (row_keep o5 fun i hi => Below.heap_setCell w5 ⟨r, 0, none⟩ _ i (by rintro rfl; exact row_apart o5 f5 (by decide) hi)) (Nat.le_trans hB h2.size)
  · refine row_keep ow fun i hi => ?_
    have n1 : i ≠ r := by
      rintro rfl
      exact row_apart (row_keep ow fun k hk => hb.block k (ow.lt k hk).2) f5 (by decide) hi
    rw [Below.heap_setCell w5 ⟨r, 0, none⟩ _ i n1]
    exact hb.block i (ow.lt i hi).2

theorem gone_end {W w6 w5 : World} {B r j n k5 : Nat} {a5 : Option Addr} {x1 vR : Value} {l : List Wd} {t : Int} (hB : B ≤ W.heap.size) (hM : Mod B r W w6) (b5 : Below w6.heap.size w6 w5) (f5 : Fresh w5 r #[vR, x1, .int .i64 t] TL)
    (o5 : w5.ownsRow w6.heap.size 35 1 (.slice a5 (j + (n - (j + 1))) k5) (j + (n - (j + 1))) (wc (l.take j) ++ wc (l.drop (j + 1)))) (oR : w6.ownsRow B 33 2 vR (l.take j ++ l.drop (j + 1)).length (rc (l.take j ++ l.drop (j + 1)))) (hn : l.length = n) (hj : j < n) :
    Mod B r W (w5.setCell ⟨r, 1, none⟩ (.slice a5 (j + (n - (j + 1))) k5)) ∧ RAt (w5.setCell ⟨r, 1, none⟩ (.slice a5 (j + (n - (j + 1))) k5)) B r (l.take j ++ l.drop (j + 1)) t := by
  have hlen : (l.take j ++ l.drop (j + 1)).length = j + (n - (j + 1)) := by rw [List.length_append, List.length_take, List.length_drop, hn]; omega
  refine ⟨(hM.trans (Mod.of_below b5)).trans (Mod.set _ _ _), _, _, f5.set 1 _, ?_, ?_⟩
  · refine row_keep oR fun i hi => ?_
    have n1 : i ≠ r := by
      rintro rfl
      exact row_apart (row_keep oR fun k hk => b5.block k (oR.lt k hk).2) f5 (by decide) hi
    rw [Below.heap_setCell w5 ⟨r, 1, none⟩ _ i n1]
    exact b5.block i (oR.lt i hi).2
  · rw [wc_append, hlen]
    exact row_low (row_keep o5 fun i hi => Below.heap_setCell w5 ⟨r, 1, none⟩ _ i (by rintro rfl; exact row_apart o5 f5 (by decide) hi)) (Nat.le_trans hB hM.size)

theorem rgone_some {W : World} {B r : Nat} {s : Lk} (h : RAt W B r s.l s.taken) (hu : Uniq s.l) (hB : B ≤ W.heap.size) (ho : ∀ u ∈ s.l, RefOk u.s u.g) (hl : s.l.length ≤ 1000000) (x g : Int) (hr : RefOk x g) (t : Wd) (hg : getW s.l x g = some t) :
    Calls Try.prog 27 #[.pointer (some ⟨r, 0, none⟩), refV x g] W fun e w' => e = .returned (.int .i64 0) ∧ Mod B r W w' ∧ RAt w' B r (delW s.l x g) s.taken := by
  obtain ⟨W1, hx⟩ := h.boxed x g
  have HX := Lib.hid hx
  have HW := Lib.hid hx.is
  have HA := rat_any hx.at' ho hl x g hr
  obtain ⟨r0, r1⟩ := hx.ref
  obtain ⟨aR, cR, aW, cW, hf0, oR0, oW0⟩ := h.view
  rcases at_get x g s.l with ⟨e1, e2⟩ | ⟨j, u, hj, e1, e2⟩
  · rw [e1] at hg; cases hg
  · rw [e2] at HA
    rw [del_at hu hj ((is_iff u x g).2 (mem_get e1).2)]
    have HA := Lib.hid HA
    have hjl : j < s.l.length := (List.getElem?_eq_some_iff.1 hj).1
    obtain ⟨q, rfl, hqB, hqs, hlc, hcm, _⟩ := ref_cells oR0 j u hj
    obtain ⟨k, rfl, hkB, hks, hlw, hwm, _⟩ := word_cells oW0 j u hj
    unfold maxLen at hcm hwm
    have HF0 := Lib.hid hf0
    have HR0 := Lib.hid oR0
    have HW0 := Lib.hid oW0
    have NR : Hid (∀ W', Below W.heap.size W W' → ∀ (i : Nat) v, (rc s.l)[i]? = some v → W'.cell? ((⟨q, 0, none⟩ : Addr).add i) = some v) := fun W' hb => World.ownsRow.cells (g := q) (row_keep HR0.out fun k hk => hb.block k (HR0.out.lt k hk).2) rfl
    have NW : Hid (∀ W', Below W.heap.size W W' → ∀ (i : Nat) v, (wc s.l)[i]? = some v → W'.cell? ((⟨k, 0, none⟩ : Addr).add i) = some v) := fun W' hb => World.ownsRow.cells (g := k) (row_keep HW0.out fun k hk => hb.block k (HW0.out.lt k hk).2) rfl
    have lR1 : Hid ((rc (s.l.take j)).length = j * 2) := by show _ = _; rw [rc_length, List.length_take]; congr 1; omega
    have lR2 : Hid ((rc (s.l.drop (j + 1))).length = (s.l.length - (j + 1)) * 2) := by show _ = _; rw [rc_length, List.length_drop]
    have lW1 : Hid ((wc (s.l.take j)).length = j * 1) := by show _ = _; rw [wc_length, List.length_take]; omega
    have lW2 : Hid ((wc (s.l.drop (j + 1))).length = (s.l.length - (j + 1)) * 1) := by show _ = _; rw [wc_length, List.length_drop]; omega
    obtain ⟨n, hn⟩ : ∃ n, s.l.length = n := ⟨_, rfl⟩
    rw [hn] at hjl hlc hlw hl lR2 lW2
    have HN := Lib.hid hn
    have A1 : Hid (0 + j ≤ 2000000) := by show _ ≤ _; omega
    have A2 : Hid (j + (n - (j + 1)) ≤ 2000000) := by show _ ≤ _; omega
    have q0 : (0 : Int) ≤ (j : Int) := Int.natCast_nonneg _
    have q1 : (j : Int) < (n : Int) := by omega
    have q2 : (n : Int) ≤ (cR : Int) := by omega
    have q3 : (n : Int) ≤ (cW : Int) := by omega
    have q4 : IntKind.i64.wrap ((j : Int) + 1) = (j : Int) + 1 := IntWalk.i64_in _ (by omega)
    have q5 : (0 : Int) ≤ (j : Int) + 1 := by omega
    have q6 : ((j : Int) + 1).toNat = j + 1 := by omega
    have q7 : (j : Int) + 1 ≤ (n : Int) := by omega
    have q8 : (j : Int) ≤ (n : Int) := by omega
    have q9 : (j : Int) ≤ (cR : Int) := by omega
    have q10 : (j : Int) ≤ (cW : Int) := by omega
    have qd : decide ((j : Int) < 0) = false := decide_eq_false (by omega)
    have HJ := Lib.hid hj
    rw [hn] at hf0
    clear h hx hg hr e1 e2 ho oR0 oW0 hn hj hf0 hu
    obtain ⟨iR, jR, jR0, jR1, jR2⟩ := infoR
    obtain ⟨iW, jW, jW0, jW1, jW2⟩ := infoW
    have HJR := Lib.hid jR
    have HJW := Lib.hid jW
    clear jR jW
    go_enter Try.func27, Try.ntmps27
    go_upto_region 1 with fail
    rw [← HW.out]
    go_wp2_with fail
    refine HA.out.mono ?_
    rintro e w2 ⟨rfl, hb2⟩
    have H2 := Lib.hid (Below.step HX.out.low hb2)
    clear hb2 r0 r1 HA
    have hf := HF0.out.below H2.out
    rw [HN.out] at hf
    have c0 := hf.cell 0
    have z0 := hf.thawed 0
    simp only [List.getElem?_toArray, List.getElem?_cons_zero] at c0
    have HF2 := Lib.hid hf
    clear hf
    go_upto_region 4 with fail
    go_cut [] (fun wx => GoneMid W B r s.l (s.l.take j ++ s.l.drop (j + 1)) (some ⟨k, 0, none⟩) cW s.taken wx)
    case first =>
      as_aux_lemma =>
        obtain ⟨W3, hW3⟩ : ∃ W3, W3 = (w2.alloc (.cells #[] 33)).drew := ⟨_, rfl⟩
        have B3 : Below w2.heap.size w2 W3 := by rw [hW3]; exact (Below.new (Below.refl _ _) _).drew
        have E3 : Hid (W3.ownsRow w2.heap.size 33 2 (.slice (some ⟨w2.heap.size, 0, none⟩) 0 0) 0 []) := by show World.ownsRow _ _ _ _ _ _ _; rw [hW3]; exact row_keep (row_empty w2 w2.heap.size _ _ 2 rfl (Nat.le_refl _)) fun k hk => rfl
        have L3 := Lib.hid (Below.step H2.out B3)
        have S3 := Lib.hid B3.size
        have HB3 := Lib.hid B3
        have HE3 := Lib.hid hW3
        have ca := (HF2.out.alloc (.cells #[] 33)).cell 0
        simp only [List.getElem?_toArray, List.getElem?_cons_zero] at ca
        clear hW3 B3
        have nw1 : Hid (∀ W', Below W.heap.size W W' → ∀ (i : Nat) v, (rc (s.l.take j))[i]? = some v → W'.cell? ((⟨q, 0, none⟩ : Addr).add i) = some v) := by
          intro W' hb i v hv
          refine NR.out W' hb i v ?_
          rw [rc_take] at hv
          rw [List.getElem?_take] at hv
          split at hv
          · exact hv
          · cases hv
        obtain ⟨ad, had, nw2⟩ : ∃ ad : Addr, (if cR = j + 1 then some (⟨q, 0, none⟩ : Addr) else some ⟨q, (j + 1) * 2, none⟩) = some ad ∧ Hid (∀ W', Below W.heap.size W W' → ∀ (i : Nat) v, (rc (s.l.drop (j + 1)))[i]? = some v → W'.cell? (ad.add i) = some v) := by
          clear q4 q5 q6 qd
          by_cases hcap : cR = j + 1
          · refine ⟨⟨q, 0, none⟩, if_pos hcap, fun W' hb i v hv => ?_⟩
            have := (List.getElem?_eq_some_iff.1 hv).1
            rw [lR2.out] at this
            omega
          · refine ⟨⟨q, (j + 1) * 2, none⟩, if_neg hcap, fun W' hb i v hv => ?_⟩
            rw [rc_drop, List.getElem?_drop] at hv
            have := NR.out W' hb _ v hv
            simp only [Addr.add_lit, Nat.zero_add] at this ⊢
            exact this
        refine wp_region_held_drew (S := fun _ => True) (by kernel_rfl) ?_ (fun hHeld => ?_)
        · (try dsimp only)
          all_goals trivial
        refine wpAnyH_take (i := 0) (oi := ?_) (v := ?_) ?_ (by kernel_rfl) (by kernel_rfl) (by kernel_rfl) ?_ (Or.inl ⟨?_, ?_⟩) (by assumption) ?_
        rotate_left 2
        · simp only [List.getElem?_toArray, List.getElem?_cons_succ, List.getElem?_cons_zero] <;> rfl
        · exact fun _ _ _ h => h
        · rfl
        · (intro w hSw; (try dsimp only at hSw); go_simp; try (with_reducible rfl))
        try simp only [Act.put, List.setIfInBounds_toArray, List.set_cons_zero, List.set_cons_succ]
        refine wpAnyH_take (i := 2) (oi := ?_) (v := ?_) ?_ (by kernel_rfl) (by kernel_rfl) (by kernel_rfl) ?_ (Or.inl ⟨?_, ?_⟩) (by assumption) ?_
        rotate_left 2
        · simp only [List.getElem?_toArray, List.getElem?_cons_succ, List.getElem?_cons_zero] <;> rfl
        · exact fun _ _ _ h => h
        · rfl
        · (intro w hSw; (try dsimp only at hSw); go_simp; try (with_reducible rfl))
        try simp only [Act.put, List.setIfInBounds_toArray, List.set_cons_zero, List.set_cons_succ]
        refine wpAnyH_take (i := 3) (oi := ?_) (v := ?_) ?_ (by kernel_rfl) (by kernel_rfl) (by kernel_rfl) ?_ (Or.inl ⟨?_, ?_⟩) (by assumption) ?_
        rotate_left 2
        · simp only [List.getElem?_toArray, List.getElem?_cons_succ, List.getElem?_cons_zero] <;> rfl
        · exact fun _ _ _ h => h
        · rfl
        · (intro w hSw; (try dsimp only at hSw); go_simp; try (with_reducible rfl))
        try simp only [Act.put, List.setIfInBounds_toArray, List.set_cons_zero, List.set_cons_succ]
        refine wpAnyH_take (i := 4) (oi := ?_) (v := ?_) ?_ (by kernel_rfl) (by kernel_rfl) (by kernel_rfl) ?_ (Or.inl ⟨?_, ?_⟩) (by assumption) ?_
        rotate_left 2
        · simp only [List.getElem?_toArray, List.getElem?_cons_succ, List.getElem?_cons_zero] <;> rfl
        · exact fun _ _ _ h => h
        · rfl
        · (intro w hSw; (try dsimp only at hSw); go_simp; try (with_reducible rfl))
        try simp only [Act.put, List.setIfInBounds_toArray, List.set_cons_zero, List.set_cons_succ]
        refine wpAnyH_take (i := 6) (oi := ?_) (v := ?_) ?_ (by kernel_rfl) (by kernel_rfl) (by kernel_rfl) ?_ (Or.inl ⟨?_, ?_⟩) (by assumption) ?_
        rotate_left 2
        · simp only [List.getElem?_toArray, List.getElem?_cons_succ, List.getElem?_cons_zero] <;> rfl
        · exact fun _ _ _ h => h
        · rfl
        · (intro w hSw; (try dsimp only at hSw); go_simp; try (with_reducible rfl))
        try simp only [Act.put, List.setIfInBounds_toArray, List.set_cons_zero, List.set_cons_succ]
        refine wpAnyH_take (i := 9) (oi := ?_) (v := ?_) ?_ (by kernel_rfl) (by kernel_rfl) (by kernel_rfl) ?_ (Or.inl ⟨?_, ?_⟩) (by assumption) ?_
        rotate_left 2
        · simp only [List.getElem?_toArray, List.getElem?_cons_succ, List.getElem?_cons_zero] <;> rfl
        · exact fun _ _ _ h => h
        · rfl
        · (intro w hSw; (try dsimp only at hSw); go_simp; try (with_reducible rfl))
        try simp only [Act.put, List.setIfInBounds_toArray, List.set_cons_zero, List.set_cons_succ]
        refine wpAnyH_take (i := 10) (oi := ?_) (v := ?_) ?_ (by kernel_rfl) (by kernel_rfl) (by kernel_rfl) ?_ (Or.inl ⟨?_, ?_⟩) (by assumption) ?_
        rotate_left 2
        · simp only [List.getElem?_toArray, List.getElem?_cons_succ, List.getElem?_cons_zero] <;> rfl
        · exact fun _ _ _ h => h
        · rfl
        · (intro w hSw; (try dsimp only at hSw); go_simp; try (with_reducible rfl))
        try simp only [Act.put, List.setIfInBounds_toArray, List.set_cons_zero, List.set_cons_succ]
        refine wpAnyH_take (i := 11) (oi := ?_) (v := ?_) ?_ (by kernel_rfl) (by kernel_rfl) (by kernel_rfl) ?_ (Or.inl ⟨?_, ?_⟩) (by assumption) ?_
        rotate_left 2
        · simp only [List.getElem?_toArray, List.getElem?_cons_succ, List.getElem?_cons_zero] <;> rfl
        · exact fun _ _ _ h => h
        · rfl
        · (intro w hSw; (try dsimp only at hSw); go_simp; try (with_reducible rfl))
        try simp only [Act.put, List.setIfInBounds_toArray, List.set_cons_zero, List.set_cons_succ]
        refine wpAnyH_take (i := 13) (oi := ?_) (v := ?_) ?_ (by kernel_rfl) (by kernel_rfl) (by kernel_rfl) ?_ (Or.inl ⟨?_, ?_⟩) (by assumption) ?_
        rotate_left 2
        · simp only [List.getElem?_toArray, List.getElem?_cons_succ, List.getElem?_cons_zero] <;> rfl
        · exact fun _ _ _ h => h
        · rfl
        · (intro w hSw; (try dsimp only at hSw); go_simp; try (with_reducible rfl))
        try simp only [Act.put, List.setIfInBounds_toArray, List.set_cons_zero, List.set_cons_succ]
        refine wpAnyH_take (i := 14) (oi := ?_) (v := ?_) ?_ (by kernel_rfl) (by kernel_rfl) (by kernel_rfl) ?_ (Or.inl ⟨?_, ?_⟩) (by assumption) ?_
        rotate_left 2
        · simp only [List.getElem?_toArray, List.getElem?_cons_succ, List.getElem?_cons_zero] <;> rfl
        · exact fun _ _ _ h => h
        · rfl
        · (intro w hSw; (try dsimp only at hSw); go_simp; try (with_reducible rfl))
        try simp only [Act.put, List.setIfInBounds_toArray, List.set_cons_zero, List.set_cons_succ]
        refine wpAnyH_ready (rs := [1, 5, 12]) (by kernel_rfl) (by simp) ?_
        refine AllReadyH.cons (o := _) (by simp only [List.getElem?_toArray, List.getElem?_cons_succ, List.getElem?_cons_zero] <;> rfl) (fun K hK => ?_) ?_
        · go_simp
          refine hK.out _ _ ?_ (fun hHeld => ?_)
          · (try dsimp only)
            all_goals trivial
          clear hK K
          try simp only [Act.put, List.setIfInBounds_toArray, List.set_cons_zero, List.set_cons_succ]
          refine wpAnyH_ready (rs := [5, 12]) (by kernel_rfl) (by simp) ?_
          refine AllReadyH.cons (o := _) (by simp only [List.getElem?_toArray, List.getElem?_cons_succ, List.getElem?_cons_zero] <;> rfl) (fun K hK => ?_) ?_
          · go_simp
            refine hK.out _ _ ?_ (fun hHeld => ?_)
            · (try dsimp only)
              all_goals trivial
            clear hK K
            try simp only [Act.put, List.setIfInBounds_toArray, List.set_cons_zero, List.set_cons_succ]
            refine wpAnyH_take (i := 7) (oi := ?_) (v := ?_) ?_ (by kernel_rfl) (by kernel_rfl) (by kernel_rfl) ?_ (Or.inl ⟨?_, ?_⟩) (by assumption) ?_
            rotate_left 2
            · simp only [List.getElem?_toArray, List.getElem?_cons_succ, List.getElem?_cons_zero] <;> rfl
            · exact fun _ _ _ h => h
            · rfl
            · (intro w hSw; (try dsimp only at hSw); go_simp; try (with_reducible rfl))
            try simp only [Act.put, List.setIfInBounds_toArray, List.set_cons_zero, List.set_cons_succ]
            refine wpAnyH_ready (rs := [8, 12]) (by kernel_rfl) (by simp) ?_
            refine AllReadyH.cons (o := _) (by simp only [List.getElem?_toArray, List.getElem?_cons_succ, List.getElem?_cons_zero] <;> rfl) (fun K hK => ?_) ?_
            · rw [← HE3.out]
              refine step_appO (by rfl) (.tmp 12) (.tmp 18) 27 33 (by rfl) w2.heap.size iR (.agg #[.int .i64 0, .int .u32 0]) 2 16 Try.underlying27 HJR.out jR0 jR1 jR2 (by rfl) (by decide) (by decide) (.slice (some ⟨w2.heap.size, 0, none⟩) 0 0) 0 [] (by rfl) E3.out S3.out ⟨q, 0, none⟩ j _ _ (by rfl) lR1.out (nw1.out _ L3.out) (rc_one _) A1.out ?_
              intro v4 w4 hown4 hgr4 hat4
              rw [Nat.zero_add, List.nil_append] at hown4
              obtain ⟨a4, k4, rfl⟩ := row_form hown4
              have B4 := Lib.hid (HB3.out.grown hgr4 S3.out (fun g hg => by cases hg; exact Nat.le_refl _))
              have HO4 := Lib.hid hown4
              have c4 := (HF2.out.below B4.out).cell 0
              simp only [List.getElem?_toArray, List.getElem?_cons_zero] at c4
              clear hown4 hgr4 hat4
              refine hK.out _ _ ?_ (fun hHeld => ?_)
              · (try dsimp only)
                all_goals trivial
              clear hK K
              try simp only [Act.put, List.setIfInBounds_toArray, List.set_cons_zero, List.set_cons_succ]
              refine wpAnyH_ready (rs := [12]) (by kernel_rfl) (by simp) ?_
              refine AllReadyH.cons (o := _) (by simp only [List.getElem?_toArray, List.getElem?_cons_succ, List.getElem?_cons_zero] <;> rfl) (fun K hK => ?_) ?_
              · go_simp
                refine hK.out _ _ ?_ (fun hHeld => ?_)
                · (try dsimp only)
                  all_goals trivial
                clear hK K
                try simp only [Act.put, List.setIfInBounds_toArray, List.set_cons_zero, List.set_cons_succ]
                refine wpAnyH_take (i := 15) (oi := ?_) (v := ?_) ?_ (by kernel_rfl) (by kernel_rfl) (by kernel_rfl) ?_ (Or.inl ⟨?_, ?_⟩) (by assumption) ?_
                rotate_left 2
                · simp only [List.getElem?_toArray, List.getElem?_cons_succ, List.getElem?_cons_zero] <;> rfl
                · exact fun _ _ _ h => h
                · rfl
                · (intro w hSw; (try dsimp only at hSw); go_simp; try (with_reducible rfl))
                try simp only [Act.put, List.setIfInBounds_toArray, List.set_cons_zero, List.set_cons_succ]
                refine wpAnyH_ready (rs := [16]) (by kernel_rfl) (by simp) ?_
                refine AllReadyH.cons (o := _) (by simp only [List.getElem?_toArray, List.getElem?_cons_succ, List.getElem?_cons_zero] <;> rfl) (fun K hK => ?_) ?_
                · skip
                  refine step_appO (by rfl) (.tmp 19) (.tmp 26) 27 33 (by rfl) w2.heap.size iR (.agg #[.int .i64 0, .int .u32 0]) 2 16 Try.underlying27 HJR.out jR0 jR1 jR2 (by rfl) (by decide) (by decide) _ _ _ (by rfl) HO4.out B4.out.size ad (n - (j + 1)) _ _ (by rfl) lR2.out (nw2.out _ (Below.step H2.out B4.out)) (rc_one _) A2.out ?_
                  intro v5 w5 hown5 hgr5 hat5
                  obtain ⟨a5, k5, rfl⟩ := row_form hown5
                  have B5 := Lib.hid (B4.out.grown hgr5 B4.out.size (fun g hg => (HO4.out.lt _ hg).1))
                  have HO5 := Lib.hid hown5
                  have F5 := Lib.hid (HF2.out.below B5.out)
                  have c5 := F5.out.cell 0
                  have z5 := F5.out.thawed 0
                  simp only [List.getElem?_toArray, List.getElem?_cons_zero] at c5
                  clear hown5 hgr5 hat5
                  refine hK.out _ _ ?_ (fun hHeld => ?_)
                  · (try dsimp only)
                    all_goals trivial
                  clear hK K
                  try simp only [Act.put, List.setIfInBounds_toArray, List.set_cons_zero, List.set_cons_succ]
                  refine wpAnyH_take (i := 17) (oi := ?_) (v := ?_) ?_ (by kernel_rfl) (by kernel_rfl) (by kernel_rfl) ?_ (Or.inl ⟨?_, ?_⟩) (by assumption) ?_
                  rotate_left 2
                  · simp only [List.getElem?_toArray, List.getElem?_cons_succ, List.getElem?_cons_zero] <;> rfl
                  · exact fun _ _ _ h => h
                  · rfl
                  · (intro w hSw; (try dsimp only at hSw); go_simp; try (with_reducible rfl))
                  try simp only [Act.put, List.setIfInBounds_toArray, List.set_cons_zero, List.set_cons_succ]
                  refine wpAnyH_take (i := 18) (oi := ?_) (v := ?_) ?_ (by kernel_rfl) (by kernel_rfl) (by kernel_rfl) ?_ (Or.inl ⟨?_, ?_⟩) (by assumption) ?_
                  rotate_left 2
                  · simp only [List.getElem?_toArray, List.getElem?_cons_succ, List.getElem?_cons_zero] <;> rfl
                  · exact fun _ _ _ h => h
                  · rfl
                  · (intro w hSw; (try dsimp only at hSw); go_simp; try (with_reducible rfl))
                  try simp only [Act.put, List.setIfInBounds_toArray, List.set_cons_zero, List.set_cons_succ]
                  refine wpAnyH_ready (rs := [19]) (by kernel_rfl) (by simp) ?_
                  refine AllReadyH.cons (o := _) (by simp only [List.getElem?_toArray, List.getElem?_cons_succ, List.getElem?_cons_zero] <;> rfl) (fun K hK => ?_) ?_
                  · go_simp
                    refine hK.out _ _ ?_ (fun hHeld => ?_)
                    · (try dsimp only)
                      all_goals trivial
                    clear hK K
                    try simp only [Act.put, List.setIfInBounds_toArray, List.set_cons_zero, List.set_cons_succ]
                    refine wpAnyH_done (by kernel_rfl) ?_ _
                    go_wp2_with fail
                    go_meet
                    exact gone_mid1 hB H2.out B5.out F5.out HO5.out HW0.out HN.out hjl
                  exact AllReadyH.nil
                exact AllReadyH.nil
              exact AllReadyH.nil
            refine AllReadyH.cons (o := _) (by simp only [List.getElem?_toArray, List.getElem?_cons_succ, List.getElem?_cons_zero] <;> rfl) (fun K hK => ?_) ?_
            · go_simp
              refine hK.out _ _ ?_ (fun hHeld => ?_)
              · (try dsimp only)
                all_goals trivial
              clear hK K
              try simp only [Act.put, List.setIfInBounds_toArray, List.set_cons_zero, List.set_cons_succ]
              refine wpAnyH_take (i := 15) (oi := ?_) (v := ?_) ?_ (by kernel_rfl) (by kernel_rfl) (by kernel_rfl) ?_ (Or.inl ⟨?_, ?_⟩) (by assumption) ?_
              rotate_left 2
              · simp only [List.getElem?_toArray, List.getElem?_cons_succ, List.getElem?_cons_zero] <;> rfl
              · exact fun _ _ _ h => h
              · rfl
              · (intro w hSw; (try dsimp only at hSw); go_simp; try (with_reducible rfl))
              try simp only [Act.put, List.setIfInBounds_toArray, List.set_cons_zero, List.set_cons_succ]
              refine wpAnyH_ready (rs := [8]) (by kernel_rfl) (by simp) ?_
              refine AllReadyH.cons (o := _) (by simp only [List.getElem?_toArray, List.getElem?_cons_succ, List.getElem?_cons_zero] <;> rfl) (fun K hK => ?_) ?_
              · rw [← HE3.out]
                refine step_appO (by rfl) (.tmp 12) (.tmp 18) 27 33 (by rfl) w2.heap.size iR (.agg #[.int .i64 0, .int .u32 0]) 2 16 Try.underlying27 HJR.out jR0 jR1 jR2 (by rfl) (by decide) (by decide) (.slice (some ⟨w2.heap.size, 0, none⟩) 0 0) 0 [] (by rfl) E3.out S3.out ⟨q, 0, none⟩ j _ _ (by rfl) lR1.out (nw1.out _ L3.out) (rc_one _) A1.out ?_
                intro v4 w4 hown4 hgr4 hat4
                rw [Nat.zero_add, List.nil_append] at hown4
                obtain ⟨a4, k4, rfl⟩ := row_form hown4
                have B4 := Lib.hid (HB3.out.grown hgr4 S3.out (fun g hg => by cases hg; exact Nat.le_refl _))
                have HO4 := Lib.hid hown4
                have c4 := (HF2.out.below B4.out).cell 0
                simp only [List.getElem?_toArray, List.getElem?_cons_zero] at c4
                clear hown4 hgr4 hat4
                refine hK.out _ _ ?_ (fun hHeld => ?_)
                · (try dsimp only)
                  all_goals trivial
                clear hK K
                try simp only [Act.put, List.setIfInBounds_toArray, List.set_cons_zero, List.set_cons_succ]
                refine wpAnyH_ready (rs := [16]) (by kernel_rfl) (by simp) ?_
                refine AllReadyH.cons (o := _) (by simp only [List.getElem?_toArray, List.getElem?_cons_succ, List.getElem?_cons_zero] <;> rfl) (fun K hK => ?_) ?_
                · skip
                  refine step_appO (by rfl) (.tmp 19) (.tmp 26) 27 33 (by rfl) w2.heap.size iR (.agg #[.int .i64 0, .int .u32 0]) 2 16 Try.underlying27 HJR.out jR0 jR1 jR2 (by rfl) (by decide) (by decide) _ _ _ (by rfl) HO4.out B4.out.size ad (n - (j + 1)) _ _ (by rfl) lR2.out (nw2.out _ (Below.step H2.out B4.out)) (rc_one _) A2.out ?_
                  intro v5 w5 hown5 hgr5 hat5
                  obtain ⟨a5, k5, rfl⟩ := row_form hown5
                  have B5 := Lib.hid (B4.out.grown hgr5 B4.out.size (fun g hg => (HO4.out.lt _ hg).1))
                  have HO5 := Lib.hid hown5
                  have F5 := Lib.hid (HF2.out.below B5.out)
                  have c5 := F5.out.cell 0
                  have z5 := F5.out.thawed 0
                  simp only [List.getElem?_toArray, List.getElem?_cons_zero] at c5
                  clear hown5 hgr5 hat5
                  refine hK.out _ _ ?_ (fun hHeld => ?_)
                  · (try dsimp only)
                    all_goals trivial
                  clear hK K
                  try simp only [Act.put, List.setIfInBounds_toArray, List.set_cons_zero, List.set_cons_succ]
                  refine wpAnyH_take (i := 17) (oi := ?_) (v := ?_) ?_ (by kernel_rfl) (by kernel_rfl) (by kernel_rfl) ?_ (Or.inl ⟨?_, ?_⟩) (by assumption) ?_
                  rotate_left 2
                  · simp only [List.getElem?_toArray, List.getElem?_cons_succ, List.getElem?_cons_zero] <;> rfl
                  · exact fun _ _ _ h => h
                  · rfl
                  · (intro w hSw; (try dsimp only at hSw); go_simp; try (with_reducible rfl))
                  try simp only [Act.put, List.setIfInBounds_toArray, List.set_cons_zero, List.set_cons_succ]
                  refine wpAnyH_take (i := 18) (oi := ?_) (v := ?_) ?_ (by kernel_rfl) (by kernel_rfl) (by kernel_rfl) ?_ (Or.inl ⟨?_, ?_⟩) (by assumption) ?_
                  rotate_left 2
                  · simp only [List.getElem?_toArray, List.getElem?_cons_succ, List.getElem?_cons_zero] <;> rfl
                  · exact fun _ _ _ h => h
                  · rfl
                  · (intro w hSw; (try dsimp only at hSw); go_simp; try (with_reducible rfl))
                  try simp only [Act.put, List.setIfInBounds_toArray, List.set_cons_zero, List.set_cons_succ]
                  refine wpAnyH_ready (rs := [19]) (by kernel_rfl) (by simp) ?_
                  refine AllReadyH.cons (o := _) (by simp only [List.getElem?_toArray, List.getElem?_cons_succ, List.getElem?_cons_zero] <;> rfl) (fun K hK => ?_) ?_
                  · go_simp
                    refine hK.out _ _ ?_ (fun hHeld => ?_)
                    · (try dsimp only)
                      all_goals trivial
                    clear hK K
                    try simp only [Act.put, List.setIfInBounds_toArray, List.set_cons_zero, List.set_cons_succ]
                    refine wpAnyH_done (by kernel_rfl) ?_ _
                    go_wp2_with fail
                    go_meet
                    exact gone_mid1 hB H2.out B5.out F5.out HO5.out HW0.out HN.out hjl
                  exact AllReadyH.nil
                exact AllReadyH.nil
              exact AllReadyH.nil
            exact AllReadyH.nil
          refine AllReadyH.cons (o := _) (by simp only [List.getElem?_toArray, List.getElem?_cons_succ, List.getElem?_cons_zero] <;> rfl) (fun K hK => ?_) ?_
          · go_simp
            refine hK.out _ _ ?_ (fun hHeld => ?_)
            · (try dsimp only)
              all_goals trivial
            clear hK K
            try simp only [Act.put, List.setIfInBounds_toArray, List.set_cons_zero, List.set_cons_succ]
            refine wpAnyH_take (i := 15) (oi := ?_) (v := ?_) ?_ (by kernel_rfl) (by kernel_rfl) (by kernel_rfl) ?_ (Or.inl ⟨?_, ?_⟩) (by assumption) ?_
            rotate_left 2
            · simp only [List.getElem?_toArray, List.getElem?_cons_succ, List.getElem?_cons_zero] <;> rfl
            · exact fun _ _ _ h => h
            · rfl
            · (intro w hSw; (try dsimp only at hSw); go_simp; try (with_reducible rfl))
            try simp only [Act.put, List.setIfInBounds_toArray, List.set_cons_zero, List.set_cons_succ]
            refine wpAnyH_ready (rs := [5]) (by kernel_rfl) (by simp) ?_
            refine AllReadyH.cons (o := _) (by simp only [List.getElem?_toArray, List.getElem?_cons_succ, List.getElem?_cons_zero] <;> rfl) (fun K hK => ?_) ?_
            · go_simp
              refine hK.out _ _ ?_ (fun hHeld => ?_)
              · (try dsimp only)
                all_goals trivial
              clear hK K
              try simp only [Act.put, List.setIfInBounds_toArray, List.set_cons_zero, List.set_cons_succ]
              refine wpAnyH_take (i := 7) (oi := ?_) (v := ?_) ?_ (by kernel_rfl) (by kernel_rfl) (by kernel_rfl) ?_ (Or.inl ⟨?_, ?_⟩) (by assumption) ?_
              rotate_left 2
              · simp only [List.getElem?_toArray, List.getElem?_cons_succ, List.getElem?_cons_zero] <;> rfl
              · exact fun _ _ _ h => h
              · rfl
              · (intro w hSw; (try dsimp only at hSw); go_simp; try (with_reducible rfl))
              try simp only [Act.put, List.setIfInBounds_toArray, List.set_cons_zero, List.set_cons_succ]
              refine wpAnyH_ready (rs := [8]) (by kernel_rfl) (by simp) ?_
              refine AllReadyH.cons (o := _) (by simp only [List.getElem?_toArray, List.getElem?_cons_succ, List.getElem?_cons_zero] <;> rfl) (fun K hK => ?_) ?_
              · rw [← HE3.out]
                refine step_appO (by rfl) (.tmp 12) (.tmp 18) 27 33 (by rfl) w2.heap.size iR (.agg #[.int .i64 0, .int .u32 0]) 2 16 Try.underlying27 HJR.out jR0 jR1 jR2 (by rfl) (by decide) (by decide) (.slice (some ⟨w2.heap.size, 0, none⟩) 0 0) 0 [] (by rfl) E3.out S3.out ⟨q, 0, none⟩ j _ _ (by rfl) lR1.out (nw1.out _ L3.out) (rc_one _) A1.out ?_
                intro v4 w4 hown4 hgr4 hat4
                rw [Nat.zero_add, List.nil_append] at hown4
                obtain ⟨a4, k4, rfl⟩ := row_form hown4
                have B4 := Lib.hid (HB3.out.grown hgr4 S3.out (fun g hg => by cases hg; exact Nat.le_refl _))
                have HO4 := Lib.hid hown4
                have c4 := (HF2.out.below B4.out).cell 0
                simp only [List.getElem?_toArray, List.getElem?_cons_zero] at c4
                clear hown4 hgr4 hat4
                refine hK.out _ _ ?_ (fun hHeld => ?_)
                · (try dsimp only)
                  all_goals trivial
                clear hK K
                try simp only [Act.put, List.setIfInBounds_toArray, List.set_cons_zero, List.set_cons_succ]
                refine wpAnyH_ready (rs := [16]) (by kernel_rfl) (by simp) ?_
                refine AllReadyH.cons (o := _) (by simp only [List.getElem?_toArray, List.getElem?_cons_succ, List.getElem?_cons_zero] <;> rfl) (fun K hK => ?_) ?_
                · skip
                  refine step_appO (by rfl) (.tmp 19) (.tmp 26) 27 33 (by rfl) w2.heap.size iR (.agg #[.int .i64 0, .int .u32 0]) 2 16 Try.underlying27 HJR.out jR0 jR1 jR2 (by rfl) (by decide) (by decide) _ _ _ (by rfl) HO4.out B4.out.size ad (n - (j + 1)) _ _ (by rfl) lR2.out (nw2.out _ (Below.step H2.out B4.out)) (rc_one _) A2.out ?_
                  intro v5 w5 hown5 hgr5 hat5
                  obtain ⟨a5, k5, rfl⟩ := row_form hown5
                  have B5 := Lib.hid (B4.out.grown hgr5 B4.out.size (fun g hg => (HO4.out.lt _ hg).1))
                  have HO5 := Lib.hid hown5
                  have F5 := Lib.hid (HF2.out.below B5.out)
                  have c5 := F5.out.cell 0
                  have z5 := F5.out.thawed 0
                  simp only [List.getElem?_toArray, List.getElem?_cons_zero] at c5
                  clear hown5 hgr5 hat5
                  refine hK.out _ _ ?_ (fun hHeld => ?_)
                  · (try dsimp only)
                    all_goals trivial
                  clear hK K
                  try simp only [Act.put, List.setIfInBounds_toArray, List.set_cons_zero, List.set_cons_succ]
                  refine wpAnyH_take (i := 17) (oi := ?_) (v := ?_) ?_ (by kernel_rfl) (by kernel_rfl) (by kernel_rfl) ?_ (Or.inl ⟨?_, ?_⟩) (by assumption) ?_
                  rotate_left 2
                  · simp only [List.getElem?_toArray, List.getElem?_cons_succ, List.getElem?_cons_zero] <;> rfl
                  · exact fun _ _ _ h => h
                  · rfl
                  · (intro w hSw; (try dsimp only at hSw); go_simp; try (with_reducible rfl))
                  try simp only [Act.put, List.setIfInBounds_toArray, List.set_cons_zero, List.set_cons_succ]
                  refine wpAnyH_take (i := 18) (oi := ?_) (v := ?_) ?_ (by kernel_rfl) (by kernel_rfl) (by kernel_rfl) ?_ (Or.inl ⟨?_, ?_⟩) (by assumption) ?_
                  rotate_left 2
                  · simp only [List.getElem?_toArray, List.getElem?_cons_succ, List.getElem?_cons_zero] <;> rfl
                  · exact fun _ _ _ h => h
                  · rfl
                  · (intro w hSw; (try dsimp only at hSw); go_simp; try (with_reducible rfl))
                  try simp only [Act.put, List.setIfInBounds_toArray, List.set_cons_zero, List.set_cons_succ]
                  refine wpAnyH_ready (rs := [19]) (by kernel_rfl) (by simp) ?_
                  refine AllReadyH.cons (o := _) (by simp only [List.getElem?_toArray, List.getElem?_cons_succ, List.getElem?_cons_zero] <;> rfl) (fun K hK => ?_) ?_
                  · go_simp
                    refine hK.out _ _ ?_ (fun hHeld => ?_)
                    · (try dsimp only)
                      all_goals trivial
                    clear hK K
                    try simp only [Act.put, List.setIfInBounds_toArray, List.set_cons_zero, List.set_cons_succ]
                    refine wpAnyH_done (by kernel_rfl) ?_ _
                    go_wp2_with fail
                    go_meet
                    exact gone_mid1 hB H2.out B5.out F5.out HO5.out HW0.out HN.out hjl
                  exact AllReadyH.nil
                exact AllReadyH.nil
              exact AllReadyH.nil
            exact AllReadyH.nil
          exact AllReadyH.nil
        refine AllReadyH.cons (o := _) (by simp only [List.getElem?_toArray, List.getElem?_cons_succ, List.getElem?_cons_zero] <;> rfl) (fun K hK => ?_) ?_
        · go_simp
          refine hK.out _ _ ?_ (fun hHeld => ?_)
          · (try dsimp only)
            all_goals trivial
          clear hK K
          try simp only [Act.put, List.setIfInBounds_toArray, List.set_cons_zero, List.set_cons_succ]
          refine wpAnyH_take (i := 7) (oi := ?_) (v := ?_) ?_ (by kernel_rfl) (by kernel_rfl) (by kernel_rfl) ?_ (Or.inl ⟨?_, ?_⟩) (by assumption) ?_
          rotate_left 2
          · simp only [List.getElem?_toArray, List.getElem?_cons_succ, List.getElem?_cons_zero] <;> rfl
          · exact fun _ _ _ h => h
          · rfl
          · (intro w hSw; (try dsimp only at hSw); go_simp; try (with_reducible rfl))
          try simp only [Act.put, List.setIfInBounds_toArray, List.set_cons_zero, List.set_cons_succ]
          refine wpAnyH_ready (rs := [1, 12]) (by kernel_rfl) (by simp) ?_
          refine AllReadyH.cons (o := _) (by simp only [List.getElem?_toArray, List.getElem?_cons_succ, List.getElem?_cons_zero] <;> rfl) (fun K hK => ?_) ?_
          · go_simp
            refine hK.out _ _ ?_ (fun hHeld => ?_)
            · (try dsimp only)
              all_goals trivial
            clear hK K
            try simp only [Act.put, List.setIfInBounds_toArray, List.set_cons_zero, List.set_cons_succ]
            refine wpAnyH_ready (rs := [8, 12]) (by kernel_rfl) (by simp) ?_
            refine AllReadyH.cons (o := _) (by simp only [List.getElem?_toArray, List.getElem?_cons_succ, List.getElem?_cons_zero] <;> rfl) (fun K hK => ?_) ?_
            · rw [← HE3.out]
              refine step_appO (by rfl) (.tmp 12) (.tmp 18) 27 33 (by rfl) w2.heap.size iR (.agg #[.int .i64 0, .int .u32 0]) 2 16 Try.underlying27 HJR.out jR0 jR1 jR2 (by rfl) (by decide) (by decide) (.slice (some ⟨w2.heap.size, 0, none⟩) 0 0) 0 [] (by rfl) E3.out S3.out ⟨q, 0, none⟩ j _ _ (by rfl) lR1.out (nw1.out _ L3.out) (rc_one _) A1.out ?_
              intro v4 w4 hown4 hgr4 hat4
              rw [Nat.zero_add, List.nil_append] at hown4
              obtain ⟨a4, k4, rfl⟩ := row_form hown4
              have B4 := Lib.hid (HB3.out.grown hgr4 S3.out (fun g hg => by cases hg; exact Nat.le_refl _))
              have HO4 := Lib.hid hown4
              have c4 := (HF2.out.below B4.out).cell 0
              simp only [List.getElem?_toArray, List.getElem?_cons_zero] at c4
              clear hown4 hgr4 hat4
              refine hK.out _ _ ?_ (fun hHeld => ?_)
              · (try dsimp only)
                all_goals trivial
              clear hK K
              try simp only [Act.put, List.setIfInBounds_toArray, List.set_cons_zero, List.set_cons_succ]
              refine wpAnyH_ready (rs := [12]) (by kernel_rfl) (by simp) ?_
              refine AllReadyH.cons (o := _) (by simp only [List.getElem?_toArray, List.getElem?_cons_succ, List.getElem?_cons_zero] <;> rfl) (fun K hK => ?_) ?_
              · go_simp
                refine hK.out _ _ ?_ (fun hHeld => ?_)
                · (try dsimp only)
                  all_goals trivial
                clear hK K
                try simp only [Act.put, List.setIfInBounds_toArray, List.set_cons_zero, List.set_cons_succ]
                refine wpAnyH_take (i := 15) (oi := ?_) (v := ?_) ?_ (by kernel_rfl) (by kernel_rfl) (by kernel_rfl) ?_ (Or.inl ⟨?_, ?_⟩) (by assumption) ?_
                rotate_left 2
                · simp only [List.getElem?_toArray, List.getElem?_cons_succ, List.getElem?_cons_zero] <;> rfl
                · exact fun _ _ _ h => h
                · rfl
                · (intro w hSw; (try dsimp only at hSw); go_simp; try (with_reducible rfl))
                try simp only [Act.put, List.setIfInBounds_toArray, List.set_cons_zero, List.set_cons_succ]
                refine wpAnyH_ready (rs := [16]) (by kernel_rfl) (by simp) ?_
                refine AllReadyH.cons (o := _) (by simp only [List.getElem?_toArray, List.getElem?_cons_succ, List.getElem?_cons_zero] <;> rfl) (fun K hK => ?_) ?_
                · skip
                  refine step_appO (by rfl) (.tmp 19) (.tmp 26) 27 33 (by rfl) w2.heap.size iR (.agg #[.int .i64 0, .int .u32 0]) 2 16 Try.underlying27 HJR.out jR0 jR1 jR2 (by rfl) (by decide) (by decide) _ _ _ (by rfl) HO4.out B4.out.size ad (n - (j + 1)) _ _ (by rfl) lR2.out (nw2.out _ (Below.step H2.out B4.out)) (rc_one _) A2.out ?_
                  intro v5 w5 hown5 hgr5 hat5
                  obtain ⟨a5, k5, rfl⟩ := row_form hown5
                  have B5 := Lib.hid (B4.out.grown hgr5 B4.out.size (fun g hg => (HO4.out.lt _ hg).1))
                  have HO5 := Lib.hid hown5
                  have F5 := Lib.hid (HF2.out.below B5.out)
                  have c5 := F5.out.cell 0
                  have z5 := F5.out.thawed 0
                  simp only [List.getElem?_toArray, List.getElem?_cons_zero] at c5
                  clear hown5 hgr5 hat5
                  refine hK.out _ _ ?_ (fun hHeld => ?_)
                  · (try dsimp only)
                    all_goals trivial
                  clear hK K
                  try simp only [Act.put, List.setIfInBounds_toArray, List.set_cons_zero, List.set_cons_succ]
                  refine wpAnyH_take (i := 17) (oi := ?_) (v := ?_) ?_ (by kernel_rfl) (by kernel_rfl) (by kernel_rfl) ?_ (Or.inl ⟨?_, ?_⟩) (by assumption) ?_
                  rotate_left 2
                  · simp only [List.getElem?_toArray, List.getElem?_cons_succ, List.getElem?_cons_zero] <;> rfl
                  · exact fun _ _ _ h => h
                  · rfl
                  · (intro w hSw; (try dsimp only at hSw); go_simp; try (with_reducible rfl))
                  try simp only [Act.put, List.setIfInBounds_toArray, List.set_cons_zero, List.set_cons_succ]
                  refine wpAnyH_take (i := 18) (oi := ?_) (v := ?_) ?_ (by kernel_rfl) (by kernel_rfl) (by kernel_rfl) ?_ (Or.inl ⟨?_, ?_⟩) (by assumption) ?_
                  rotate_left 2
                  · simp only [List.getElem?_toArray, List.getElem?_cons_succ, List.getElem?_cons_zero] <;> rfl
                  · exact fun _ _ _ h => h
                  · rfl
                  · (intro w hSw; (try dsimp only at hSw); go_simp; try (with_reducible rfl))
                  try simp only [Act.put, List.setIfInBounds_toArray, List.set_cons_zero, List.set_cons_succ]
                  refine wpAnyH_ready (rs := [19]) (by kernel_rfl) (by simp) ?_
                  refine AllReadyH.cons (o := _) (by simp only [List.getElem?_toArray, List.getElem?_cons_succ, List.getElem?_cons_zero] <;> rfl) (fun K hK => ?_) ?_
                  · go_simp
                    refine hK.out _ _ ?_ (fun hHeld => ?_)
                    · (try dsimp only)
                      all_goals trivial
                    clear hK K
                    try simp only [Act.put, List.setIfInBounds_toArray, List.set_cons_zero, List.set_cons_succ]
                    refine wpAnyH_done (by kernel_rfl) ?_ _
                    go_wp2_with fail
                    go_meet
                    exact gone_mid1 hB H2.out B5.out F5.out HO5.out HW0.out HN.out hjl
                  exact AllReadyH.nil
                exact AllReadyH.nil
              exact AllReadyH.nil
            refine AllReadyH.cons (o := _) (by simp only [List.getElem?_toArray, List.getElem?_cons_succ, List.getElem?_cons_zero] <;> rfl) (fun K hK => ?_) ?_
            · go_simp
              refine hK.out _ _ ?_ (fun hHeld => ?_)
              · (try dsimp only)
                all_goals trivial
              clear hK K
              try simp only [Act.put, List.setIfInBounds_toArray, List.set_cons_zero, List.set_cons_succ]
              refine wpAnyH_take (i := 15) (oi := ?_) (v := ?_) ?_ (by kernel_rfl) (by kernel_rfl) (by kernel_rfl) ?_ (Or.inl ⟨?_, ?_⟩) (by assumption) ?_
              rotate_left 2
              · simp only [List.getElem?_toArray, List.getElem?_cons_succ, List.getElem?_cons_zero] <;> rfl
              · exact fun _ _ _ h => h
              · rfl
              · (intro w hSw; (try dsimp only at hSw); go_simp; try (with_reducible rfl))
              try simp only [Act.put, List.setIfInBounds_toArray, List.set_cons_zero, List.set_cons_succ]
              refine wpAnyH_ready (rs := [8]) (by kernel_rfl) (by simp) ?_
              refine AllReadyH.cons (o := _) (by simp only [List.getElem?_toArray, List.getElem?_cons_succ, List.getElem?_cons_zero] <;> rfl) (fun K hK => ?_) ?_
              · rw [← HE3.out]
                refine step_appO (by rfl) (.tmp 12) (.tmp 18) 27 33 (by rfl) w2.heap.size iR (.agg #[.int .i64 0, .int .u32 0]) 2 16 Try.underlying27 HJR.out jR0 jR1 jR2 (by rfl) (by decide) (by decide) (.slice (some ⟨w2.heap.size, 0, none⟩) 0 0) 0 [] (by rfl) E3.out S3.out ⟨q, 0, none⟩ j _ _ (by rfl) lR1.out (nw1.out _ L3.out) (rc_one _) A1.out ?_
                intro v4 w4 hown4 hgr4 hat4
                rw [Nat.zero_add, List.nil_append] at hown4
                obtain ⟨a4, k4, rfl⟩ := row_form hown4
                have B4 := Lib.hid (HB3.out.grown hgr4 S3.out (fun g hg => by cases hg; exact Nat.le_refl _))
                have HO4 := Lib.hid hown4
                have c4 := (HF2.out.below B4.out).cell 0
                simp only [List.getElem?_toArray, List.getElem?_cons_zero] at c4
                clear hown4 hgr4 hat4
                refine hK.out _ _ ?_ (fun hHeld => ?_)
                · (try dsimp only)
                  all_goals trivial
                clear hK K
                try simp only [Act.put, List.setIfInBounds_toArray, List.set_cons_zero, List.set_cons_succ]
                refine wpAnyH_ready (rs := [16]) (by kernel_rfl) (by simp) ?_
                refine AllReadyH.cons (o := _) (by simp only [List.getElem?_toArray, List.getElem?_cons_succ, List.getElem?_cons_zero] <;> rfl) (fun K hK => ?_) ?_
                · skip
                  refine step_appO (by rfl) (.tmp 19) (.tmp 26) 27 33 (by rfl) w2.heap.size iR (.agg #[.int .i64 0, .int .u32 0]) 2 16 Try.underlying27 HJR.out jR0 jR1 jR2 (by rfl) (by decide) (by decide) _ _ _ (by rfl) HO4.out B4.out.size ad (n - (j + 1)) _ _ (by rfl) lR2.out (nw2.out _ (Below.step H2.out B4.out)) (rc_one _) A2.out ?_
                  intro v5 w5 hown5 hgr5 hat5
                  obtain ⟨a5, k5, rfl⟩ := row_form hown5
                  have B5 := Lib.hid (B4.out.grown hgr5 B4.out.size (fun g hg => (HO4.out.lt _ hg).1))
                  have HO5 := Lib.hid hown5
                  have F5 := Lib.hid (HF2.out.below B5.out)
                  have c5 := F5.out.cell 0
                  have z5 := F5.out.thawed 0
                  simp only [List.getElem?_toArray, List.getElem?_cons_zero] at c5
                  clear hown5 hgr5 hat5
                  refine hK.out _ _ ?_ (fun hHeld => ?_)
                  · (try dsimp only)
                    all_goals trivial
                  clear hK K
                  try simp only [Act.put, List.setIfInBounds_toArray, List.set_cons_zero, List.set_cons_succ]
                  refine wpAnyH_take (i := 17) (oi := ?_) (v := ?_) ?_ (by kernel_rfl) (by kernel_rfl) (by kernel_rfl) ?_ (Or.inl ⟨?_, ?_⟩) (by assumption) ?_
                  rotate_left 2
                  · simp only [List.getElem?_toArray, List.getElem?_cons_succ, List.getElem?_cons_zero] <;> rfl
                  · exact fun _ _ _ h => h
                  · rfl
                  · (intro w hSw; (try dsimp only at hSw); go_simp; try (with_reducible rfl))
                  try simp only [Act.put, List.setIfInBounds_toArray, List.set_cons_zero, List.set_cons_succ]
                  refine wpAnyH_take (i := 18) (oi := ?_) (v := ?_) ?_ (by kernel_rfl) (by kernel_rfl) (by kernel_rfl) ?_ (Or.inl ⟨?_, ?_⟩) (by assumption) ?_
                  rotate_left 2
                  · simp only [List.getElem?_toArray, List.getElem?_cons_succ, List.getElem?_cons_zero] <;> rfl
                  · exact fun _ _ _ h => h
                  · rfl
                  · (intro w hSw; (try dsimp only at hSw); go_simp; try (with_reducible rfl))
                  try simp only [Act.put, List.setIfInBounds_toArray, List.set_cons_zero, List.set_cons_succ]
                  refine wpAnyH_ready (rs := [19]) (by kernel_rfl) (by simp) ?_
                  refine AllReadyH.cons (o := _) (by simp only [List.getElem?_toArray, List.getElem?_cons_succ, List.getElem?_cons_zero] <;> rfl) (fun K hK => ?_) ?_
                  · go_simp
                    refine hK.out _ _ ?_ (fun hHeld => ?_)
                    · (try dsimp only)
                      all_goals trivial
                    clear hK K
                    try simp only [Act.put, List.setIfInBounds_toArray, List.set_cons_zero, List.set_cons_succ]
                    refine wpAnyH_done (by kernel_rfl) ?_ _
                    go_wp2_with fail
                    go_meet
                    exact gone_mid1 hB H2.out B5.out F5.out HO5.out HW0.out HN.out hjl
                  exact AllReadyH.nil
                exact AllReadyH.nil
              exact AllReadyH.nil
            exact AllReadyH.nil
          refine AllReadyH.cons (o := _) (by simp only [List.getElem?_toArray, List.getElem?_cons_succ, List.getElem?_cons_zero] <;> rfl) (fun K hK => ?_) ?_
          · go_simp
            refine hK.out _ _ ?_ (fun hHeld => ?_)
            · (try dsimp only)
              all_goals trivial
            clear hK K
            try simp only [Act.put, List.setIfInBounds_toArray, List.set_cons_zero, List.set_cons_succ]
            refine wpAnyH_take (i := 15) (oi := ?_) (v := ?_) ?_ (by kernel_rfl) (by kernel_rfl) (by kernel_rfl) ?_ (Or.inl ⟨?_, ?_⟩) (by assumption) ?_
            rotate_left 2
            · simp only [List.getElem?_toArray, List.getElem?_cons_succ, List.getElem?_cons_zero] <;> rfl
            · exact fun _ _ _ h => h
            · rfl
            · (intro w hSw; (try dsimp only at hSw); go_simp; try (with_reducible rfl))
            try simp only [Act.put, List.setIfInBounds_toArray, List.set_cons_zero, List.set_cons_succ]
            refine wpAnyH_ready (rs := [1]) (by kernel_rfl) (by simp) ?_
            refine AllReadyH.cons (o := _) (by simp only [List.getElem?_toArray, List.getElem?_cons_succ, List.getElem?_cons_zero] <;> rfl) (fun K hK => ?_) ?_
            · go_simp
              refine hK.out _ _ ?_ (fun hHeld => ?_)
              · (try dsimp only)
                all_goals trivial
              clear hK K
              try simp only [Act.put, List.setIfInBounds_toArray, List.set_cons_zero, List.set_cons_succ]
              refine wpAnyH_ready (rs := [8]) (by kernel_rfl) (by simp) ?_
              refine AllReadyH.cons (o := _) (by simp only [List.getElem?_toArray, List.getElem?_cons_succ, List.getElem?_cons_zero] <;> rfl) (fun K hK => ?_) ?_
              · rw [← HE3.out]
                refine step_appO (by rfl) (.tmp 12) (.tmp 18) 27 33 (by rfl) w2.heap.size iR (.agg #[.int .i64 0, .int .u32 0]) 2 16 Try.underlying27 HJR.out jR0 jR1 jR2 (by rfl) (by decide) (by decide) (.slice (some ⟨w2.heap.size, 0, none⟩) 0 0) 0 [] (by rfl) E3.out S3.out ⟨q, 0, none⟩ j _ _ (by rfl) lR1.out (nw1.out _ L3.out) (rc_one _) A1.out ?_
                intro v4 w4 hown4 hgr4 hat4
                rw [Nat.zero_add, List.nil_append] at hown4
                obtain ⟨a4, k4, rfl⟩ := row_form hown4
                have B4 := Lib.hid (HB3.out.grown hgr4 S3.out (fun g hg => by cases hg; exact Nat.le_refl _))
                have HO4 := Lib.hid hown4
                have c4 := (HF2.out.below B4.out).cell 0
                simp only [List.getElem?_toArray, List.getElem?_cons_zero] at c4
                clear hown4 hgr4 hat4
                refine hK.out _ _ ?_ (fun hHeld => ?_)
                · (try dsimp only)
                  all_goals trivial
                clear hK K
                try simp only [Act.put, List.setIfInBounds_toArray, List.set_cons_zero, List.set_cons_succ]
                refine wpAnyH_ready (rs := [16]) (by kernel_rfl) (by simp) ?_
                refine AllReadyH.cons (o := _) (by simp only [List.getElem?_toArray, List.getElem?_cons_succ, List.getElem?_cons_zero] <;> rfl) (fun K hK => ?_) ?_
                · skip
                  refine step_appO (by rfl) (.tmp 19) (.tmp 26) 27 33 (by rfl) w2.heap.size iR (.agg #[.int .i64 0, .int .u32 0]) 2 16 Try.underlying27 HJR.out jR0 jR1 jR2 (by rfl) (by decide) (by decide) _ _ _ (by rfl) HO4.out B4.out.size ad (n - (j + 1)) _ _ (by rfl) lR2.out (nw2.out _ (Below.step H2.out B4.out)) (rc_one _) A2.out ?_
                  intro v5 w5 hown5 hgr5 hat5
                  obtain ⟨a5, k5, rfl⟩ := row_form hown5
                  have B5 := Lib.hid (B4.out.grown hgr5 B4.out.size (fun g hg => (HO4.out.lt _ hg).1))
                  have HO5 := Lib.hid hown5
                  have F5 := Lib.hid (HF2.out.below B5.out)
                  have c5 := F5.out.cell 0
                  have z5 := F5.out.thawed 0
                  simp only [List.getElem?_toArray, List.getElem?_cons_zero] at c5
                  clear hown5 hgr5 hat5
                  refine hK.out _ _ ?_ (fun hHeld => ?_)
                  · (try dsimp only)
                    all_goals trivial
                  clear hK K
                  try simp only [Act.put, List.setIfInBounds_toArray, List.set_cons_zero, List.set_cons_succ]
                  refine wpAnyH_take (i := 17) (oi := ?_) (v := ?_) ?_ (by kernel_rfl) (by kernel_rfl) (by kernel_rfl) ?_ (Or.inl ⟨?_, ?_⟩) (by assumption) ?_
                  rotate_left 2
                  · simp only [List.getElem?_toArray, List.getElem?_cons_succ, List.getElem?_cons_zero] <;> rfl
                  · exact fun _ _ _ h => h
                  · rfl
                  · (intro w hSw; (try dsimp only at hSw); go_simp; try (with_reducible rfl))
                  try simp only [Act.put, List.setIfInBounds_toArray, List.set_cons_zero, List.set_cons_succ]
                  refine wpAnyH_take (i := 18) (oi := ?_) (v := ?_) ?_ (by kernel_rfl) (by kernel_rfl) (by kernel_rfl) ?_ (Or.inl ⟨?_, ?_⟩) (by assumption) ?_
                  rotate_left 2
                  · simp only [List.getElem?_toArray, List.getElem?_cons_succ, List.getElem?_cons_zero] <;> rfl
                  · exact fun _ _ _ h => h
                  · rfl
                  · (intro w hSw; (try dsimp only at hSw); go_simp; try (with_reducible rfl))
                  try simp only [Act.put, List.setIfInBounds_toArray, List.set_cons_zero, List.set_cons_succ]
                  refine wpAnyH_ready (rs := [19]) (by kernel_rfl) (by simp) ?_
                  refine AllReadyH.cons (o := _) (by simp only [List.getElem?_toArray, List.getElem?_cons_succ, List.getElem?_cons_zero] <;> rfl) (fun K hK => ?_) ?_
                  · go_simp
                    refine hK.out _ _ ?_ (fun hHeld => ?_)
                    · (try dsimp only)
                      all_goals trivial
                    clear hK K
                    try simp only [Act.put, List.setIfInBounds_toArray, List.set_cons_zero, List.set_cons_succ]
                    refine wpAnyH_done (by kernel_rfl) ?_ _
                    go_wp2_with fail
                    go_meet
                    exact gone_mid1 hB H2.out B5.out F5.out HO5.out HW0.out HN.out hjl
                  exact AllReadyH.nil
                exact AllReadyH.nil
              exact AllReadyH.nil
            exact AllReadyH.nil
          exact AllReadyH.nil
        refine AllReadyH.cons (o := _) (by simp only [List.getElem?_toArray, List.getElem?_cons_succ, List.getElem?_cons_zero] <;> rfl) (fun K hK => ?_) ?_
        · go_simp
          refine hK.out _ _ ?_ (fun hHeld => ?_)
          · (try dsimp only)
            all_goals trivial
          clear hK K
          try simp only [Act.put, List.setIfInBounds_toArray, List.set_cons_zero, List.set_cons_succ]
          refine wpAnyH_take (i := 15) (oi := ?_) (v := ?_) ?_ (by kernel_rfl) (by kernel_rfl) (by kernel_rfl) ?_ (Or.inl ⟨?_, ?_⟩) (by assumption) ?_
          rotate_left 2
          · simp only [List.getElem?_toArray, List.getElem?_cons_succ, List.getElem?_cons_zero] <;> rfl
          · exact fun _ _ _ h => h
          · rfl
          · (intro w hSw; (try dsimp only at hSw); go_simp; try (with_reducible rfl))
          try simp only [Act.put, List.setIfInBounds_toArray, List.set_cons_zero, List.set_cons_succ]
          refine wpAnyH_ready (rs := [1, 5]) (by kernel_rfl) (by simp) ?_
          refine AllReadyH.cons (o := _) (by simp only [List.getElem?_toArray, List.getElem?_cons_succ, List.getElem?_cons_zero] <;> rfl) (fun K hK => ?_) ?_
          · go_simp
            refine hK.out _ _ ?_ (fun hHeld => ?_)
            · (try dsimp only)
              all_goals trivial
            clear hK K
            try simp only [Act.put, List.setIfInBounds_toArray, List.set_cons_zero, List.set_cons_succ]
            refine wpAnyH_ready (rs := [5]) (by kernel_rfl) (by simp) ?_
            refine AllReadyH.cons (o := _) (by simp only [List.getElem?_toArray, List.getElem?_cons_succ, List.getElem?_cons_zero] <;> rfl) (fun K hK => ?_) ?_
            · go_simp
              refine hK.out _ _ ?_ (fun hHeld => ?_)
              · (try dsimp only)
                all_goals trivial
              clear hK K
              try simp only [Act.put, List.setIfInBounds_toArray, List.set_cons_zero, List.set_cons_succ]
              refine wpAnyH_take (i := 7) (oi := ?_) (v := ?_) ?_ (by kernel_rfl) (by kernel_rfl) (by kernel_rfl) ?_ (Or.inl ⟨?_, ?_⟩) (by assumption) ?_
              rotate_left 2
              · simp only [List.getElem?_toArray, List.getElem?_cons_succ, List.getElem?_cons_zero] <;> rfl
              · exact fun _ _ _ h => h
              · rfl
              · (intro w hSw; (try dsimp only at hSw); go_simp; try (with_reducible rfl))
              try simp only [Act.put, List.setIfInBounds_toArray, List.set_cons_zero, List.set_cons_succ]
              refine wpAnyH_ready (rs := [8]) (by kernel_rfl) (by simp) ?_
              refine AllReadyH.cons (o := _) (by simp only [List.getElem?_toArray, List.getElem?_cons_succ, List.getElem?_cons_zero] <;> rfl) (fun K hK => ?_) ?_
              · rw [← HE3.out]
                refine step_appO (by rfl) (.tmp 12) (.tmp 18) 27 33 (by rfl) w2.heap.size iR (.agg #[.int .i64 0, .int .u32 0]) 2 16 Try.underlying27 HJR.out jR0 jR1 jR2 (by rfl) (by decide) (by decide) (.slice (some ⟨w2.heap.size, 0, none⟩) 0 0) 0 [] (by rfl) E3.out S3.out ⟨q, 0, none⟩ j _ _ (by rfl) lR1.out (nw1.out _ L3.out) (rc_one _) A1.out ?_
                intro v4 w4 hown4 hgr4 hat4
                rw [Nat.zero_add, List.nil_append] at hown4
                obtain ⟨a4, k4, rfl⟩ := row_form hown4
                have B4 := Lib.hid (HB3.out.grown hgr4 S3.out (fun g hg => by cases hg; exact Nat.le_refl _))
                have HO4 := Lib.hid hown4
                have c4 := (HF2.out.below B4.out).cell 0
                simp only [List.getElem?_toArray, List.getElem?_cons_zero] at c4
                clear hown4 hgr4 hat4
                refine hK.out _ _ ?_ (fun hHeld => ?_)
                · (try dsimp only)
                  all_goals trivial
                clear hK K
                try simp only [Act.put, List.setIfInBounds_toArray, List.set_cons_zero, List.set_cons_succ]
                refine wpAnyH_ready (rs := [16]) (by kernel_rfl) (by simp) ?_
                refine AllReadyH.cons (o := _) (by simp only [List.getElem?_toArray, List.getElem?_cons_succ, List.getElem?_cons_zero] <;> rfl) (fun K hK => ?_) ?_
                · skip
                  refine step_appO (by rfl) (.tmp 19) (.tmp 26) 27 33 (by rfl) w2.heap.size iR (.agg #[.int .i64 0, .int .u32 0]) 2 16 Try.underlying27 HJR.out jR0 jR1 jR2 (by rfl) (by decide) (by decide) _ _ _ (by rfl) HO4.out B4.out.size ad (n - (j + 1)) _ _ (by rfl) lR2.out (nw2.out _ (Below.step H2.out B4.out)) (rc_one _) A2.out ?_
                  intro v5 w5 hown5 hgr5 hat5
                  obtain ⟨a5, k5, rfl⟩ := row_form hown5
                  have B5 := Lib.hid (B4.out.grown hgr5 B4.out.size (fun g hg => (HO4.out.lt _ hg).1))
                  have HO5 := Lib.hid hown5
                  have F5 := Lib.hid (HF2.out.below B5.out)
                  have c5 := F5.out.cell 0
                  have z5 := F5.out.thawed 0
                  simp only [List.getElem?_toArray, List.getElem?_cons_zero] at c5
                  clear hown5 hgr5 hat5
                  refine hK.out _ _ ?_ (fun hHeld => ?_)
                  · (try dsimp only)
                    all_goals trivial
                  clear hK K
                  try simp only [Act.put, List.setIfInBounds_toArray, List.set_cons_zero, List.set_cons_succ]
                  refine wpAnyH_take (i := 17) (oi := ?_) (v := ?_) ?_ (by kernel_rfl) (by kernel_rfl) (by kernel_rfl) ?_ (Or.inl ⟨?_, ?_⟩) (by assumption) ?_
                  rotate_left 2
                  · simp only [List.getElem?_toArray, List.getElem?_cons_succ, List.getElem?_cons_zero] <;> rfl
                  · exact fun _ _ _ h => h
                  · rfl
                  · (intro w hSw; (try dsimp only at hSw); go_simp; try (with_reducible rfl))
                  try simp only [Act.put, List.setIfInBounds_toArray, List.set_cons_zero, List.set_cons_succ]
                  refine wpAnyH_take (i := 18) (oi := ?_) (v := ?_) ?_ (by kernel_rfl) (by kernel_rfl) (by kernel_rfl) ?_ (Or.inl ⟨?_, ?_⟩) (by assumption) ?_
                  rotate_left 2
                  · simp only [List.getElem?_toArray, List.getElem?_cons_succ, List.getElem?_cons_zero] <;> rfl
                  · exact fun _ _ _ h => h
                  · rfl
                  · (intro w hSw; (try dsimp only at hSw); go_simp; try (with_reducible rfl))
                  try simp only [Act.put, List.setIfInBounds_toArray, List.set_cons_zero, List.set_cons_succ]
                  refine wpAnyH_ready (rs := [19]) (by kernel_rfl) (by simp) ?_
                  refine AllReadyH.cons (o := _) (by simp only [List.getElem?_toArray, List.getElem?_cons_succ, List.getElem?_cons_zero] <;> rfl) (fun K hK => ?_) ?_
                  · go_simp
                    refine hK.out _ _ ?_ (fun hHeld => ?_)
                    · (try dsimp only)
                      all_goals trivial
                    clear hK K
                    try simp only [Act.put, List.setIfInBounds_toArray, List.set_cons_zero, List.set_cons_succ]
                    refine wpAnyH_done (by kernel_rfl) ?_ _
                    go_wp2_with fail
                    go_meet
                    exact gone_mid1 hB H2.out B5.out F5.out HO5.out HW0.out HN.out hjl
                  exact AllReadyH.nil
                exact AllReadyH.nil
              exact AllReadyH.nil
            exact AllReadyH.nil
          refine AllReadyH.cons (o := _) (by simp only [List.getElem?_toArray, List.getElem?_cons_succ, List.getElem?_cons_zero] <;> rfl) (fun K hK => ?_) ?_
          · go_simp
            refine hK.out _ _ ?_ (fun hHeld => ?_)
            · (try dsimp only)
              all_goals trivial
            clear hK K
            try simp only [Act.put, List.setIfInBounds_toArray, List.set_cons_zero, List.set_cons_succ]
            refine wpAnyH_take (i := 7) (oi := ?_) (v := ?_) ?_ (by kernel_rfl) (by kernel_rfl) (by kernel_rfl) ?_ (Or.inl ⟨?_, ?_⟩) (by assumption) ?_
            rotate_left 2
            · simp only [List.getElem?_toArray, List.getElem?_cons_succ, List.getElem?_cons_zero] <;> rfl
            · exact fun _ _ _ h => h
            · rfl
            · (intro w hSw; (try dsimp only at hSw); go_simp; try (with_reducible rfl))
            try simp only [Act.put, List.setIfInBounds_toArray, List.set_cons_zero, List.set_cons_succ]
            refine wpAnyH_ready (rs := [1]) (by kernel_rfl) (by simp) ?_
            refine AllReadyH.cons (o := _) (by simp only [List.getElem?_toArray, List.getElem?_cons_succ, List.getElem?_cons_zero] <;> rfl) (fun K hK => ?_) ?_
            · go_simp
              refine hK.out _ _ ?_ (fun hHeld => ?_)
              · (try dsimp only)
                all_goals trivial
              clear hK K
              try simp only [Act.put, List.setIfInBounds_toArray, List.set_cons_zero, List.set_cons_succ]
              refine wpAnyH_ready (rs := [8]) (by kernel_rfl) (by simp) ?_
              refine AllReadyH.cons (o := _) (by simp only [List.getElem?_toArray, List.getElem?_cons_succ, List.getElem?_cons_zero] <;> rfl) (fun K hK => ?_) ?_
              · rw [← HE3.out]
                refine step_appO (by rfl) (.tmp 12) (.tmp 18) 27 33 (by rfl) w2.heap.size iR (.agg #[.int .i64 0, .int .u32 0]) 2 16 Try.underlying27 HJR.out jR0 jR1 jR2 (by rfl) (by decide) (by decide) (.slice (some ⟨w2.heap.size, 0, none⟩) 0 0) 0 [] (by rfl) E3.out S3.out ⟨q, 0, none⟩ j _ _ (by rfl) lR1.out (nw1.out _ L3.out) (rc_one _) A1.out ?_
                intro v4 w4 hown4 hgr4 hat4
                rw [Nat.zero_add, List.nil_append] at hown4
                obtain ⟨a4, k4, rfl⟩ := row_form hown4
                have B4 := Lib.hid (HB3.out.grown hgr4 S3.out (fun g hg => by cases hg; exact Nat.le_refl _))
                have HO4 := Lib.hid hown4
                have c4 := (HF2.out.below B4.out).cell 0
                simp only [List.getElem?_toArray, List.getElem?_cons_zero] at c4
                clear hown4 hgr4 hat4
                refine hK.out _ _ ?_ (fun hHeld => ?_)
                · (try dsimp only)
                  all_goals trivial
                clear hK K
                try simp only [Act.put, List.setIfInBounds_toArray, List.set_cons_zero, List.set_cons_succ]
                refine wpAnyH_ready (rs := [16]) (by kernel_rfl) (by simp) ?_
                refine AllReadyH.cons (o := _) (by simp only [List.getElem?_toArray, List.getElem?_cons_succ, List.getElem?_cons_zero] <;> rfl) (fun K hK => ?_) ?_
                · skip
                  refine step_appO (by rfl) (.tmp 19) (.tmp 26) 27 33 (by rfl) w2.heap.size iR (.agg #[.int .i64 0, .int .u32 0]) 2 16 Try.underlying27 HJR.out jR0 jR1 jR2 (by rfl) (by decide) (by decide) _ _ _ (by rfl) HO4.out B4.out.size ad (n - (j + 1)) _ _ (by rfl) lR2.out (nw2.out _ (Below.step H2.out B4.out)) (rc_one _) A2.out ?_
                  intro v5 w5 hown5 hgr5 hat5
                  obtain ⟨a5, k5, rfl⟩ := row_form hown5
                  have B5 := Lib.hid (B4.out.grown hgr5 B4.out.size (fun g hg => (HO4.out.lt _ hg).1))
                  have HO5 := Lib.hid hown5
                  have F5 := Lib.hid (HF2.out.below B5.out)
                  have c5 := F5.out.cell 0
                  have z5 := F5.out.thawed 0
                  simp only [List.getElem?_toArray, List.getElem?_cons_zero] at c5
                  clear hown5 hgr5 hat5
                  refine hK.out _ _ ?_ (fun hHeld => ?_)
                  · (try dsimp only)
                    all_goals trivial
                  clear hK K
                  try simp only [Act.put, List.setIfInBounds_toArray, List.set_cons_zero, List.set_cons_succ]
                  refine wpAnyH_take (i := 17) (oi := ?_) (v := ?_) ?_ (by kernel_rfl) (by kernel_rfl) (by kernel_rfl) ?_ (Or.inl ⟨?_, ?_⟩) (by assumption) ?_
                  rotate_left 2
                  · simp only [List.getElem?_toArray, List.getElem?_cons_succ, List.getElem?_cons_zero] <;> rfl
                  · exact fun _ _ _ h => h
                  · rfl
                  · (intro w hSw; (try dsimp only at hSw); go_simp; try (with_reducible rfl))
                  try simp only [Act.put, List.setIfInBounds_toArray, List.set_cons_zero, List.set_cons_succ]
                  refine wpAnyH_take (i := 18) (oi := ?_) (v := ?_) ?_ (by kernel_rfl) (by kernel_rfl) (by kernel_rfl) ?_ (Or.inl ⟨?_, ?_⟩) (by assumption) ?_
                  rotate_left 2
                  · simp only [List.getElem?_toArray, List.getElem?_cons_succ, List.getElem?_cons_zero] <;> rfl
                  · exact fun _ _ _ h => h
                  · rfl
                  · (intro w hSw; (try dsimp only at hSw); go_simp; try (with_reducible rfl))
                  try simp only [Act.put, List.setIfInBounds_toArray, List.set_cons_zero, List.set_cons_succ]
                  refine wpAnyH_ready (rs := [19]) (by kernel_rfl) (by simp) ?_
                  refine AllReadyH.cons (o := _) (by simp only [List.getElem?_toArray, List.getElem?_cons_succ, List.getElem?_cons_zero] <;> rfl) (fun K hK => ?_) ?_
                  · go_simp
                    refine hK.out _ _ ?_ (fun hHeld => ?_)
                    · (try dsimp only)
                      all_goals trivial
                    clear hK K
                    try simp only [Act.put, List.setIfInBounds_toArray, List.set_cons_zero, List.set_cons_succ]
                    refine wpAnyH_done (by kernel_rfl) ?_ _
                    go_wp2_with fail
                    go_meet
                    exact gone_mid1 hB H2.out B5.out F5.out HO5.out HW0.out HN.out hjl
                  exact AllReadyH.nil
                exact AllReadyH.nil
              exact AllReadyH.nil
            exact AllReadyH.nil
          exact AllReadyH.nil
        exact AllReadyH.nil
    case rest =>
      clear c0 z0
      obtain ⟨hM, ⟨vR, hFc, hOR⟩, hOW⟩ := hcut
      obtain ⟨w6, hw6⟩ : ∃ W, W = wc := ⟨_, rfl⟩
      rw [← hw6] at hM hFc hOR hOW ⊢
      clear hw6 wc
      obtain ⟨aV, cV, rfl⟩ := row_form hOR
      have HM6 := Lib.hid hM
      rw [HN.out] at hFc
      have HF2 := Lib.hid hFc
      have HR6 := Lib.hid hOR
      have HW6 := Lib.hid hOW
      have c0 := hFc.cell 1
      simp only [List.getElem?_toArray, List.getElem?_cons_zero, List.getElem?_cons_succ] at c0
      clear hM hFc hOR hOW
      obtain ⟨W3, hW3⟩ : ∃ W3, W3 = (w6.alloc (.cells #[] 35)).drew := ⟨_, rfl⟩
      have B3 : Below w6.heap.size w6 W3 := by rw [hW3]; exact (Below.new (Below.refl _ _) _).drew
      have E3 : Hid (W3.ownsRow w6.heap.size 35 1 (.slice (some ⟨w6.heap.size, 0, none⟩) 0 0) 0 []) := by show World.ownsRow _ _ _ _ _ _ _; rw [hW3]; exact row_keep (row_empty w6 w6.heap.size _ _ 1 rfl (Nat.le_refl _)) fun k hk => rfl
      have S3 := Lib.hid B3.size
      have HB3 := Lib.hid B3
      have HE3 := Lib.hid hW3
      have ca := (HF2.out.alloc (.cells #[] 35)).cell 1
      simp only [List.getElem?_toArray, List.getElem?_cons_zero, List.getElem?_cons_succ] at ca
      clear hW3 B3
      have NV : Hid (∀ W', Below w6.heap.size w6 W' → ∀ (i : Nat) v, (wc s.l)[i]? = some v → W'.cell? ((⟨k, 0, none⟩ : Addr).add i) = some v) := fun W' hb => World.ownsRow.cells (g := k) (row_keep HW6.out fun k hk => hb.block k (HW6.out.lt k hk).2) rfl
      have nw1 : Hid (∀ W', Below w6.heap.size w6 W' → ∀ (i : Nat) v, (wc (s.l.take j))[i]? = some v → W'.cell? ((⟨k, 0, none⟩ : Addr).add i) = some v) := by
        intro W' hb i v hv
        refine NV.out W' hb i v ?_
        have e : wc (s.l.take j) = (wc s.l).take j := by simp [wc]
        rw [e, List.getElem?_take] at hv
        split at hv
        · exact hv
        · cases hv
      obtain ⟨ad, had, nw2⟩ : ∃ ad : Addr, (if cW = j + 1 then some (⟨k, 0, none⟩ : Addr) else some ⟨k, j + 1, none⟩) = some ad ∧ Hid (∀ W', Below w6.heap.size w6 W' → ∀ (i : Nat) v, (wc (s.l.drop (j + 1)))[i]? = some v → W'.cell? (ad.add i) = some v) := by
        clear q4 q5 q6 qd
        by_cases hcap : cW = j + 1
        · refine ⟨⟨k, 0, none⟩, if_pos hcap, fun W' hb i v hv => ?_⟩
          have := (List.getElem?_eq_some_iff.1 hv).1
          rw [lW2.out] at this
          omega
        · refine ⟨⟨k, j + 1, none⟩, if_neg hcap, fun W' hb i v hv => ?_⟩
          have e : wc (s.l.drop (j + 1)) = (wc s.l).drop (j + 1) := by simp [wc]
          rw [e, List.getElem?_drop] at hv
          have := NV.out W' hb _ v hv
          simp only [Addr.add_lit, Nat.zero_add] at this ⊢
          exact this
      go_upto_region 5 with fail
      refine wp_region_held_drew (S := fun _ => True) (by kernel_rfl) ?_ (fun hHeld => ?_)
      · (try dsimp only)
        all_goals trivial
      refine wpAnyH_take (i := 0) (oi := ?_) (v := ?_) ?_ (by kernel_rfl) (by kernel_rfl) (by kernel_rfl) ?_ (Or.inl ⟨?_, ?_⟩) (by assumption) ?_
      rotate_left 2
      · simp only [List.getElem?_toArray, List.getElem?_cons_succ, List.getElem?_cons_zero] <;> rfl
      · exact fun _ _ _ h => h
      · rfl
      · (intro w hSw; (try dsimp only at hSw); go_simp; try (with_reducible rfl))
      try simp only [Act.put, List.setIfInBounds_toArray, List.set_cons_zero, List.set_cons_succ]
      refine wpAnyH_take (i := 2) (oi := ?_) (v := ?_) ?_ (by kernel_rfl) (by kernel_rfl) (by kernel_rfl) ?_ (Or.inl ⟨?_, ?_⟩) (by assumption) ?_
      rotate_left 2
      · simp only [List.getElem?_toArray, List.getElem?_cons_succ, List.getElem?_cons_zero] <;> rfl
      · exact fun _ _ _ h => h
      · rfl
      · (intro w hSw; (try dsimp only at hSw); go_simp; try (with_reducible rfl))
      try simp only [Act.put, List.setIfInBounds_toArray, List.set_cons_zero, List.set_cons_succ]
      refine wpAnyH_take (i := 3) (oi := ?_) (v := ?_) ?_ (by kernel_rfl) (by kernel_rfl) (by kernel_rfl) ?_ (Or.inl ⟨?_, ?_⟩) (by assumption) ?_
      rotate_left 2
      · simp only [List.getElem?_toArray, List.getElem?_cons_succ, List.getElem?_cons_zero] <;> rfl
      · exact fun _ _ _ h => h
      · rfl
      · (intro w hSw; (try dsimp only at hSw); go_simp; try (with_reducible rfl))
      try simp only [Act.put, List.setIfInBounds_toArray, List.set_cons_zero, List.set_cons_succ]
      refine wpAnyH_take (i := 4) (oi := ?_) (v := ?_) ?_ (by kernel_rfl) (by kernel_rfl) (by kernel_rfl) ?_ (Or.inl ⟨?_, ?_⟩) (by assumption) ?_
      rotate_left 2
      · simp only [List.getElem?_toArray, List.getElem?_cons_succ, List.getElem?_cons_zero] <;> rfl
      · exact fun _ _ _ h => h
      · rfl
      · (intro w hSw; (try dsimp only at hSw); go_simp; try (with_reducible rfl))
      try simp only [Act.put, List.setIfInBounds_toArray, List.set_cons_zero, List.set_cons_succ]
      refine wpAnyH_take (i := 6) (oi := ?_) (v := ?_) ?_ (by kernel_rfl) (by kernel_rfl) (by kernel_rfl) ?_ (Or.inl ⟨?_, ?_⟩) (by assumption) ?_
      rotate_left 2
      · simp only [List.getElem?_toArray, List.getElem?_cons_succ, List.getElem?_cons_zero] <;> rfl
      · exact fun _ _ _ h => h
      · rfl
      · (intro w hSw; (try dsimp only at hSw); go_simp; try (with_reducible rfl))
      try simp only [Act.put, List.setIfInBounds_toArray, List.set_cons_zero, List.set_cons_succ]
      refine wpAnyH_take (i := 9) (oi := ?_) (v := ?_) ?_ (by kernel_rfl) (by kernel_rfl) (by kernel_rfl) ?_ (Or.inl ⟨?_, ?_⟩) (by assumption) ?_
      rotate_left 2
      · simp only [List.getElem?_toArray, List.getElem?_cons_succ, List.getElem?_cons_zero] <;> rfl
      · exact fun _ _ _ h => h
      · rfl
      · (intro w hSw; (try dsimp only at hSw); go_simp; try (with_reducible rfl))
      try simp only [Act.put, List.setIfInBounds_toArray, List.set_cons_zero, List.set_cons_succ]
      refine wpAnyH_take (i := 10) (oi := ?_) (v := ?_) ?_ (by kernel_rfl) (by kernel_rfl) (by kernel_rfl) ?_ (Or.inl ⟨?_, ?_⟩) (by assumption) ?_
      rotate_left 2
      · simp only [List.getElem?_toArray, List.getElem?_cons_succ, List.getElem?_cons_zero] <;> rfl
      · exact fun _ _ _ h => h
      · rfl
      · (intro w hSw; (try dsimp only at hSw); go_simp; try (with_reducible rfl))
      try simp only [Act.put, List.setIfInBounds_toArray, List.set_cons_zero, List.set_cons_succ]
      refine wpAnyH_take (i := 11) (oi := ?_) (v := ?_) ?_ (by kernel_rfl) (by kernel_rfl) (by kernel_rfl) ?_ (Or.inl ⟨?_, ?_⟩) (by assumption) ?_
      rotate_left 2
      · simp only [List.getElem?_toArray, List.getElem?_cons_succ, List.getElem?_cons_zero] <;> rfl
      · exact fun _ _ _ h => h
      · rfl
      · (intro w hSw; (try dsimp only at hSw); go_simp; try (with_reducible rfl))
      try simp only [Act.put, List.setIfInBounds_toArray, List.set_cons_zero, List.set_cons_succ]
      refine wpAnyH_take (i := 13) (oi := ?_) (v := ?_) ?_ (by kernel_rfl) (by kernel_rfl) (by kernel_rfl) ?_ (Or.inl ⟨?_, ?_⟩) (by assumption) ?_
      rotate_left 2
      · simp only [List.getElem?_toArray, List.getElem?_cons_succ, List.getElem?_cons_zero] <;> rfl
      · exact fun _ _ _ h => h
      · rfl
      · (intro w hSw; (try dsimp only at hSw); go_simp; try (with_reducible rfl))
      try simp only [Act.put, List.setIfInBounds_toArray, List.set_cons_zero, List.set_cons_succ]
      refine wpAnyH_take (i := 14) (oi := ?_) (v := ?_) ?_ (by kernel_rfl) (by kernel_rfl) (by kernel_rfl) ?_ (Or.inl ⟨?_, ?_⟩) (by assumption) ?_
      rotate_left 2
      · simp only [List.getElem?_toArray, List.getElem?_cons_succ, List.getElem?_cons_zero] <;> rfl
      · exact fun _ _ _ h => h
      · rfl
      · (intro w hSw; (try dsimp only at hSw); go_simp; try (with_reducible rfl))
      try simp only [Act.put, List.setIfInBounds_toArray, List.set_cons_zero, List.set_cons_succ]
      refine wpAnyH_ready (rs := [1, 5, 12]) (by kernel_rfl) (by simp) ?_
      refine AllReadyH.cons (o := _) (by simp only [List.getElem?_toArray, List.getElem?_cons_succ, List.getElem?_cons_zero] <;> rfl) (fun K hK => ?_) ?_
      · go_simp
        refine hK.out _ _ ?_ (fun hHeld => ?_)
        · (try dsimp only)
          all_goals trivial
        clear hK K
        try simp only [Act.put, List.setIfInBounds_toArray, List.set_cons_zero, List.set_cons_succ]
        refine wpAnyH_ready (rs := [5, 12]) (by kernel_rfl) (by simp) ?_
        refine AllReadyH.cons (o := _) (by simp only [List.getElem?_toArray, List.getElem?_cons_succ, List.getElem?_cons_zero] <;> rfl) (fun K hK => ?_) ?_
        · go_simp
          refine hK.out _ _ ?_ (fun hHeld => ?_)
          · (try dsimp only)
            all_goals trivial
          clear hK K
          try simp only [Act.put, List.setIfInBounds_toArray, List.set_cons_zero, List.set_cons_succ]
          refine wpAnyH_take (i := 7) (oi := ?_) (v := ?_) ?_ (by kernel_rfl) (by kernel_rfl) (by kernel_rfl) ?_ (Or.inl ⟨?_, ?_⟩) (by assumption) ?_
          rotate_left 2
          · simp only [List.getElem?_toArray, List.getElem?_cons_succ, List.getElem?_cons_zero] <;> rfl
          · exact fun _ _ _ h => h
          · rfl
          · (intro w hSw; (try dsimp only at hSw); go_simp; try (with_reducible rfl))
          try simp only [Act.put, List.setIfInBounds_toArray, List.set_cons_zero, List.set_cons_succ]
          refine wpAnyH_ready (rs := [8, 12]) (by kernel_rfl) (by simp) ?_
          refine AllReadyH.cons (o := _) (by simp only [List.getElem?_toArray, List.getElem?_cons_succ, List.getElem?_cons_zero] <;> rfl) (fun K hK => ?_) ?_
          · rw [← HE3.out]
            refine step_appO (by rfl) (.tmp 31) (.tmp 37) 28 35 (by rfl) w6.heap.size iW (.int .u64 0) 1 8 Try.underlying28 HJW.out jW0 jW1 jW2 (by rfl) (by decide) (by decide) (.slice (some ⟨w6.heap.size, 0, none⟩) 0 0) 0 [] (by rfl) E3.out S3.out ⟨k, 0, none⟩ j _ _ (by rfl) lW1.out (nw1.out _ HB3.out) (wc_one _) A1.out ?_
            intro v4 w4 hown4 hgr4 hat4
            rw [Nat.zero_add, List.nil_append] at hown4
            obtain ⟨a4, k4, rfl⟩ := row_form hown4
            have B4 := Lib.hid (HB3.out.grown hgr4 S3.out (fun g hg => by cases hg; exact Nat.le_refl _))
            have HO4 := Lib.hid hown4
            have c4 := (HF2.out.below B4.out).cell 1
            simp only [List.getElem?_toArray, List.getElem?_cons_zero] at c4
            clear hown4 hgr4 hat4
            refine hK.out _ _ ?_ (fun hHeld => ?_)
            · (try dsimp only)
              all_goals trivial
            clear hK K
            try simp only [Act.put, List.setIfInBounds_toArray, List.set_cons_zero, List.set_cons_succ]
            refine wpAnyH_ready (rs := [12]) (by kernel_rfl) (by simp) ?_
            refine AllReadyH.cons (o := _) (by simp only [List.getElem?_toArray, List.getElem?_cons_succ, List.getElem?_cons_zero] <;> rfl) (fun K hK => ?_) ?_
            · go_simp
              refine hK.out _ _ ?_ (fun hHeld => ?_)
              · (try dsimp only)
                all_goals trivial
              clear hK K
              try simp only [Act.put, List.setIfInBounds_toArray, List.set_cons_zero, List.set_cons_succ]
              refine wpAnyH_take (i := 15) (oi := ?_) (v := ?_) ?_ (by kernel_rfl) (by kernel_rfl) (by kernel_rfl) ?_ (Or.inl ⟨?_, ?_⟩) (by assumption) ?_
              rotate_left 2
              · simp only [List.getElem?_toArray, List.getElem?_cons_succ, List.getElem?_cons_zero] <;> rfl
              · exact fun _ _ _ h => h
              · rfl
              · (intro w hSw; (try dsimp only at hSw); go_simp; try (with_reducible rfl))
              try simp only [Act.put, List.setIfInBounds_toArray, List.set_cons_zero, List.set_cons_succ]
              refine wpAnyH_ready (rs := [16]) (by kernel_rfl) (by simp) ?_
              refine AllReadyH.cons (o := _) (by simp only [List.getElem?_toArray, List.getElem?_cons_succ, List.getElem?_cons_zero] <;> rfl) (fun K hK => ?_) ?_
              · skip
                refine step_appO (by rfl) (.tmp 38) (.tmp 45) 28 35 (by rfl) w6.heap.size iW (.int .u64 0) 1 8 Try.underlying28 HJW.out jW0 jW1 jW2 (by rfl) (by decide) (by decide) _ _ _ (by rfl) HO4.out B4.out.size ad (n - (j + 1)) _ _ (by rfl) lW2.out (nw2.out _ B4.out) (wc_one _) A2.out ?_
                intro v5 w5 hown5 hgr5 hat5
                obtain ⟨a5, k5, rfl⟩ := row_form hown5
                have B5 := Lib.hid (B4.out.grown hgr5 B4.out.size (fun g hg => (HO4.out.lt _ hg).1))
                have HO5 := Lib.hid hown5
                have F5 := Lib.hid (HF2.out.below B5.out)
                have c5 := F5.out.cell 1
                have z5 := F5.out.thawed 1
                simp only [List.getElem?_toArray, List.getElem?_cons_zero] at c5
                clear hown5 hgr5 hat5
                refine hK.out _ _ ?_ (fun hHeld => ?_)
                · (try dsimp only)
                  all_goals trivial
                clear hK K
                try simp only [Act.put, List.setIfInBounds_toArray, List.set_cons_zero, List.set_cons_succ]
                refine wpAnyH_take (i := 17) (oi := ?_) (v := ?_) ?_ (by kernel_rfl) (by kernel_rfl) (by kernel_rfl) ?_ (Or.inl ⟨?_, ?_⟩) (by assumption) ?_
                rotate_left 2
                · simp only [List.getElem?_toArray, List.getElem?_cons_succ, List.getElem?_cons_zero] <;> rfl
                · exact fun _ _ _ h => h
                · rfl
                · (intro w hSw; (try dsimp only at hSw); go_simp; try (with_reducible rfl))
                try simp only [Act.put, List.setIfInBounds_toArray, List.set_cons_zero, List.set_cons_succ]
                refine wpAnyH_take (i := 18) (oi := ?_) (v := ?_) ?_ (by kernel_rfl) (by kernel_rfl) (by kernel_rfl) ?_ (Or.inl ⟨?_, ?_⟩) (by assumption) ?_
                rotate_left 2
                · simp only [List.getElem?_toArray, List.getElem?_cons_succ, List.getElem?_cons_zero] <;> rfl
                · exact fun _ _ _ h => h
                · rfl
                · (intro w hSw; (try dsimp only at hSw); go_simp; try (with_reducible rfl))
                try simp only [Act.put, List.setIfInBounds_toArray, List.set_cons_zero, List.set_cons_succ]
                refine wpAnyH_ready (rs := [19]) (by kernel_rfl) (by simp) ?_
                refine AllReadyH.cons (o := _) (by simp only [List.getElem?_toArray, List.getElem?_cons_succ, List.getElem?_cons_zero] <;> rfl) (fun K hK => ?_) ?_
                · go_simp
                  refine hK.out _ _ ?_ (fun hHeld => ?_)
                  · (try dsimp only)
                    all_goals trivial
                  clear hK K
                  try simp only [Act.put, List.setIfInBounds_toArray, List.set_cons_zero, List.set_cons_succ]
                  refine wpAnyH_done (by kernel_rfl) ?_ _
                  go_wp2_with fail
                  go_ret
                  exact ⟨rfl, gone_end hB HM6.out B5.out F5.out HO5.out HR6.out HN.out hjl⟩
                exact AllReadyH.nil
              exact AllReadyH.nil
            exact AllReadyH.nil
          refine AllReadyH.cons (o := _) (by simp only [List.getElem?_toArray, List.getElem?_cons_succ, List.getElem?_cons_zero] <;> rfl) (fun K hK => ?_) ?_
          · go_simp
            refine hK.out _ _ ?_ (fun hHeld => ?_)
            · (try dsimp only)
              all_goals trivial
            clear hK K
            try simp only [Act.put, List.setIfInBounds_toArray, List.set_cons_zero, List.set_cons_succ]
            refine wpAnyH_take (i := 15) (oi := ?_) (v := ?_) ?_ (by kernel_rfl) (by kernel_rfl) (by kernel_rfl) ?_ (Or.inl ⟨?_, ?_⟩) (by assumption) ?_
            rotate_left 2
            · simp only [List.getElem?_toArray, List.getElem?_cons_succ, List.getElem?_cons_zero] <;> rfl
            · exact fun _ _ _ h => h
            · rfl
            · (intro w hSw; (try dsimp only at hSw); go_simp; try (with_reducible rfl))
            try simp only [Act.put, List.setIfInBounds_toArray, List.set_cons_zero, List.set_cons_succ]
            refine wpAnyH_ready (rs := [8]) (by kernel_rfl) (by simp) ?_
            refine AllReadyH.cons (o := _) (by simp only [List.getElem?_toArray, List.getElem?_cons_succ, List.getElem?_cons_zero] <;> rfl) (fun K hK => ?_) ?_
            · rw [← HE3.out]
              refine step_appO (by rfl) (.tmp 31) (.tmp 37) 28 35 (by rfl) w6.heap.size iW (.int .u64 0) 1 8 Try.underlying28 HJW.out jW0 jW1 jW2 (by rfl) (by decide) (by decide) (.slice (some ⟨w6.heap.size, 0, none⟩) 0 0) 0 [] (by rfl) E3.out S3.out ⟨k, 0, none⟩ j _ _ (by rfl) lW1.out (nw1.out _ HB3.out) (wc_one _) A1.out ?_
              intro v4 w4 hown4 hgr4 hat4
              rw [Nat.zero_add, List.nil_append] at hown4
              obtain ⟨a4, k4, rfl⟩ := row_form hown4
              have B4 := Lib.hid (HB3.out.grown hgr4 S3.out (fun g hg => by cases hg; exact Nat.le_refl _))
              have HO4 := Lib.hid hown4
              have c4 := (HF2.out.below B4.out).cell 1
              simp only [List.getElem?_toArray, List.getElem?_cons_zero] at c4
              clear hown4 hgr4 hat4
              refine hK.out _ _ ?_ (fun hHeld => ?_)
              · (try dsimp only)
                all_goals trivial
              clear hK K
              try simp only [Act.put, List.setIfInBounds_toArray, List.set_cons_zero, List.set_cons_succ]
              refine wpAnyH_ready (rs := [16]) (by kernel_rfl) (by simp) ?_
              refine AllReadyH.cons (o := _) (by simp only [List.getElem?_toArray, List.getElem?_cons_succ, List.getElem?_cons_zero] <;> rfl) (fun K hK => ?_) ?_
              · skip
                refine step_appO (by rfl) (.tmp 38) (.tmp 45) 28 35 (by rfl) w6.heap.size iW (.int .u64 0) 1 8 Try.underlying28 HJW.out jW0 jW1 jW2 (by rfl) (by decide) (by decide) _ _ _ (by rfl) HO4.out B4.out.size ad (n - (j + 1)) _ _ (by rfl) lW2.out (nw2.out _ B4.out) (wc_one _) A2.out ?_
                intro v5 w5 hown5 hgr5 hat5
                obtain ⟨a5, k5, rfl⟩ := row_form hown5
                have B5 := Lib.hid (B4.out.grown hgr5 B4.out.size (fun g hg => (HO4.out.lt _ hg).1))
                have HO5 := Lib.hid hown5
                have F5 := Lib.hid (HF2.out.below B5.out)
                have c5 := F5.out.cell 1
                have z5 := F5.out.thawed 1
                simp only [List.getElem?_toArray, List.getElem?_cons_zero] at c5
                clear hown5 hgr5 hat5
                refine hK.out _ _ ?_ (fun hHeld => ?_)
                · (try dsimp only)
                  all_goals trivial
                clear hK K
                try simp only [Act.put, List.setIfInBounds_toArray, List.set_cons_zero, List.set_cons_succ]
                refine wpAnyH_take (i := 17) (oi := ?_) (v := ?_) ?_ (by kernel_rfl) (by kernel_rfl) (by kernel_rfl) ?_ (Or.inl ⟨?_, ?_⟩) (by assumption) ?_
                rotate_left 2
                · simp only [List.getElem?_toArray, List.getElem?_cons_succ, List.getElem?_cons_zero] <;> rfl
                · exact fun _ _ _ h => h
                · rfl
                · (intro w hSw; (try dsimp only at hSw); go_simp; try (with_reducible rfl))
                try simp only [Act.put, List.setIfInBounds_toArray, List.set_cons_zero, List.set_cons_succ]
                refine wpAnyH_take (i := 18) (oi := ?_) (v := ?_) ?_ (by kernel_rfl) (by kernel_rfl) (by kernel_rfl) ?_ (Or.inl ⟨?_, ?_⟩) (by assumption) ?_
                rotate_left 2
                · simp only [List.getElem?_toArray, List.getElem?_cons_succ, List.getElem?_cons_zero] <;> rfl
                · exact fun _ _ _ h => h
                · rfl
                · (intro w hSw; (try dsimp only at hSw); go_simp; try (with_reducible rfl))
                try simp only [Act.put, List.setIfInBounds_toArray, List.set_cons_zero, List.set_cons_succ]
                refine wpAnyH_ready (rs := [19]) (by kernel_rfl) (by simp) ?_
                refine AllReadyH.cons (o := _) (by simp only [List.getElem?_toArray, List.getElem?_cons_succ, List.getElem?_cons_zero] <;> rfl) (fun K hK => ?_) ?_
                · go_simp
                  refine hK.out _ _ ?_ (fun hHeld => ?_)
                  · (try dsimp only)
                    all_goals trivial
                  clear hK K
                  try simp only [Act.put, List.setIfInBounds_toArray, List.set_cons_zero, List.set_cons_succ]
                  refine wpAnyH_done (by kernel_rfl) ?_ _
                  go_wp2_with fail
                  go_ret
                  exact ⟨rfl, gone_end hB HM6.out B5.out F5.out HO5.out HR6.out HN.out hjl⟩
                exact AllReadyH.nil
              exact AllReadyH.nil
            exact AllReadyH.nil
          exact AllReadyH.nil
        refine AllReadyH.cons (o := _) (by simp only [List.getElem?_toArray, List.getElem?_cons_succ, List.getElem?_cons_zero] <;> rfl) (fun K hK => ?_) ?_
        · go_simp
          refine hK.out _ _ ?_ (fun hHeld => ?_)
          · (try dsimp only)
            all_goals trivial
          clear hK K
          try simp only [Act.put, List.setIfInBounds_toArray, List.set_cons_zero, List.set_cons_succ]
          refine wpAnyH_take (i := 15) (oi := ?_) (v := ?_) ?_ (by kernel_rfl) (by kernel_rfl) (by kernel_rfl) ?_ (Or.inl ⟨?_, ?_⟩) (by assumption) ?_
          rotate_left 2
          · simp only [List.getElem?_toArray, List.getElem?_cons_succ, List.getElem?_cons_zero] <;> rfl
          · exact fun _ _ _ h => h
          · rfl
          · (intro w hSw; (try dsimp only at hSw); go_simp; try (with_reducible rfl))
          try simp only [Act.put, List.setIfInBounds_toArray, List.set_cons_zero, List.set_cons_succ]
          refine wpAnyH_ready (rs := [5]) (by kernel_rfl) (by simp) ?_
          refine AllReadyH.cons (o := _) (by simp only [List.getElem?_toArray, List.getElem?_cons_succ, List.getElem?_cons_zero] <;> rfl) (fun K hK => ?_) ?_
          · go_simp
            refine hK.out _ _ ?_ (fun hHeld => ?_)
            · (try dsimp only)
              all_goals trivial
            clear hK K
            try simp only [Act.put, List.setIfInBounds_toArray, List.set_cons_zero, List.set_cons_succ]
            refine wpAnyH_take (i := 7) (oi := ?_) (v := ?_) ?_ (by kernel_rfl) (by kernel_rfl) (by kernel_rfl) ?_ (Or.inl ⟨?_, ?_⟩) (by assumption) ?_
            rotate_left 2
            · simp only [List.getElem?_toArray, List.getElem?_cons_succ, List.getElem?_cons_zero] <;> rfl
            · exact fun _ _ _ h => h
            · rfl
            · (intro w hSw; (try dsimp only at hSw); go_simp; try (with_reducible rfl))
            try simp only [Act.put, List.setIfInBounds_toArray, List.set_cons_zero, List.set_cons_succ]
            refine wpAnyH_ready (rs := [8]) (by kernel_rfl) (by simp) ?_
            refine AllReadyH.cons (o := _) (by simp only [List.getElem?_toArray, List.getElem?_cons_succ, List.getElem?_cons_zero] <;> rfl) (fun K hK => ?_) ?_
            · rw [← HE3.out]
              refine step_appO (by rfl) (.tmp 31) (.tmp 37) 28 35 (by rfl) w6.heap.size iW (.int .u64 0) 1 8 Try.underlying28 HJW.out jW0 jW1 jW2 (by rfl) (by decide) (by decide) (.slice (some ⟨w6.heap.size, 0, none⟩) 0 0) 0 [] (by rfl) E3.out S3.out ⟨k, 0, none⟩ j _ _ (by rfl) lW1.out (nw1.out _ HB3.out) (wc_one _) A1.out ?_
              intro v4 w4 hown4 hgr4 hat4
              rw [Nat.zero_add, List.nil_append] at hown4
              obtain ⟨a4, k4, rfl⟩ := row_form hown4
              have B4 := Lib.hid (HB3.out.grown hgr4 S3.out (fun g hg => by cases hg; exact Nat.le_refl _))
              have HO4 := Lib.hid hown4
              have c4 := (HF2.out.below B4.out).cell 1
              simp only [List.getElem?_toArray, List.getElem?_cons_zero] at c4
              clear hown4 hgr4 hat4
              refine hK.out _ _ ?_ (fun hHeld => ?_)
              · (try dsimp only)
                all_goals trivial
              clear hK K
              try simp only [Act.put, List.setIfInBounds_toArray, List.set_cons_zero, List.set_cons_succ]
              refine wpAnyH_ready (rs := [16]) (by kernel_rfl) (by simp) ?_
              refine AllReadyH.cons (o := _) (by simp only [List.getElem?_toArray, List.getElem?_cons_succ, List.getElem?_cons_zero] <;> rfl) (fun K hK => ?_) ?_
              · skip
                refine step_appO (by rfl) (.tmp 38) (.tmp 45) 28 35 (by rfl) w6.heap.size iW (.int .u64 0) 1 8 Try.underlying28 HJW.out jW0 jW1 jW2 (by rfl) (by decide) (by decide) _ _ _ (by rfl) HO4.out B4.out.size ad (n - (j + 1)) _ _ (by rfl) lW2.out (nw2.out _ B4.out) (wc_one _) A2.out ?_
                intro v5 w5 hown5 hgr5 hat5
                obtain ⟨a5, k5, rfl⟩ := row_form hown5
                have B5 := Lib.hid (B4.out.grown hgr5 B4.out.size (fun g hg => (HO4.out.lt _ hg).1))
                have HO5 := Lib.hid hown5
                have F5 := Lib.hid (HF2.out.below B5.out)
                have c5 := F5.out.cell 1
                have z5 := F5.out.thawed 1
                simp only [List.getElem?_toArray, List.getElem?_cons_zero] at c5
                clear hown5 hgr5 hat5
                refine hK.out _ _ ?_ (fun hHeld => ?_)
                · (try dsimp only)
                  all_goals trivial
                clear hK K
                try simp only [Act.put, List.setIfInBounds_toArray, List.set_cons_zero, List.set_cons_succ]
                refine wpAnyH_take (i := 17) (oi := ?_) (v := ?_) ?_ (by kernel_rfl) (by kernel_rfl) (by kernel_rfl) ?_ (Or.inl ⟨?_, ?_⟩) (by assumption) ?_
                rotate_left 2
                · simp only [List.getElem?_toArray, List.getElem?_cons_succ, List.getElem?_cons_zero] <;> rfl
                · exact fun _ _ _ h => h
                · rfl
                · (intro w hSw; (try dsimp only at hSw); go_simp; try (with_reducible rfl))
                try simp only [Act.put, List.setIfInBounds_toArray, List.set_cons_zero, List.set_cons_succ]
                refine wpAnyH_take (i := 18) (oi := ?_) (v := ?_) ?_ (by kernel_rfl) (by kernel_rfl) (by kernel_rfl) ?_ (Or.inl ⟨?_, ?_⟩) (by assumption) ?_
                rotate_left 2
                · simp only [List.getElem?_toArray, List.getElem?_cons_succ, List.getElem?_cons_zero] <;> rfl
                · exact fun _ _ _ h => h
                · rfl
                · (intro w hSw; (try dsimp only at hSw); go_simp; try (with_reducible rfl))
                try simp only [Act.put, List.setIfInBounds_toArray, List.set_cons_zero, List.set_cons_succ]
                refine wpAnyH_ready (rs := [19]) (by kernel_rfl) (by simp) ?_
                refine AllReadyH.cons (o := _) (by simp only [List.getElem?_toArray, List.getElem?_cons_succ, List.getElem?_cons_zero] <;> rfl) (fun K hK => ?_) ?_
                · go_simp
                  refine hK.out _ _ ?_ (fun hHeld => ?_)
                  · (try dsimp only)
                    all_goals trivial
                  clear hK K
                  try simp only [Act.put, List.setIfInBounds_toArray, List.set_cons_zero, List.set_cons_succ]
                  refine wpAnyH_done (by kernel_rfl) ?_ _
                  go_wp2_with fail
                  go_ret
                  exact ⟨rfl, gone_end hB HM6.out B5.out F5.out HO5.out HR6.out HN.out hjl⟩
                exact AllReadyH.nil
              exact AllReadyH.nil
            exact AllReadyH.nil
          exact AllReadyH.nil
        exact AllReadyH.nil
      refine AllReadyH.cons (o := _) (by simp only [List.getElem?_toArray, List.getElem?_cons_succ, List.getElem?_cons_zero] <;> rfl) (fun K hK => ?_) ?_
      · go_simp
        refine hK.out _ _ ?_ (fun hHeld => ?_)
        · (try dsimp only)
          all_goals trivial
        clear hK K
        try simp only [Act.put, List.setIfInBounds_toArray, List.set_cons_zero, List.set_cons_succ]
        refine wpAnyH_take (i := 7) (oi := ?_) (v := ?_) ?_ (by kernel_rfl) (by kernel_rfl) (by kernel_rfl) ?_ (Or.inl ⟨?_, ?_⟩) (by assumption) ?_
        rotate_left 2
        · simp only [List.getElem?_toArray, List.getElem?_cons_succ, List.getElem?_cons_zero] <;> rfl
        · exact fun _ _ _ h => h
        · rfl
        · (intro w hSw; (try dsimp only at hSw); go_simp; try (with_reducible rfl))
        try simp only [Act.put, List.setIfInBounds_toArray, List.set_cons_zero, List.set_cons_succ]
        refine wpAnyH_ready (rs := [1, 12]) (by kernel_rfl) (by simp) ?_
        refine AllReadyH.cons (o := _) (by simp only [List.getElem?_toArray, List.getElem?_cons_succ, List.getElem?_cons_zero] <;> rfl) (fun K hK => ?_) ?_
        · go_simp
          refine hK.out _ _ ?_ (fun hHeld => ?_)
          · (try dsimp only)
            all_goals trivial
          clear hK K
          try simp only [Act.put, List.setIfInBounds_toArray, List.set_cons_zero, List.set_cons_succ]
          refine wpAnyH_ready (rs := [8, 12]) (by kernel_rfl) (by simp) ?_
          refine AllReadyH.cons (o := _) (by simp only [List.getElem?_toArray, List.getElem?_cons_succ, List.getElem?_cons_zero] <;> rfl) (fun K hK => ?_) ?_
          · rw [← HE3.out]
            refine step_appO (by rfl) (.tmp 31) (.tmp 37) 28 35 (by rfl) w6.heap.size iW (.int .u64 0) 1 8 Try.underlying28 HJW.out jW0 jW1 jW2 (by rfl) (by decide) (by decide) (.slice (some ⟨w6.heap.size, 0, none⟩) 0 0) 0 [] (by rfl) E3.out S3.out ⟨k, 0, none⟩ j _ _ (by rfl) lW1.out (nw1.out _ HB3.out) (wc_one _) A1.out ?_
            intro v4 w4 hown4 hgr4 hat4
            rw [Nat.zero_add, List.nil_append] at hown4
            obtain ⟨a4, k4, rfl⟩ := row_form hown4
            have B4 := Lib.hid (HB3.out.grown hgr4 S3.out (fun g hg => by cases hg; exact Nat.le_refl _))
            have HO4 := Lib.hid hown4
            have c4 := (HF2.out.below B4.out).cell 1
            simp only [List.getElem?_toArray, List.getElem?_cons_zero] at c4
            clear hown4 hgr4 hat4
            refine hK.out _ _ ?_ (fun hHeld => ?_)
            · (try dsimp only)
              all_goals trivial
            clear hK K
            try simp only [Act.put, List.setIfInBounds_toArray, List.set_cons_zero, List.set_cons_succ]
            refine wpAnyH_ready (rs := [12]) (by kernel_rfl) (by simp) ?_
            refine AllReadyH.cons (o := _) (by simp only [List.getElem?_toArray, List.getElem?_cons_succ, List.getElem?_cons_zero] <;> rfl) (fun K hK => ?_) ?_
            · go_simp
              refine hK.out _ _ ?_ (fun hHeld => ?_)
              · (try dsimp only)
                all_goals trivial
              clear hK K
              try simp only [Act.put, List.setIfInBounds_toArray, List.set_cons_zero, List.set_cons_succ]
              refine wpAnyH_take (i := 15) (oi := ?_) (v := ?_) ?_ (by kernel_rfl) (by kernel_rfl) (by kernel_rfl) ?_ (Or.inl ⟨?_, ?_⟩) (by assumption) ?_
              rotate_left 2
              · simp only [List.getElem?_toArray, List.getElem?_cons_succ, List.getElem?_cons_zero] <;> rfl
              · exact fun _ _ _ h => h
              · rfl
              · (intro w hSw; (try dsimp only at hSw); go_simp; try (with_reducible rfl))
              try simp only [Act.put, List.setIfInBounds_toArray, List.set_cons_zero, List.set_cons_succ]
              refine wpAnyH_ready (rs := [16]) (by kernel_rfl) (by simp) ?_
              refine AllReadyH.cons (o := _) (by simp only [List.getElem?_toArray, List.getElem?_cons_succ, List.getElem?_cons_zero] <;> rfl) (fun K hK => ?_) ?_
              · skip
                refine step_appO (by rfl) (.tmp 38) (.tmp 45) 28 35 (by rfl) w6.heap.size iW (.int .u64 0) 1 8 Try.underlying28 HJW.out jW0 jW1 jW2 (by rfl) (by decide) (by decide) _ _ _ (by rfl) HO4.out B4.out.size ad (n - (j + 1)) _ _ (by rfl) lW2.out (nw2.out _ B4.out) (wc_one _) A2.out ?_
                intro v5 w5 hown5 hgr5 hat5
                obtain ⟨a5, k5, rfl⟩ := row_form hown5
                have B5 := Lib.hid (B4.out.grown hgr5 B4.out.size (fun g hg => (HO4.out.lt _ hg).1))
                have HO5 := Lib.hid hown5
                have F5 := Lib.hid (HF2.out.below B5.out)
                have c5 := F5.out.cell 1
                have z5 := F5.out.thawed 1
                simp only [List.getElem?_toArray, List.getElem?_cons_zero] at c5
                clear hown5 hgr5 hat5
                refine hK.out _ _ ?_ (fun hHeld => ?_)
                · (try dsimp only)
                  all_goals trivial
                clear hK K
                try simp only [Act.put, List.setIfInBounds_toArray, List.set_cons_zero, List.set_cons_succ]
                refine wpAnyH_take (i := 17) (oi := ?_) (v := ?_) ?_ (by kernel_rfl) (by kernel_rfl) (by kernel_rfl) ?_ (Or.inl ⟨?_, ?_⟩) (by assumption) ?_
                rotate_left 2
                · simp only [List.getElem?_toArray, List.getElem?_cons_succ, List.getElem?_cons_zero] <;> rfl
                · exact fun _ _ _ h => h
                · rfl
                · (intro w hSw; (try dsimp only at hSw); go_simp; try (with_reducible rfl))
                try simp only [Act.put, List.setIfInBounds_toArray, List.set_cons_zero, List.set_cons_succ]
                refine wpAnyH_take (i := 18) (oi := ?_) (v := ?_) ?_ (by kernel_rfl) (by kernel_rfl) (by kernel_rfl) ?_ (Or.inl ⟨?_, ?_⟩) (by assumption) ?_
                rotate_left 2
                · simp only [List.getElem?_toArray, List.getElem?_cons_succ, List.getElem?_cons_zero] <;> rfl
                · exact fun _ _ _ h => h
                · rfl
                · (intro w hSw; (try dsimp only at hSw); go_simp; try (with_reducible rfl))
                try simp only [Act.put, List.setIfInBounds_toArray, List.set_cons_zero, List.set_cons_succ]
                refine wpAnyH_ready (rs := [19]) (by kernel_rfl) (by simp) ?_
                refine AllReadyH.cons (o := _) (by simp only [List.getElem?_toArray, List.getElem?_cons_succ, List.getElem?_cons_zero] <;> rfl) (fun K hK => ?_) ?_
                · go_simp
                  refine hK.out _ _ ?_ (fun hHeld => ?_)
                  · (try dsimp only)
                    all_goals trivial
                  clear hK K
                  try simp only [Act.put, List.setIfInBounds_toArray, List.set_cons_zero, List.set_cons_succ]
                  refine wpAnyH_done (by kernel_rfl) ?_ _
                  go_wp2_with fail
                  go_ret
                  exact ⟨rfl, gone_end hB HM6.out B5.out F5.out HO5.out HR6.out HN.out hjl⟩
                exact AllReadyH.nil
              exact AllReadyH.nil
            exact AllReadyH.nil
          refine AllReadyH.cons (o := _) (by simp only [List.getElem?_toArray, List.getElem?_cons_succ, List.getElem?_cons_zero] <;> rfl) (fun K hK => ?_) ?_
          · go_simp
            refine hK.out _ _ ?_ (fun hHeld => ?_)
            · (try dsimp only)
              all_goals trivial
            clear hK K
            try simp only [Act.put, List.setIfInBounds_toArray, List.set_cons_zero, List.set_cons_succ]
            refine wpAnyH_take (i := 15) (oi := ?_) (v := ?_) ?_ (by kernel_rfl) (by kernel_rfl) (by kernel_rfl) ?_ (Or.inl ⟨?_, ?_⟩) (by assumption) ?_
            rotate_left 2
            · simp only [List.getElem?_toArray, List.getElem?_cons_succ, List.getElem?_cons_zero] <;> rfl
            · exact fun _ _ _ h => h
            · rfl
            · (intro w hSw; (try dsimp only at hSw); go_simp; try (with_reducible rfl))
            try simp only [Act.put, List.setIfInBounds_toArray, List.set_cons_zero, List.set_cons_succ]
            refine wpAnyH_ready (rs := [8]) (by kernel_rfl) (by simp) ?_
            refine AllReadyH.cons (o := _) (by simp only [List.getElem?_toArray, List.getElem?_cons_succ, List.getElem?_cons_zero] <;> rfl) (fun K hK => ?_) ?_
            · rw [← HE3.out]
              refine step_appO (by rfl) (.tmp 31) (.tmp 37) 28 35 (by rfl) w6.heap.size iW (.int .u64 0) 1 8 Try.underlying28 HJW.out jW0 jW1 jW2 (by rfl) (by decide) (by decide) (.slice (some ⟨w6.heap.size, 0, none⟩) 0 0) 0 [] (by rfl) E3.out S3.out ⟨k, 0, none⟩ j _ _ (by rfl) lW1.out (nw1.out _ HB3.out) (wc_one _) A1.out ?_
              intro v4 w4 hown4 hgr4 hat4
              rw [Nat.zero_add, List.nil_append] at hown4
              obtain ⟨a4, k4, rfl⟩ := row_form hown4
              have B4 := Lib.hid (HB3.out.grown hgr4 S3.out (fun g hg => by cases hg; exact Nat.le_refl _))
              have HO4 := Lib.hid hown4
              have c4 := (HF2.out.below B4.out).cell 1
              simp only [List.getElem?_toArray, List.getElem?_cons_zero] at c4
              clear hown4 hgr4 hat4
              refine hK.out _ _ ?_ (fun hHeld => ?_)
              · (try dsimp only)
                all_goals trivial
              clear hK K
              try simp only [Act.put, List.setIfInBounds_toArray, List.set_cons_zero, List.set_cons_succ]
              refine wpAnyH_ready (rs := [16]) (by kernel_rfl) (by simp) ?_
              refine AllReadyH.cons (o := _) (by simp only [List.getElem?_toArray, List.getElem?_cons_succ, List.getElem?_cons_zero] <;> rfl) (fun K hK => ?_) ?_
              · skip
                refine step_appO (by rfl) (.tmp 38) (.tmp 45) 28 35 (by rfl) w6.heap.size iW (.int .u64 0) 1 8 Try.underlying28 HJW.out jW0 jW1 jW2 (by rfl) (by decide) (by decide) _ _ _ (by rfl) HO4.out B4.out.size ad (n - (j + 1)) _ _ (by rfl) lW2.out (nw2.out _ B4.out) (wc_one _) A2.out ?_
                intro v5 w5 hown5 hgr5 hat5
                obtain ⟨a5, k5, rfl⟩ := row_form hown5
                have B5 := Lib.hid (B4.out.grown hgr5 B4.out.size (fun g hg => (HO4.out.lt _ hg).1))
                have HO5 := Lib.hid hown5
                have F5 := Lib.hid (HF2.out.below B5.out)
                have c5 := F5.out.cell 1
                have z5 := F5.out.thawed 1
                simp only [List.getElem?_toArray, List.getElem?_cons_zero] at c5
                clear hown5 hgr5 hat5
                refine hK.out _ _ ?_ (fun hHeld => ?_)
                · (try dsimp only)
                  all_goals trivial
                clear hK K
                try simp only [Act.put, List.setIfInBounds_toArray, List.set_cons_zero, List.set_cons_succ]
                refine wpAnyH_take (i := 17) (oi := ?_) (v := ?_) ?_ (by kernel_rfl) (by kernel_rfl) (by kernel_rfl) ?_ (Or.inl ⟨?_, ?_⟩) (by assumption) ?_
                rotate_left 2
                · simp only [List.getElem?_toArray, List.getElem?_cons_succ, List.getElem?_cons_zero] <;> rfl
                · exact fun _ _ _ h => h
                · rfl
                · (intro w hSw; (try dsimp only at hSw); go_simp; try (with_reducible rfl))
                try simp only [Act.put, List.setIfInBounds_toArray, List.set_cons_zero, List.set_cons_succ]
                refine wpAnyH_take (i := 18) (oi := ?_) (v := ?_) ?_ (by kernel_rfl) (by kernel_rfl) (by kernel_rfl) ?_ (Or.inl ⟨?_, ?_⟩) (by assumption) ?_
                rotate_left 2
                · simp only [List.getElem?_toArray, List.getElem?_cons_succ, List.getElem?_cons_zero] <;> rfl
                · exact fun _ _ _ h => h
                · rfl
                · (intro w hSw; (try dsimp only at hSw); go_simp; try (with_reducible rfl))
                try simp only [Act.put, List.setIfInBounds_toArray, List.set_cons_zero, List.set_cons_succ]
                refine wpAnyH_ready (rs := [19]) (by kernel_rfl) (by simp) ?_
                refine AllReadyH.cons (o := _) (by simp only [List.getElem?_toArray, List.getElem?_cons_succ, List.getElem?_cons_zero] <;> rfl) (fun K hK => ?_) ?_
                · go_simp
                  refine hK.out _ _ ?_ (fun hHeld => ?_)
                  · (try dsimp only)
                    all_goals trivial
                  clear hK K
                  try simp only [Act.put, List.setIfInBounds_toArray, List.set_cons_zero, List.set_cons_succ]
                  refine wpAnyH_done (by kernel_rfl) ?_ _
                  go_wp2_with fail
                  go_ret
                  exact ⟨rfl, gone_end hB HM6.out B5.out F5.out HO5.out HR6.out HN.out hjl⟩
                exact AllReadyH.nil
              exact AllReadyH.nil
            exact AllReadyH.nil
          exact AllReadyH.nil
        refine AllReadyH.cons (o := _) (by simp only [List.getElem?_toArray, List.getElem?_cons_succ, List.getElem?_cons_zero] <;> rfl) (fun K hK => ?_) ?_
        · go_simp
          refine hK.out _ _ ?_ (fun hHeld => ?_)
          · (try dsimp only)
            all_goals trivial
          clear hK K
          try simp only [Act.put, List.setIfInBounds_toArray, List.set_cons_zero, List.set_cons_succ]
          refine wpAnyH_take (i := 15) (oi := ?_) (v := ?_) ?_ (by kernel_rfl) (by kernel_rfl) (by kernel_rfl) ?_ (Or.inl ⟨?_, ?_⟩) (by assumption) ?_
          rotate_left 2
          · simp only [List.getElem?_toArray, List.getElem?_cons_succ, List.getElem?_cons_zero] <;> rfl
          · exact fun _ _ _ h => h
          · rfl
          · (intro w hSw; (try dsimp only at hSw); go_simp; try (with_reducible rfl))
          try simp only [Act.put, List.setIfInBounds_toArray, List.set_cons_zero, List.set_cons_succ]
          refine wpAnyH_ready (rs := [1]) (by kernel_rfl) (by simp) ?_
          refine AllReadyH.cons (o := _) (by simp only [List.getElem?_toArray, List.getElem?_cons_succ, List.getElem?_cons_zero] <;> rfl) (fun K hK => ?_) ?_
          · go_simp
            refine hK.out _ _ ?_ (fun hHeld => ?_)
            · (try dsimp only)
              all_goals trivial
            clear hK K
            try simp only [Act.put, List.setIfInBounds_toArray, List.set_cons_zero, List.set_cons_succ]
            refine wpAnyH_ready (rs := [8]) (by kernel_rfl) (by simp) ?_
            refine AllReadyH.cons (o := _) (by simp only [List.getElem?_toArray, List.getElem?_cons_succ, List.getElem?_cons_zero] <;> rfl) (fun K hK => ?_) ?_
            · rw [← HE3.out]
              refine step_appO (by rfl) (.tmp 31) (.tmp 37) 28 35 (by rfl) w6.heap.size iW (.int .u64 0) 1 8 Try.underlying28 HJW.out jW0 jW1 jW2 (by rfl) (by decide) (by decide) (.slice (some ⟨w6.heap.size, 0, none⟩) 0 0) 0 [] (by rfl) E3.out S3.out ⟨k, 0, none⟩ j _ _ (by rfl) lW1.out (nw1.out _ HB3.out) (wc_one _) A1.out ?_
              intro v4 w4 hown4 hgr4 hat4
              rw [Nat.zero_add, List.nil_append] at hown4
              obtain ⟨a4, k4, rfl⟩ := row_form hown4
              have B4 := Lib.hid (HB3.out.grown hgr4 S3.out (fun g hg => by cases hg; exact Nat.le_refl _))
              have HO4 := Lib.hid hown4
              have c4 := (HF2.out.below B4.out).cell 1
              simp only [List.getElem?_toArray, List.getElem?_cons_zero] at c4
              clear hown4 hgr4 hat4
              refine hK.out _ _ ?_ (fun hHeld => ?_)
              · (try dsimp only)
                all_goals trivial
              clear hK K
              try simp only [Act.put, List.setIfInBounds_toArray, List.set_cons_zero, List.set_cons_succ]
              refine wpAnyH_ready (rs := [16]) (by kernel_rfl) (by simp) ?_
              refine AllReadyH.cons (o := _) (by simp only [List.getElem?_toArray, List.getElem?_cons_succ, List.getElem?_cons_zero] <;> rfl) (fun K hK => ?_) ?_
              · skip
                refine step_appO (by rfl) (.tmp 38) (.tmp 45) 28 35 (by rfl) w6.heap.size iW (.int .u64 0) 1 8 Try.underlying28 HJW.out jW0 jW1 jW2 (by rfl) (by decide) (by decide) _ _ _ (by rfl) HO4.out B4.out.size ad (n - (j + 1)) _ _ (by rfl) lW2.out (nw2.out _ B4.out) (wc_one _) A2.out ?_
                intro v5 w5 hown5 hgr5 hat5
                obtain ⟨a5, k5, rfl⟩ := row_form hown5
                have B5 := Lib.hid (B4.out.grown hgr5 B4.out.size (fun g hg => (HO4.out.lt _ hg).1))
                have HO5 := Lib.hid hown5
                have F5 := Lib.hid (HF2.out.below B5.out)
                have c5 := F5.out.cell 1
                have z5 := F5.out.thawed 1
                simp only [List.getElem?_toArray, List.getElem?_cons_zero] at c5
                clear hown5 hgr5 hat5
                refine hK.out _ _ ?_ (fun hHeld => ?_)
                · (try dsimp only)
                  all_goals trivial
                clear hK K
                try simp only [Act.put, List.setIfInBounds_toArray, List.set_cons_zero, List.set_cons_succ]
                refine wpAnyH_take (i := 17) (oi := ?_) (v := ?_) ?_ (by kernel_rfl) (by kernel_rfl) (by kernel_rfl) ?_ (Or.inl ⟨?_, ?_⟩) (by assumption) ?_
                rotate_left 2
                · simp only [List.getElem?_toArray, List.getElem?_cons_succ, List.getElem?_cons_zero] <;> rfl
                · exact fun _ _ _ h => h
                · rfl
                · (intro w hSw; (try dsimp only at hSw); go_simp; try (with_reducible rfl))
                try simp only [Act.put, List.setIfInBounds_toArray, List.set_cons_zero, List.set_cons_succ]
                refine wpAnyH_take (i := 18) (oi := ?_) (v := ?_) ?_ (by kernel_rfl) (by kernel_rfl) (by kernel_rfl) ?_ (Or.inl ⟨?_, ?_⟩) (by assumption) ?_
                rotate_left 2
                · simp only [List.getElem?_toArray, List.getElem?_cons_succ, List.getElem?_cons_zero] <;> rfl
                · exact fun _ _ _ h => h
                · rfl
                · (intro w hSw; (try dsimp only at hSw); go_simp; try (with_reducible rfl))
                try simp only [Act.put, List.setIfInBounds_toArray, List.set_cons_zero, List.set_cons_succ]
                refine wpAnyH_ready (rs := [19]) (by kernel_rfl) (by simp) ?_
                refine AllReadyH.cons (o := _) (by simp only [List.getElem?_toArray, List.getElem?_cons_succ, List.getElem?_cons_zero] <;> rfl) (fun K hK => ?_) ?_
                · go_simp
                  refine hK.out _ _ ?_ (fun hHeld => ?_)
                  · (try dsimp only)
                    all_goals trivial
                  clear hK K
                  try simp only [Act.put, List.setIfInBounds_toArray, List.set_cons_zero, List.set_cons_succ]
                  refine wpAnyH_done (by kernel_rfl) ?_ _
                  go_wp2_with fail
                  go_ret
                  exact ⟨rfl, gone_end hB HM6.out B5.out F5.out HO5.out HR6.out HN.out hjl⟩
                exact AllReadyH.nil
              exact AllReadyH.nil
            exact AllReadyH.nil
          exact AllReadyH.nil
        exact AllReadyH.nil
      refine AllReadyH.cons (o := _) (by simp only [List.getElem?_toArray, List.getElem?_cons_succ, List.getElem?_cons_zero] <;> rfl) (fun K hK => ?_) ?_
      · go_simp
        refine hK.out _ _ ?_ (fun hHeld => ?_)
        · (try dsimp only)
          all_goals trivial
        clear hK K
        try simp only [Act.put, List.setIfInBounds_toArray, List.set_cons_zero, List.set_cons_succ]
        refine wpAnyH_take (i := 15) (oi := ?_) (v := ?_) ?_ (by kernel_rfl) (by kernel_rfl) (by kernel_rfl) ?_ (Or.inl ⟨?_, ?_⟩) (by assumption) ?_
        rotate_left 2
        · simp only [List.getElem?_toArray, List.getElem?_cons_succ, List.getElem?_cons_zero] <;> rfl
        · exact fun _ _ _ h => h
        · rfl
        · (intro w hSw; (try dsimp only at hSw); go_simp; try (with_reducible rfl))
        try simp only [Act.put, List.setIfInBounds_toArray, List.set_cons_zero, List.set_cons_succ]
        refine wpAnyH_ready (rs := [1, 5]) (by kernel_rfl) (by simp) ?_
        refine AllReadyH.cons (o := _) (by simp only [List.getElem?_toArray, List.getElem?_cons_succ, List.getElem?_cons_zero] <;> rfl) (fun K hK => ?_) ?_
        · go_simp
          refine hK.out _ _ ?_ (fun hHeld => ?_)
          · (try dsimp only)
            all_goals trivial
          clear hK K
          try simp only [Act.put, List.setIfInBounds_toArray, List.set_cons_zero, List.set_cons_succ]
          refine wpAnyH_ready (rs := [5]) (by kernel_rfl) (by simp) ?_
          refine AllReadyH.cons (o := _) (by simp only [List.getElem?_toArray, List.getElem?_cons_succ, List.getElem?_cons_zero] <;> rfl) (fun K hK => ?_) ?_
          · go_simp
            refine hK.out _ _ ?_ (fun hHeld => ?_)
            · (try dsimp only)
              all_goals trivial
            clear hK K
            try simp only [Act.put, List.setIfInBounds_toArray, List.set_cons_zero, List.set_cons_succ]
            refine wpAnyH_take (i := 7) (oi := ?_) (v := ?_) ?_ (by kernel_rfl) (by kernel_rfl) (by kernel_rfl) ?_ (Or.inl ⟨?_, ?_⟩) (by assumption) ?_
            rotate_left 2
            · simp only [List.getElem?_toArray, List.getElem?_cons_succ, List.getElem?_cons_zero] <;> rfl
            · exact fun _ _ _ h => h
            · rfl
            · (intro w hSw; (try dsimp only at hSw); go_simp; try (with_reducible rfl))
            try simp only [Act.put, List.setIfInBounds_toArray, List.set_cons_zero, List.set_cons_succ]
            refine wpAnyH_ready (rs := [8]) (by kernel_rfl) (by simp) ?_
            refine AllReadyH.cons (o := _) (by simp only [List.getElem?_toArray, List.getElem?_cons_succ, List.getElem?_cons_zero] <;> rfl) (fun K hK => ?_) ?_
            · rw [← HE3.out]
              refine step_appO (by rfl) (.tmp 31) (.tmp 37) 28 35 (by rfl) w6.heap.size iW (.int .u64 0) 1 8 Try.underlying28 HJW.out jW0 jW1 jW2 (by rfl) (by decide) (by decide) (.slice (some ⟨w6.heap.size, 0, none⟩) 0 0) 0 [] (by rfl) E3.out S3.out ⟨k, 0, none⟩ j _ _ (by rfl) lW1.out (nw1.out _ HB3.out) (wc_one _) A1.out ?_
              intro v4 w4 hown4 hgr4 hat4
              rw [Nat.zero_add, List.nil_append] at hown4
              obtain ⟨a4, k4, rfl⟩ := row_form hown4
              have B4 := Lib.hid (HB3.out.grown hgr4 S3.out (fun g hg => by cases hg; exact Nat.le_refl _))
              have HO4 := Lib.hid hown4
              have c4 := (HF2.out.below B4.out).cell 1
              simp only [List.getElem?_toArray, List.getElem?_cons_zero] at c4
              clear hown4 hgr4 hat4
              refine hK.out _ _ ?_ (fun hHeld => ?_)
              · (try dsimp only)
                all_goals trivial
              clear hK K
              try simp only [Act.put, List.setIfInBounds_toArray, List.set_cons_zero, List.set_cons_succ]
              refine wpAnyH_ready (rs := [16]) (by kernel_rfl) (by simp) ?_
              refine AllReadyH.cons (o := _) (by simp only [List.getElem?_toArray, List.getElem?_cons_succ, List.getElem?_cons_zero] <;> rfl) (fun K hK => ?_) ?_
              · skip
                refine step_appO (by rfl) (.tmp 38) (.tmp 45) 28 35 (by rfl) w6.heap.size iW (.int .u64 0) 1 8 Try.underlying28 HJW.out jW0 jW1 jW2 (by rfl) (by decide) (by decide) _ _ _ (by rfl) HO4.out B4.out.size ad (n - (j + 1)) _ _ (by rfl) lW2.out (nw2.out _ B4.out) (wc_one _) A2.out ?_
                intro v5 w5 hown5 hgr5 hat5
                obtain ⟨a5, k5, rfl⟩ := row_form hown5
                have B5 := Lib.hid (B4.out.grown hgr5 B4.out.size (fun g hg => (HO4.out.lt _ hg).1))
                have HO5 := Lib.hid hown5
                have F5 := Lib.hid (HF2.out.below B5.out)
                have c5 := F5.out.cell 1
                have z5 := F5.out.thawed 1
                simp only [List.getElem?_toArray, List.getElem?_cons_zero] at c5
                clear hown5 hgr5 hat5
                refine hK.out _ _ ?_ (fun hHeld => ?_)
                · (try dsimp only)
                  all_goals trivial
                clear hK K
                try simp only [Act.put, List.setIfInBounds_toArray, List.set_cons_zero, List.set_cons_succ]
                refine wpAnyH_take (i := 17) (oi := ?_) (v := ?_) ?_ (by kernel_rfl) (by kernel_rfl) (by kernel_rfl) ?_ (Or.inl ⟨?_, ?_⟩) (by assumption) ?_
                rotate_left 2
                · simp only [List.getElem?_toArray, List.getElem?_cons_succ, List.getElem?_cons_zero] <;> rfl
                · exact fun _ _ _ h => h
                · rfl
                · (intro w hSw; (try dsimp only at hSw); go_simp; try (with_reducible rfl))
                try simp only [Act.put, List.setIfInBounds_toArray, List.set_cons_zero, List.set_cons_succ]
                refine wpAnyH_take (i := 18) (oi := ?_) (v := ?_) ?_ (by kernel_rfl) (by kernel_rfl) (by kernel_rfl) ?_ (Or.inl ⟨?_, ?_⟩) (by assumption) ?_
                rotate_left 2
                · simp only [List.getElem?_toArray, List.getElem?_cons_succ, List.getElem?_cons_zero] <;> rfl
                · exact fun _ _ _ h => h
                · rfl
                · (intro w hSw; (try dsimp only at hSw); go_simp; try (with_reducible rfl))
                try simp only [Act.put, List.setIfInBounds_toArray, List.set_cons_zero, List.set_cons_succ]
                refine wpAnyH_ready (rs := [19]) (by kernel_rfl) (by simp) ?_
                refine AllReadyH.cons (o := _) (by simp only [List.getElem?_toArray, List.getElem?_cons_succ, List.getElem?_cons_zero] <;> rfl) (fun K hK => ?_) ?_
                · go_simp
                  refine hK.out _ _ ?_ (fun hHeld => ?_)
                  · (try dsimp only)
                    all_goals trivial
                  clear hK K
                  try simp only [Act.put, List.setIfInBounds_toArray, List.set_cons_zero, List.set_cons_succ]
                  refine wpAnyH_done (by kernel_rfl) ?_ _
                  go_wp2_with fail
                  go_ret
                  exact ⟨rfl, gone_end hB HM6.out B5.out F5.out HO5.out HR6.out HN.out hjl⟩
                exact AllReadyH.nil
              exact AllReadyH.nil
            exact AllReadyH.nil
          exact AllReadyH.nil
        refine AllReadyH.cons (o := _) (by simp only [List.getElem?_toArray, List.getElem?_cons_succ, List.getElem?_cons_zero] <;> rfl) (fun K hK => ?_) ?_
        · go_simp
          refine hK.out _ _ ?_ (fun hHeld => ?_)
          · (try dsimp only)
            all_goals trivial
          clear hK K
          try simp only [Act.put, List.setIfInBounds_toArray, List.set_cons_zero, List.set_cons_succ]
          refine wpAnyH_take (i := 7) (oi := ?_) (v := ?_) ?_ (by kernel_rfl) (by kernel_rfl) (by kernel_rfl) ?_ (Or.inl ⟨?_, ?_⟩) (by assumption) ?_
          rotate_left 2
          · simp only [List.getElem?_toArray, List.getElem?_cons_succ, List.getElem?_cons_zero] <;> rfl
          · exact fun _ _ _ h => h
          · rfl
          · (intro w hSw; (try dsimp only at hSw); go_simp; try (with_reducible rfl))
          try simp only [Act.put, List.setIfInBounds_toArray, List.set_cons_zero, List.set_cons_succ]
          refine wpAnyH_ready (rs := [1]) (by kernel_rfl) (by simp) ?_
          refine AllReadyH.cons (o := _) (by simp only [List.getElem?_toArray, List.getElem?_cons_succ, List.getElem?_cons_zero] <;> rfl) (fun K hK => ?_) ?_
          · go_simp
            refine hK.out _ _ ?_ (fun hHeld => ?_)
            · (try dsimp only)
              all_goals trivial
            clear hK K
            try simp only [Act.put, List.setIfInBounds_toArray, List.set_cons_zero, List.set_cons_succ]
            refine wpAnyH_ready (rs := [8]) (by kernel_rfl) (by simp) ?_
            refine AllReadyH.cons (o := _) (by simp only [List.getElem?_toArray, List.getElem?_cons_succ, List.getElem?_cons_zero] <;> rfl) (fun K hK => ?_) ?_
            · rw [← HE3.out]
              refine step_appO (by rfl) (.tmp 31) (.tmp 37) 28 35 (by rfl) w6.heap.size iW (.int .u64 0) 1 8 Try.underlying28 HJW.out jW0 jW1 jW2 (by rfl) (by decide) (by decide) (.slice (some ⟨w6.heap.size, 0, none⟩) 0 0) 0 [] (by rfl) E3.out S3.out ⟨k, 0, none⟩ j _ _ (by rfl) lW1.out (nw1.out _ HB3.out) (wc_one _) A1.out ?_
              intro v4 w4 hown4 hgr4 hat4
              rw [Nat.zero_add, List.nil_append] at hown4
              obtain ⟨a4, k4, rfl⟩ := row_form hown4
              have B4 := Lib.hid (HB3.out.grown hgr4 S3.out (fun g hg => by cases hg; exact Nat.le_refl _))
              have HO4 := Lib.hid hown4
              have c4 := (HF2.out.below B4.out).cell 1
              simp only [List.getElem?_toArray, List.getElem?_cons_zero] at c4
              clear hown4 hgr4 hat4
              refine hK.out _ _ ?_ (fun hHeld => ?_)
              · (try dsimp only)
                all_goals trivial
              clear hK K
              try simp only [Act.put, List.setIfInBounds_toArray, List.set_cons_zero, List.set_cons_succ]
              refine wpAnyH_ready (rs := [16]) (by kernel_rfl) (by simp) ?_
              refine AllReadyH.cons (o := _) (by simp only [List.getElem?_toArray, List.getElem?_cons_succ, List.getElem?_cons_zero] <;> rfl) (fun K hK => ?_) ?_
              · skip
                refine step_appO (by rfl) (.tmp 38) (.tmp 45) 28 35 (by rfl) w6.heap.size iW (.int .u64 0) 1 8 Try.underlying28 HJW.out jW0 jW1 jW2 (by rfl) (by decide) (by decide) _ _ _ (by rfl) HO4.out B4.out.size ad (n - (j + 1)) _ _ (by rfl) lW2.out (nw2.out _ B4.out) (wc_one _) A2.out ?_
                intro v5 w5 hown5 hgr5 hat5
                obtain ⟨a5, k5, rfl⟩ := row_form hown5
                have B5 := Lib.hid (B4.out.grown hgr5 B4.out.size (fun g hg => (HO4.out.lt _ hg).1))
                have HO5 := Lib.hid hown5
                have F5 := Lib.hid (HF2.out.below B5.out)
                have c5 := F5.out.cell 1
                have z5 := F5.out.thawed 1
                simp only [List.getElem?_toArray, List.getElem?_cons_zero] at c5
                clear hown5 hgr5 hat5
                refine hK.out _ _ ?_ (fun hHeld => ?_)
                · (try dsimp only)
                  all_goals trivial
                clear hK K
                try simp only [Act.put, List.setIfInBounds_toArray, List.set_cons_zero, List.set_cons_succ]
                refine wpAnyH_take (i := 17) (oi := ?_) (v := ?_) ?_ (by kernel_rfl) (by kernel_rfl) (by kernel_rfl) ?_ (Or.inl ⟨?_, ?_⟩) (by assumption) ?_
                rotate_left 2
                · simp only [List.getElem?_toArray, List.getElem?_cons_succ, List.getElem?_cons_zero] <;> rfl
                · exact fun _ _ _ h => h
                · rfl
                · (intro w hSw; (try dsimp only at hSw); go_simp; try (with_reducible rfl))
                try simp only [Act.put, List.setIfInBounds_toArray, List.set_cons_zero, List.set_cons_succ]
                refine wpAnyH_take (i := 18) (oi := ?_) (v := ?_) ?_ (by kernel_rfl) (by kernel_rfl) (by kernel_rfl) ?_ (Or.inl ⟨?_, ?_⟩) (by assumption) ?_
                rotate_left 2
                · simp only [List.getElem?_toArray, List.getElem?_cons_succ, List.getElem?_cons_zero] <;> rfl
                · exact fun _ _ _ h => h
                · rfl
                · (intro w hSw; (try dsimp only at hSw); go_simp; try (with_reducible rfl))
                try simp only [Act.put, List.setIfInBounds_toArray, List.set_cons_zero, List.set_cons_succ]
                refine wpAnyH_ready (rs := [19]) (by kernel_rfl) (by simp) ?_
                refine AllReadyH.cons (o := _) (by simp only [List.getElem?_toArray, List.getElem?_cons_succ, List.getElem?_cons_zero] <;> rfl) (fun K hK => ?_) ?_
                · go_simp
                  refine hK.out _ _ ?_ (fun hHeld => ?_)
                  · (try dsimp only)
                    all_goals trivial
                  clear hK K
                  try simp only [Act.put, List.setIfInBounds_toArray, List.set_cons_zero, List.set_cons_succ]
                  refine wpAnyH_done (by kernel_rfl) ?_ _
                  go_wp2_with fail
                  go_ret
                  exact ⟨rfl, gone_end hB HM6.out B5.out F5.out HO5.out HR6.out HN.out hjl⟩
                exact AllReadyH.nil
              exact AllReadyH.nil
            exact AllReadyH.nil
          exact AllReadyH.nil
        exact AllReadyH.nil
      exact AllReadyH.nil

theorem rgone_any {W : World} {B r : Nat} {s : Lk} (h : RAt W B r s.l s.taken) (hu : Uniq s.l) (hB : B ≤ W.heap.size) (ho : ∀ u ∈ s.l, RefOk u.s u.g) (hl : s.l.length ≤ 1000000) (x g : Int) (hr : RefOk x g) :
    Calls Try.prog 27 #[.pointer (some ⟨r, 0, none⟩), refV x g] W fun e w' => e = .returned (.int .i64 (goneS s x g).2) ∧ Mod B r W w' ∧ RAt w' B r (goneS s x g).1.l (goneS s x g).1.taken := by
  unfold goneS
  cases hg : getW s.l x g with
  | none => exact rgone_none h ho hl x g hr hg
  | some t => exact rgone_some h hu hB ho hl x g hr t hg
end Go.Proofs.Ythhmbmeajgjhcaa
