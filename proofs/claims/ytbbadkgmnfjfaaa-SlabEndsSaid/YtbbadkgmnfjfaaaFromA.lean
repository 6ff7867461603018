/- The iterator over the usable places of a slab. -/
import Derived.Test.YtbbadkgmnfjfaaaSi
import Derived.Test.YtbbadkgmnfjfaaaTakeM
import Derived.RangeFuncNested
import Derived.RangeFuncBound
import Derived.RangeFuncCalls
import Derived.RangeFuncLeaves
import Derived.Shelf.Abstract
import Derived.Shelf.RegionOpen
import Derived.OwnWalkIn
import Derived.TacticsInMore
import Derived.LoopNIn
import Derived.LoopIn
import Derived.Test.YtbbadkgmnfjfaaaMix
import Derived.Test.YtbbadkgmnfjfaaaFrom
import Derived.Test.YtbbadkgmnfjfaaaCopyS
import Derived.Test.YtbbadkgmnfjfaaaFreshK
import Derived.Test.YtbbadkgmnfjfaaaSeqOwn
namespace Go.Proofs.Ytbbadkgmnfjfaaa.Si
open Go.RowKit Go.Shelf Go.Proofs.Ytbbadkgmnfjfaaa
def _root_.Go.Proofs.Ytbbadkgmnfjfaaa.Ce.tk (t : Ce) : Bool := t.t
/-- The rows of a slab's cells, whatever box names them. -/
structure Cs (W : World) (a g : Nat) (s : Sb) : Prop where
  ha : ∃ (cap : Nat) (x y z : Value), Fresh W a #[.slice (some ⟨g, 0, none⟩) s.l.length cap, x, y, z] 65
  hg : ∃ rest : List Value, Fresh W g (cec s.l ++ rest).toArray 82
theorem At.cs {W : World} {p a g : Nat} {s : Sb} (h : At W p a g s) : Cs W a g s := ⟨⟨_, _, _, _, h.ha⟩, ⟨_, h.hg⟩⟩
theorem Cs.below {W W' : World} {a g : Nat} {s : Sb} (h : Cs W a g s) (hb : Below W.heap.size W W') : Cs W' a g s := by
  obtain ⟨⟨c, x, y, z, h1⟩, r, h2⟩ := h
  exact ⟨⟨c, x, y, z, h1.below hb⟩, r, h2.below hb⟩
theorem Cs.turned {S : List Nat} {W W' : World} {a g : Nat} {s : Sb} (h : Cs W a g s) (ht : Turned S W W') (ha : a ∉ S) (hg : g ∉ S) : Cs W' a g s := by
  obtain ⟨⟨c, x, y, z, h1⟩, r, h2⟩ := h
  exact ⟨⟨c, x, y, z, ht.other h1 ha⟩, r, ht.other h2 hg⟩
theorem Cs.kept {W W' : World} {row : Option Nat} {a g : Nat} {s : Sb} (h : Cs W a g s) (hg' : W.grownBy W' row) (hr : ∀ r, row = some r → ∃ o : Obj, W.heap[r]? = some o ∧ o.isCells = false) : Cs W' a g s := by
  obtain ⟨⟨c, x, y, z, h1⟩, r, h2⟩ := h
  exact ⟨⟨c, x, y, z, h1.kept hg' hr⟩, r, h2.kept hg' hr⟩
theorem Cs.cells {W : World} {a g : Nat} {s : Sb} (h : Cs W a g s) : ∃ cap : Nat, W.cell? ⟨a, 0, none⟩ = some (.slice (some ⟨g, 0, none⟩) s.l.length cap) ∧ True ∧ True ∧ True := by
  obtain ⟨⟨c, x, y, z, h1⟩, _⟩ := h
  exact ⟨c, h1.cell 0, trivial, trivial, trivial⟩
theorem Cs.one {W : World} {a g : Nat} {s : Sb} (h : Cs W a g s) (i : Nat) (t : Ce) (ht : s.l[i]? = some t) : W.cell? ⟨g, i * 3, none⟩ = some t.x ∧ W.cell? ⟨g, i * 3 + 1, none⟩ = some (.int .u32 t.u) ∧ W.cell? ⟨g, i * 3 + 2, none⟩ = some (.bool t.t) := by
  obtain ⟨_, r, h1⟩ := h
  obtain ⟨a0, a1, a2⟩ := cec_at s.l i t ht
  have hl := cec_length s.l
  have hi := (List.getElem?_eq_some_iff.1 ht).1
  refine ⟨(h1.cell _).trans ?_, (h1.cell _).trans ?_, (h1.cell _).trans ?_⟩
  · rw [List.getElem?_toArray, cec_app _ _ _ (by omega)]; exact a0
  · rw [List.getElem?_toArray, cec_app _ _ _ (by omega)]; exact a1
  · rw [List.getElem?_toArray, cec_app _ _ _ (by omega)]; exact a2
/-- The taken places among those from lo on that are less than k. -/
def ut (l : List Ce) (lo : Nat) : Nat → List Nat
  | 0 => []
  | k + 1 => ut l lo k ++ (if lo ≤ k ∧ ((l[k]?).map Ce.tk).getD false = true then [k] else [])
theorem ut_nil {l : List Ce} {lo k : Nat} (h : ∀ i, lo ≤ i → i < k → ((l[i]?).map Ce.tk).getD false = false) : ut l lo k = [] := by
  induction k with
  | zero => rfl
  | succ k ih =>
    rw [ut, ih (fun i h1 h2 => h i h1 (by omega))]
    split
    · rename_i hk
      rw [h k hk.1 (by omega)] at hk
      simp at hk
    · rfl
theorem tkn_any (x : Value) (u : Int) (t b : Bool) (hb : t = b) (w : World) :
    Calls Try.prog 38 #[.agg #[x, .int .u32 u, .bool t]] w fun e w' => e = .returned (.bool b) ∧ Below w.heap.size w w' := by
  subst hb
  go_enter Try.func38, Try.ntmps38
  go_wp2_with fail
  go_ret
  exact ⟨rfl, Below.new (Below.refl _ _) _⟩
theorem ut_no {s : Sb} {lo k : Nat} {t : Ce} (ht : s.l[k]? = some t) (hb : t.tk = false) : ut s.l lo (k + 1) = ut s.l lo k := by
  rw [ut, ht]
  simp [hb]
theorem ut_yes {s : Sb} {lo k : Nat} {t : Ce} (hk : lo ≤ k) (ht : s.l[k]? = some t) (hb : t.tk = true) : ut s.l lo (k + 1) = ut s.l lo k ++ [k] := by
  rw [ut, ht, if_pos ⟨hk, by simpa using hb⟩]
attribute [local go_sem] Oper.semAt_some

set_option maxRecDepth 100000 in
set_option maxHeartbeats 2000000 in
theorem from1A_in (n : Nat) (hn : 1 ≤ n) (l Bi Bc Bf a : Nat) (S : List Nat) (s : Sb) (lo : Nat) (hlo : lo ≤ s.l.length) (hM : s.l.length ≤ 5000) (J Jx : List Nat → World → Prop)
    (hY : ∀ (k : Nat) (W : World), k < s.l.length → lo ≤ k → ((s.l[k]?).map Ce.tk).getD false = true → J (ut s.l lo k) W → YieldAt Fence.wide (n - 1) Try.prog l #[.int .i64 (k : Int)] W fun e W' =>
      (e = .returned (.bool true) ∧ J (ut s.l lo k ++ [k]) W' ∧ Turned S W W') ∨ (e = .returned (.bool false) ∧ Jx (ut s.l lo k ++ [k]) W'))
    (hAB : ∀ s X Y, Below X.heap.size X Y → J s X → J s Y)
    (W : World) (g : Nat) (hA : Cs W a g s) (hi : W.cell? ⟨Bi, 0, none⟩ = some (.int .i64 (lo : Int))) (hc : W.cell? ⟨Bc, 0, none⟩ = some (.pointer (some ⟨a, 0, none⟩))) (hf : W.cell? ⟨Bf, 0, none⟩ = some (.func (.func 38) #[] #[]))
    (hb : (Bi < W.heap.size ∧ Bi ∉ S) ∧ (Bc < W.heap.size ∧ Bc ∉ S) ∧ (Bf < W.heap.size ∧ Bf ∉ S) ∧ (a < W.heap.size ∧ a ∉ S) ∧ (g < W.heap.size ∧ g ∉ S)) (h0 : J [] W) :
    CallsIn Fence.wide n Try.prog 48 #[.func (.yield l) #[] #[], .pointer (some ⟨Bi, 0, none⟩), .pointer (some ⟨Bc, 0, none⟩), .pointer (some ⟨Bf, 0, none⟩)] W fun e W' => (∃ v, e = .returned v) ∧
      (J (ut s.l lo s.l.length) W' ∨ (∃ k, k ≤ s.l.length ∧ Jx (ut s.l lo k) W')) := by
  refine callsIn_of_wp Try.func48 rfl trivial ?_ rfl
  simp only [Try.ntmps48, List.size_toArray, List.length_cons, List.length_nil, Nat.reduceAdd, Nat.reduceSub, Array.replicate_succ, Array.replicate_zero, List.push_toArray, List.append_toArray, List.nil_append, List.cons_append]
  gi_wp2
  gi_loopw [5] (fun i wr => ∃ k : Nat, lo ≤ k ∧ k ≤ s.l.length ∧ i = .int .i64 k ∧ J (ut s.l lo k) wr ∧ Turned S W wr) (fun i _ => s.l.length - (intOf i).toNat)
  case atStart => exact ⟨lo, Nat.le_refl _, hlo, rfl, by rw [ut_nil (fun i h1 h2 => by omega)]; exact h0, Turned.refl _ _⟩
  case round =>
    obtain ⟨k, hk1, hk2, rfl, hJ, hB⟩ := hrel
    by_cases hlt : k < s.l.length
    · obtain ⟨t, ht⟩ : ∃ t, s.l[k]? = some t := ⟨s.l[k], List.getElem?_eq_getElem hlt⟩
      have e9 := hA.one k t ht
      obtain ⟨cc, c0, c1, c2, c3⟩ := hA.cells
      have low : ∀ b o, (b < W.heap.size ∧ b ∉ S) → wr.cell? ⟨b, o, none⟩ = W.cell? ⟨b, o, none⟩ := fun b o h => World.cell?_of_block (a := ⟨b, o, none⟩) (hB.block b h.1 h.2)
      have d0 := (low Bi 0 hb.1).trans hi
      have d1 := (low Bc 0 hb.2.1).trans hc
      have d2 := (low Bf 0 hb.2.2.1).trans hf
      have d3 := (low a 0 hb.2.2.2.1).trans c0
      have x0 := (low g (k * 3) hb.2.2.2.2).trans e9.1
      have x1 := (low g (k * 3 + 1) hb.2.2.2.2).trans e9.2.1
      have x2 := (low g (k * 3 + 2) hb.2.2.2.2).trans e9.2.2
      obtain ⟨tx, tu, tt⟩ := t
      dsimp only at x0 x1 x2
      obtain ⟨nn, hnn⟩ : ∃ nn : Nat, s.l.length = nn := ⟨_, rfl⟩
      rw [hnn] at d3 hlt hM
      have q0 : (0 : Int) ≤ (k : Int) := Int.natCast_nonneg _
      have q1 : (k : Int) < (nn : Int) := by omega
      have q2 : decide (k < nn) = true := decide_eq_true hlt
      obtain ⟨b, hbb⟩ : ∃ b, tt = b := ⟨_, rfl⟩
      have HUS := Lib.hid (fun w => tkn_any tx tu tt b hbb w)
      have HJ := Lib.hid hJ
      have HB := Lib.hid hB
      have HB0 := Lib.hid hb
      have HNN := Lib.hid hnn
      have HY := Lib.hid hY
      have HAB := Lib.hid hAB
      have HBB := Lib.hid hbb
      have HT := Lib.hid ht
      clear low e9 c0 c1 c2 c3 hi hc hf hJ hB hb hnn hY hbb h0 hA ht hk2 hAB
      cases b
      · gi_wp2
        refine region_mix [2, 3, 5, 6, 9, 10, 11, 12, 13, 14] [0, 0, 2, 6, 14, 0, 62, 126, 255, 511, 1023, 1023, 4095, 8191, 16383] [5, 0, 1, 2, 3, 4, 6, 7, 8, 9, 10, 11, 12, 13, 14] (by kernel_rfl) rfl (by kernel_rfl) ?_
        refine mix_pure (v := ?_) (by simp only [List.getElem?_toArray, List.getElem?_cons_succ, List.getElem?_cons_zero] <;> rfl) (by kernel_rfl) ⟨Or.inl ⟨by kernel_rfl, ?_⟩, fun _ => (by rfl)⟩ ?_; rotate_left 1; focus (intro w; go_simp; try with_reducible rfl)
        simp only [Act.put, List.setIfInBounds_toArray, List.set_cons_zero, List.set_cons_succ]
        refine mix_step (by simp only [List.getElem?_toArray, List.getElem?_cons_zero] <;> rfl) (by kernel_rfl) (fun K hK => ?_)
        go_simp
        refine hK _ _ ?_
        clear hK K
        refine mix_step (by simp only [List.getElem?_toArray, List.getElem?_cons_succ, List.getElem?_cons_zero] <;> rfl) (by kernel_rfl) (fun K hK => ?_)
        go_simp
        refine hK _ _ ?_
        clear hK K
        refine mix_pure (v := ?_) (by simp only [List.getElem?_toArray, List.getElem?_cons_succ, List.getElem?_cons_zero] <;> rfl) (by kernel_rfl) ⟨Or.inl ⟨by kernel_rfl, ?_⟩, fun _ => (by rfl)⟩ ?_; rotate_left 1; focus (intro w; go_simp; try with_reducible rfl)
        simp only [Act.put, List.setIfInBounds_toArray, List.set_cons_zero, List.set_cons_succ]
        refine mix_pure (v := ?_) (by simp only [List.getElem?_toArray, List.getElem?_cons_succ, List.getElem?_cons_zero] <;> rfl) (by kernel_rfl) ⟨Or.inl ⟨by kernel_rfl, ?_⟩, fun _ => (by rfl)⟩ ?_; rotate_left 1; focus (intro w; go_simp; try with_reducible rfl)
        simp only [Act.put, List.setIfInBounds_toArray, List.set_cons_zero, List.set_cons_succ]
        refine mix_step (by simp only [List.getElem?_toArray, List.getElem?_cons_succ, List.getElem?_cons_zero] <;> rfl) (by kernel_rfl) (fun K hK => ?_)
        go_simp
        refine hK _ _ ?_
        clear hK K
        refine mix_pure (v := ?_) (by simp only [List.getElem?_toArray, List.getElem?_cons_succ, List.getElem?_cons_zero] <;> rfl) (by kernel_rfl) ⟨Or.inl ⟨by kernel_rfl, ?_⟩, fun _ => (by rfl)⟩ ?_; rotate_left 1; focus (intro w; go_simp; try with_reducible rfl)
        simp only [Act.put, List.setIfInBounds_toArray, List.set_cons_zero, List.set_cons_succ]
        refine mix_step (by simp only [List.getElem?_toArray, List.getElem?_cons_succ, List.getElem?_cons_zero] <;> rfl) (by kernel_rfl) (fun K hK => ?_)
        go_simp
        refine hK _ _ ?_
        clear hK K
        refine mix_step (by simp only [List.getElem?_toArray, List.getElem?_cons_succ, List.getElem?_cons_zero] <;> rfl) (by kernel_rfl) (fun K hK => ?_)
        go_simp
        gi_wp2_with (refine ⟨trivial, ?_⟩; gi_at_call 38; refine (callsIn_wide.2 (HUS.out _)).mono ?_; rintro e w2 ⟨rfl, hb2⟩)
        have HB2 : Hid (Below wr.heap.size wr w2) := by show Below _ _ _; exact Below.step (Below.refl _ _).drew hb2
        clear hb2 d0 d1 d2 d3 x0 x1 x2
        refine mix_pure (v := ?_) (by simp only [List.getElem?_toArray, List.getElem?_cons_succ, List.getElem?_cons_zero] <;> rfl) (by kernel_rfl) ⟨Or.inl ⟨by kernel_rfl, ?_⟩, fun _ => (by rfl)⟩ ?_; rotate_left 1; focus (intro w; go_simp; try with_reducible rfl)
        simp only [Act.put, List.setIfInBounds_toArray, List.set_cons_zero, List.set_cons_succ]
        refine mix_pure (v := undef) (by simp only [List.getElem?_toArray, List.getElem?_cons_succ, List.getElem?_cons_zero] <;> rfl) (by kernel_rfl) ⟨Or.inr ⟨by kernel_rfl, rfl⟩, fun _ => (by rfl)⟩ ?_
        simp only [Act.put, List.setIfInBounds_toArray, List.set_cons_zero, List.set_cons_succ]
        refine mix_pure (v := undef) (by simp only [List.getElem?_toArray, List.getElem?_cons_succ, List.getElem?_cons_zero] <;> rfl) (by kernel_rfl) ⟨Or.inr ⟨by kernel_rfl, rfl⟩, fun _ => (by rfl)⟩ ?_
        simp only [Act.put, List.setIfInBounds_toArray, List.set_cons_zero, List.set_cons_succ]
        refine mix_pure (v := undef) (by simp only [List.getElem?_toArray, List.getElem?_cons_succ, List.getElem?_cons_zero] <;> rfl) (by kernel_rfl) ⟨Or.inr ⟨by kernel_rfl, rfl⟩, fun _ => (by rfl)⟩ ?_
        simp only [Act.put, List.setIfInBounds_toArray, List.set_cons_zero, List.set_cons_succ]
        refine mix_pure (v := undef) (by simp only [List.getElem?_toArray, List.getElem?_cons_succ, List.getElem?_cons_zero] <;> rfl) (by kernel_rfl) ⟨Or.inr ⟨by kernel_rfl, rfl⟩, fun _ => (by rfl)⟩ ?_
        simp only [Act.put, List.setIfInBounds_toArray, List.set_cons_zero, List.set_cons_succ]
        refine mix_pure (v := ?_) (by simp only [List.getElem?_toArray, List.getElem?_cons_succ, List.getElem?_cons_zero] <;> rfl) (by kernel_rfl) ⟨Or.inl ⟨by kernel_rfl, ?_⟩, fun _ => (by rfl)⟩ ?_; rotate_left 1; focus (intro w; go_simp; try with_reducible rfl)
        simp only [Act.put, List.setIfInBounds_toArray, List.set_cons_zero, List.set_cons_succ]
        refine mix_end ?_
        gi_wp2
        go_roundw
        case rel => exact ⟨k + 1, by omega, by have := HNN.out; omega, rfl, by rw [ut_no HT.out HBB.out]; exact HAB.out _ _ _ HB2.out HJ.out, HB.out.trans (Turned.of_below HB2.out)⟩
        case measure => have := HNN.out; simp [intOf] <;> omega
      · gi_wp2
        refine region_mix [2, 3, 5, 6, 9, 10, 11, 13, 14] [0, 0, 2, 6, 14, 0, 62, 126, 255, 511, 1023, 1023, 4095, 8191, 16383] [5, 0, 1, 2, 3, 4, 6, 7, 8, 9, 10, 11, 12, 13, 14] (by kernel_rfl) rfl (by kernel_rfl) ?_
        refine mix_pure (v := ?_) (by simp only [List.getElem?_toArray, List.getElem?_cons_succ, List.getElem?_cons_zero] <;> rfl) (by kernel_rfl) ⟨Or.inl ⟨by kernel_rfl, ?_⟩, fun _ => (by rfl)⟩ ?_; rotate_left 1; focus (intro w; go_simp; try with_reducible rfl)
        simp only [Act.put, List.setIfInBounds_toArray, List.set_cons_zero, List.set_cons_succ]
        refine mix_step (by simp only [List.getElem?_toArray, List.getElem?_cons_zero] <;> rfl) (by kernel_rfl) (fun K hK => ?_)
        go_simp
        refine hK _ _ ?_
        clear hK K
        refine mix_step (by simp only [List.getElem?_toArray, List.getElem?_cons_succ, List.getElem?_cons_zero] <;> rfl) (by kernel_rfl) (fun K hK => ?_)
        go_simp
        refine hK _ _ ?_
        clear hK K
        refine mix_pure (v := ?_) (by simp only [List.getElem?_toArray, List.getElem?_cons_succ, List.getElem?_cons_zero] <;> rfl) (by kernel_rfl) ⟨Or.inl ⟨by kernel_rfl, ?_⟩, fun _ => (by rfl)⟩ ?_; rotate_left 1; focus (intro w; go_simp; try with_reducible rfl)
        simp only [Act.put, List.setIfInBounds_toArray, List.set_cons_zero, List.set_cons_succ]
        refine mix_pure (v := ?_) (by simp only [List.getElem?_toArray, List.getElem?_cons_succ, List.getElem?_cons_zero] <;> rfl) (by kernel_rfl) ⟨Or.inl ⟨by kernel_rfl, ?_⟩, fun _ => (by rfl)⟩ ?_; rotate_left 1; focus (intro w; go_simp; try with_reducible rfl)
        simp only [Act.put, List.setIfInBounds_toArray, List.set_cons_zero, List.set_cons_succ]
        refine mix_step (by simp only [List.getElem?_toArray, List.getElem?_cons_succ, List.getElem?_cons_zero] <;> rfl) (by kernel_rfl) (fun K hK => ?_)
        go_simp
        refine hK _ _ ?_
        clear hK K
        refine mix_pure (v := ?_) (by simp only [List.getElem?_toArray, List.getElem?_cons_succ, List.getElem?_cons_zero] <;> rfl) (by kernel_rfl) ⟨Or.inl ⟨by kernel_rfl, ?_⟩, fun _ => (by rfl)⟩ ?_; rotate_left 1; focus (intro w; go_simp; try with_reducible rfl)
        simp only [Act.put, List.setIfInBounds_toArray, List.set_cons_zero, List.set_cons_succ]
        refine mix_step (by simp only [List.getElem?_toArray, List.getElem?_cons_succ, List.getElem?_cons_zero] <;> rfl) (by kernel_rfl) (fun K hK => ?_)
        go_simp
        refine hK _ _ ?_
        clear hK K
        refine mix_step (by simp only [List.getElem?_toArray, List.getElem?_cons_succ, List.getElem?_cons_zero] <;> rfl) (by kernel_rfl) (fun K hK => ?_)
        go_simp
        gi_wp2_with (refine ⟨trivial, ?_⟩; gi_at_call 38; refine (callsIn_wide.2 (HUS.out _)).mono ?_; rintro e w2 ⟨rfl, hb2⟩)
        have HB2 : Hid (Below wr.heap.size wr w2) := by show Below _ _ _; exact Below.step (Below.refl _ _).drew hb2
        clear hb2 d0 d1 d2 d3 x0 x1 x2
        refine mix_pure (v := ?_) (by simp only [List.getElem?_toArray, List.getElem?_cons_succ, List.getElem?_cons_zero] <;> rfl) (by kernel_rfl) ⟨Or.inl ⟨by kernel_rfl, ?_⟩, fun _ => (by rfl)⟩ ?_; rotate_left 1; focus (intro w; go_simp; try with_reducible rfl)
        simp only [Act.put, List.setIfInBounds_toArray, List.set_cons_zero, List.set_cons_succ]
        refine mix_pure (v := ?_) (by simp only [List.getElem?_toArray, List.getElem?_cons_succ, List.getElem?_cons_zero] <;> rfl) (by kernel_rfl) ⟨Or.inl ⟨by kernel_rfl, ?_⟩, fun _ => (by rfl)⟩ ?_; rotate_left 1; focus (intro w; go_simp; try with_reducible rfl)
        simp only [Act.put, List.setIfInBounds_toArray, List.set_cons_zero, List.set_cons_succ]
        refine mix_pure (v := ?_) (by simp only [List.getElem?_toArray, List.getElem?_cons_succ, List.getElem?_cons_zero] <;> rfl) (by kernel_rfl) ⟨Or.inl ⟨by kernel_rfl, ?_⟩, fun _ => (by rfl)⟩ ?_; rotate_left 1; focus (intro w; go_simp; try with_reducible rfl)
        simp only [Act.put, List.setIfInBounds_toArray, List.set_cons_zero, List.set_cons_succ]
        refine mix_step (by simp only [List.getElem?_toArray, List.getElem?_cons_succ, List.getElem?_cons_zero] <;> rfl) (by kernel_rfl) (fun K hK => ?_)
        go_simp
        obtain ⟨fn, tmps, assign, body, hy, hR⟩ := HY.out k w2 (by have := HNN.out; omega) hk1 (by rw [HT.out]; exact HBB.out) (HAB.out _ _ _ HB2.out HJ.out)
        rw [hy]
        refine ⟨fun h => (by cases h), hR.mono ?_⟩
        rintro e W3 (⟨rfl, hJ3, hk3⟩ | ⟨rfl, hJx3⟩)
        · have HJ3 := Lib.hid hJ3
          have HK3 := Lib.hid hk3
          clear hJ3 hk3 hR hy
          refine hK _ _ ?_
          clear hK K
          refine mix_pure (v := ?_) (by simp only [List.getElem?_toArray, List.getElem?_cons_succ, List.getElem?_cons_zero] <;> rfl) (by kernel_rfl) ⟨Or.inl ⟨by kernel_rfl, ?_⟩, fun _ => (by rfl)⟩ ?_; rotate_left 1; focus (intro w; go_simp; try with_reducible rfl)
          simp only [Act.put, List.setIfInBounds_toArray, List.set_cons_zero, List.set_cons_succ]
          refine mix_pure (v := ?_) (by simp only [List.getElem?_toArray, List.getElem?_cons_succ, List.getElem?_cons_zero] <;> rfl) (by kernel_rfl) ⟨Or.inl ⟨by kernel_rfl, ?_⟩, fun _ => (by rfl)⟩ ?_; rotate_left 1; focus (intro w; go_simp; try with_reducible rfl)
          simp only [Act.put, List.setIfInBounds_toArray, List.set_cons_zero, List.set_cons_succ]
          refine mix_end ?_
          gi_wp2
          go_roundw
          case rel => exact ⟨k + 1, by omega, by have := HNN.out; omega, rfl, by rw [ut_yes hk1 HT.out HBB.out]; exact HJ3.out, (HB.out.trans (Turned.of_below HB2.out)).trans HK3.out⟩
          case measure => have := HNN.out; simp [intOf] <;> omega
        · have HJ3 := Lib.hid hJx3
          clear hJx3 hR hy
          refine hK _ _ ?_
          clear hK K
          refine mix_pure (v := ?_) (by simp only [List.getElem?_toArray, List.getElem?_cons_succ, List.getElem?_cons_zero] <;> rfl) (by kernel_rfl) ⟨Or.inl ⟨by kernel_rfl, ?_⟩, fun _ => (by rfl)⟩ ?_; rotate_left 1; focus (intro w; go_simp; try with_reducible rfl)
          simp only [Act.put, List.setIfInBounds_toArray, List.set_cons_zero, List.set_cons_succ]
          refine mix_pure (v := ?_) (by simp only [List.getElem?_toArray, List.getElem?_cons_succ, List.getElem?_cons_zero] <;> rfl) (by kernel_rfl) ⟨Or.inl ⟨by kernel_rfl, ?_⟩, fun _ => (by rfl)⟩ ?_; rotate_left 1; focus (intro w; go_simp; try with_reducible rfl)
          simp only [Act.put, List.setIfInBounds_toArray, List.set_cons_zero, List.set_cons_succ]
          refine mix_end ?_
          gi_wp2
          refine bodyPost_ret (results_none rfl _ _ _) rfl ?_
          exact ⟨⟨_, rfl⟩, .inr ⟨k + 1, by have := HNN.out; omega, by rw [ut_yes hk1 HT.out HBB.out]; exact HJ3.out⟩⟩
    · obtain rfl : k = s.l.length := by omega
      obtain ⟨cc, c0, c1, c2, c3⟩ := hA.cells
      have low : ∀ b o, (b < W.heap.size ∧ b ∉ S) → wr.cell? ⟨b, o, none⟩ = W.cell? ⟨b, o, none⟩ := fun b o h => World.cell?_of_block (a := ⟨b, o, none⟩) (hB.block b h.1 h.2)
      have d1 := (low Bc 0 hb.2.1).trans hc
      have d3 := (low a 0 hb.2.2.2.1).trans c0
      have HJ := Lib.hid hJ
      clear low c0 c1 c2 c3 hi hc hf hJ hB hb hY h0 hA hAB
      gi_wp2
      go_end0
      exact ⟨⟨_, rfl⟩, .inl HJ.out⟩

/-- What the iterator yields next. -/
def NextT (s : Sb) (lo : Nat) (q : List Nat) : Prop := ∃ k t, s.l[k]? = some t ∧ t.t = true ∧ lo ≤ k ∧ q = ut s.l lo k ++ [k]
/-- What the value of from(..) gives to a range over it. -/
theorem fromA_own (n : Nat) (hn : 1 ≤ n) (Bi Bc Bf : Nat) (S : List Nat) (s : Sb) (lo : Nat) (hlo : lo ≤ s.l.length) (hM : s.l.length ≤ 5000) (w : World) (a g : Nat) (hA : Cs w a g s)
    (hi : w.cell? ⟨Bi, 0, none⟩ = some (.int .i64 (lo : Int))) (hc : w.cell? ⟨Bc, 0, none⟩ = some (.pointer (some ⟨a, 0, none⟩))) (hf : w.cell? ⟨Bf, 0, none⟩ = some (.func (.func 38) #[] #[]))
    (hb : (Bi < w.heap.size ∧ Bi ∉ S) ∧ (Bc < w.heap.size ∧ Bc ∉ S) ∧ (Bf < w.heap.size ∧ Bf ∉ S) ∧ (a < w.heap.size ∧ a ∉ S) ∧ (g < w.heap.size ∧ g ∉ S)) :
    SeqOwn Fence.wide n Try.prog 48 #[.pointer (some ⟨Bi, 0, none⟩), .pointer (some ⟨Bc, 0, none⟩), .pointer (some ⟨Bf, 0, none⟩)] (fun x : Nat => #[Value.int .i64 (x : Int)]) (Turned S) (fun ys => ys = ut s.l lo s.l.length)
      (fun pre => ∃ k, k ≤ s.l.length ∧ pre = ut s.l lo k) (NextT s lo) w := fun l J Jx W hW _ hJ hJx hY h0 => by
  have hlt : ∀ b, b < w.heap.size ∧ b ∉ S → ∀ o, W.cell? ⟨b, o, none⟩ = w.cell? ⟨b, o, none⟩ := fun b h o => hW.cell (p := ⟨b, o, none⟩) (by show b < w.heap.size; exact h.1)
  have := from1A_in n hn l Bi Bc Bf a S s lo hlo hM J Jx
    (fun k W hk hk2 hu hj => by
      obtain ⟨t, ht, htt⟩ : ∃ t, s.l[k]? = some t ∧ t.t = true := by
        cases h : s.l[k]? with
        | none => rw [h] at hu; simp at hu
        | some t => rw [h] at hu; exact ⟨t, rfl, hu⟩
      obtain ⟨fn, tmps, asg, body, e, hR⟩ := hY (ut s.l lo k) k W ⟨k, t, ht, htt, hk2, rfl⟩ hj
      refine ⟨fn, tmps, asg, body, e, hR.mono ?_⟩
      rintro e W' ⟨hB, ⟨rfl, hJ2⟩ | ⟨rfl, hJ2⟩⟩
      · exact .inl ⟨rfl, hJ2, hB⟩
      · exact .inr ⟨rfl, hJ2⟩)
    (fun s X Y hB hj => hJ s X Y none hj ⟨hB.os, hB.tape, hB.output, hB.size, fun k hk _ => hB.block k hk⟩ (fun r e => by cases e)) W g (hA.below hW)
    ((hlt Bi hb.1 0).trans hi) ((hlt Bc hb.2.1 0).trans hc) ((hlt Bf hb.2.2.1 0).trans hf) (by have := hW.size; exact ⟨⟨by omega, hb.1.2⟩, ⟨by omega, hb.2.1.2⟩, ⟨by omega, hb.2.2.1.2⟩, ⟨by omega, hb.2.2.2.1.2⟩, ⟨by omega, hb.2.2.2.2.2⟩⟩) h0
  refine this.mono ?_
  rintro e W' ⟨he, h | ⟨k, hk, h⟩⟩
  · exact ⟨he, .inl ⟨_, rfl, h⟩⟩
  · exact ⟨he, .inr ⟨_, ⟨k, hk, rfl⟩, h⟩⟩
end Go.Proofs.Ytbbadkgmnfjfaaa.Si
