/- The iterator over the usable places of a slab. -/
import Derived.Test.YtbbadkgmnfjfaaaSi
import Derived.Test.YtbbadkgmnfjfaaaTakeM
import Derived.RangeFuncNested
import Derived.RangeFuncBound
import Derived.RangeFuncCalls
import Derived.RangeFuncLeaves
import Derived.Shelf.Abstract
import Derived.Shelf.RegionOpen
import Derived.OwnWalkIn
import Derived.TacticsInMore
import Derived.LoopNIn
import Derived.LoopIn
import Derived.Test.YtbbadkgmnfjfaaaMix
namespace Go.Proofs.Ytbbadkgmnfjfaaa.Si
open Go.RowKit Go.Shelf Go.Proofs.Ytbbadkgmnfjfaaa
theorem _root_.Go.RowKit.Below.size_le {n : Nat} {w w' : World} (h : Below n w w') (hn : n ≤ w.heap.size) : n ≤ w'.heap.size := Nat.le_trans hn h.size
theorem _root_.Go.RowKit.Below.step2 {n : Nat} {w w1 w2 : World} (h : Below n w w1) (k : Below w1.heap.size w1 w2) (hn : n ≤ w1.heap.size) : Below n w w2 := h.trans (k.mono hn)
theorem us_no {s : Sb} {lo k : Nat} {t : Ce} (ht : s.l[k]? = some t) (hb : t.usable = false) : us s.l lo (k + 1) = us s.l lo k := by
  rw [us, ht]
  simp [hb]
theorem us_yes {s : Sb} {lo k : Nat} {t : Ce} (hk : lo ≤ k) (ht : s.l[k]? = some t) (hb : t.usable = true) : us s.l lo (k + 1) = us s.l lo k ++ [k] := by
  rw [us, ht, if_pos ⟨hk, by simpa using hb⟩]
attribute [local go_sem] Oper.semAt_some

set_option maxRecDepth 100000 in
set_option maxHeartbeats 2000000 in
theorem from1_in (n : Nat) (hn : 1 ≤ n) (l Bi Bc Bf n₀ a : Nat) (s : Sb) (lo : Nat) (hlo : lo ≤ s.l.length) (hM : s.l.length ≤ 5000) (J Jx : List Nat → World → Prop)
    (hY : ∀ (k : Nat) (W : World), k < s.l.length → ((s.l[k]?).map Ce.usable).getD false = true → J (us s.l lo k) W → YieldAt Fence.wide (n - 1) Try.prog l #[.int .i64 (k : Int)] W fun e W' =>
      (e = .returned (.bool true) ∧ J (us s.l lo k ++ [k]) W' ∧ Below n₀ W W') ∨ (e = .returned (.bool false) ∧ Jx (us s.l lo k ++ [k]) W'))
    (hAB : ∀ s X Y, Below X.heap.size X Y → J s X → J s Y)
    (W : World) (p g : Nat) (hA : At W p a g s) (hi : W.cell? ⟨Bi, 0, none⟩ = some (.int .i64 (lo : Int))) (hc : W.cell? ⟨Bc, 0, none⟩ = some (.pointer (some ⟨a, 0, none⟩))) (hf : W.cell? ⟨Bf, 0, none⟩ = some (.func (.func 46) #[] #[]))
    (hb : Bi < n₀ ∧ Bc < n₀ ∧ Bf < n₀ ∧ a < n₀ ∧ g < n₀ ∧ p < n₀ ∧ n₀ ≤ W.heap.size) (h0 : J [] W) :
    CallsIn Fence.wide n Try.prog 48 #[.func (.yield l) #[] #[], .pointer (some ⟨Bi, 0, none⟩), .pointer (some ⟨Bc, 0, none⟩), .pointer (some ⟨Bf, 0, none⟩)] W fun e W' => (∃ v, e = .returned v) ∧
      (J (us s.l lo s.l.length) W' ∨ (∃ k, k ≤ s.l.length ∧ Jx (us s.l lo k) W')) := by
  refine callsIn_of_wp Try.func48 rfl trivial ?_ rfl
  simp only [Try.ntmps48, List.size_toArray, List.length_cons, List.length_nil, Nat.reduceAdd, Nat.reduceSub, Array.replicate_succ, Array.replicate_zero, List.push_toArray, List.append_toArray, List.nil_append, List.cons_append]
  gi_wp2
  gi_loopw [5] (fun i wr => ∃ k : Nat, lo ≤ k ∧ k ≤ s.l.length ∧ i = .int .i64 k ∧ J (us s.l lo k) wr ∧ Below n₀ W wr) (fun i _ => s.l.length - (intOf i).toNat)
  case atStart => exact ⟨lo, Nat.le_refl _, hlo, rfl, by rw [us_nil (fun i h1 h2 => by omega)]; exact h0, Below.refl _ _⟩
  case round =>
    obtain ⟨k, hk1, hk2, rfl, hJ, hB⟩ := hrel
    by_cases hlt : k < s.l.length
    · obtain ⟨t, ht⟩ : ∃ t, s.l[k]? = some t := ⟨s.l[k], List.getElem?_eq_getElem hlt⟩
      have e9 := hA.one k t ht
      obtain ⟨c, c0, c1, c2, c3⟩ := hA.cells
      have low : ∀ b o, b < n₀ → wr.cell? ⟨b, o, none⟩ = W.cell? ⟨b, o, none⟩ := fun b o h => hB.cell (p := ⟨b, o, none⟩) h
      have d0 := (low Bi 0 hb.1).trans hi
      have d1 := (low Bc 0 hb.2.1).trans hc
      have d2 := (low Bf 0 hb.2.2.1).trans hf
      have d3 := (low a 0 hb.2.2.2.1).trans c0
      have x0 := (low g (k * 3) hb.2.2.2.2.1).trans e9.1
      have x1 := (low g (k * 3 + 1) hb.2.2.2.2.1).trans e9.2.1
      have x2 := (low g (k * 3 + 2) hb.2.2.2.2.1).trans e9.2.2
      obtain ⟨tx, tu, tt⟩ := t
      dsimp only at x0 x1 x2
      obtain ⟨nn, hnn⟩ : ∃ nn : Nat, s.l.length = nn := ⟨_, rfl⟩
      rw [hnn] at d3 hlt hM
      have q0 : (0 : Int) ≤ (k : Int) := Int.natCast_nonneg _
      have q1 : (k : Int) < (nn : Int) := by omega
      have q2 : decide (k < nn) = true := decide_eq_true hlt
      have HUS := Lib.hid (fun w => usable_any tx tu tt w)
      obtain ⟨b, hbb⟩ : ∃ b, (!tt && decide (tu < 4294967295)) = b := ⟨_, rfl⟩
      rw [hbb] at HUS
      have HJ := Lib.hid hJ
      have HB := Lib.hid hB
      have HB0 := Lib.hid hb
      have HNN := Lib.hid hnn
      have HY := Lib.hid hY
      have HAB := Lib.hid hAB
      have HBB := Lib.hid hbb
      have HT := Lib.hid ht
      clear low e9 c c0 c1 c2 c3 hi hc hf hJ hB hb hnn hY hbb h0 hA ht hk2 hAB
      cases b
      · gi_wp2
        refine region_mix [2, 3, 5, 6, 9, 10, 11, 12, 13, 14] [0, 0, 2, 6, 14, 0, 62, 126, 255, 511, 1023, 1023, 4095, 8191, 16383] [5, 0, 1, 2, 3, 4, 6, 7, 8, 9, 10, 11, 12, 13, 14] (by kernel_rfl) rfl (by kernel_rfl) ?_
        refine mix_pure (v := ?_) rfl (by rfl) ⟨Or.inl ⟨by rfl, ?_⟩, fun _ => rfl⟩ ?_; rotate_left 1; focus (intro w; go_simp; try with_reducible rfl)
        refine mix_step rfl (by rfl) (fun K hK => ?_)
        go_simp
        refine hK _ _ ?_
        clear hK K
        refine mix_step rfl (by rfl) (fun K hK => ?_)
        go_simp
        refine hK _ _ ?_
        clear hK K
        refine mix_pure (v := ?_) rfl (by rfl) ⟨Or.inl ⟨by rfl, ?_⟩, fun _ => rfl⟩ ?_; rotate_left 1; focus (intro w; go_simp; try with_reducible rfl)
        refine mix_pure (v := ?_) rfl (by rfl) ⟨Or.inl ⟨by rfl, ?_⟩, fun _ => rfl⟩ ?_; rotate_left 1; focus (intro w; go_simp; try with_reducible rfl)
        refine mix_step rfl (by rfl) (fun K hK => ?_)
        go_simp
        refine hK _ _ ?_
        clear hK K
        refine mix_pure (v := ?_) rfl (by rfl) ⟨Or.inl ⟨by rfl, ?_⟩, fun _ => rfl⟩ ?_; rotate_left 1; focus (intro w; go_simp; try with_reducible rfl)
        refine mix_step rfl (by rfl) (fun K hK => ?_)
        go_simp
        refine hK _ _ ?_
        clear hK K
        refine mix_step rfl (by rfl) (fun K hK => ?_)
        go_simp
        gi_wp2_with (refine ⟨trivial, ?_⟩; gi_at_call 46; refine (callsIn_wide.2 (HUS.out _)).mono ?_; rintro e w2 ⟨rfl, hb2⟩)
        have HB2 : Hid (Below wr.heap.size wr w2) := by show Below _ _ _; exact Below.step (Below.refl _ _).drew hb2
        clear hb2 d0 d1 d2 d3 x0 x1 x2
        refine mix_pure (v := ?_) rfl (by rfl) ⟨Or.inl ⟨by rfl, ?_⟩, fun _ => rfl⟩ ?_; rotate_left 1; focus (intro w; go_simp; try with_reducible rfl)
        refine mix_pure (v := undef) rfl (by rfl) ⟨Or.inr ⟨by rfl, rfl⟩, fun _ => rfl⟩ ?_
        refine mix_pure (v := undef) rfl (by rfl) ⟨Or.inr ⟨by rfl, rfl⟩, fun _ => rfl⟩ ?_
        refine mix_pure (v := undef) rfl (by rfl) ⟨Or.inr ⟨by rfl, rfl⟩, fun _ => rfl⟩ ?_
        refine mix_pure (v := undef) rfl (by rfl) ⟨Or.inr ⟨by rfl, rfl⟩, fun _ => rfl⟩ ?_
        refine mix_pure (v := ?_) rfl (by rfl) ⟨Or.inl ⟨by rfl, ?_⟩, fun _ => rfl⟩ ?_; rotate_left 1; focus (intro w; go_simp; try with_reducible rfl)
        refine mix_end ?_
        gi_wp2
        go_roundw
        case rel => exact ⟨k + 1, by omega, by have := HNN.out; omega, rfl, by rw [us_no HT.out HBB.out]; exact HAB.out _ _ _ HB2.out HJ.out, HB.out.step2 HB2.out (HB.out.size_le HB0.out.2.2.2.2.2.2)⟩
        case measure => have := HNN.out; simp [intOf] <;> omega
      · gi_wp2
        refine region_mix [2, 3, 5, 6, 9, 10, 11, 13, 14] [0, 0, 2, 6, 14, 0, 62, 126, 255, 511, 1023, 1023, 4095, 8191, 16383] [5, 0, 1, 2, 3, 4, 6, 7, 8, 9, 10, 11, 12, 13, 14] (by kernel_rfl) rfl (by kernel_rfl) ?_
        refine mix_pure (v := ?_) rfl (by rfl) ⟨Or.inl ⟨by rfl, ?_⟩, fun _ => rfl⟩ ?_; rotate_left 1; focus (intro w; go_simp; try with_reducible rfl)
        refine mix_step rfl (by rfl) (fun K hK => ?_)
        go_simp
        refine hK _ _ ?_
        clear hK K
        refine mix_step rfl (by rfl) (fun K hK => ?_)
        go_simp
        refine hK _ _ ?_
        clear hK K
        refine mix_pure (v := ?_) rfl (by rfl) ⟨Or.inl ⟨by rfl, ?_⟩, fun _ => rfl⟩ ?_; rotate_left 1; focus (intro w; go_simp; try with_reducible rfl)
        refine mix_pure (v := ?_) rfl (by rfl) ⟨Or.inl ⟨by rfl, ?_⟩, fun _ => rfl⟩ ?_; rotate_left 1; focus (intro w; go_simp; try with_reducible rfl)
        refine mix_step rfl (by rfl) (fun K hK => ?_)
        go_simp
        refine hK _ _ ?_
        clear hK K
        refine mix_pure (v := ?_) rfl (by rfl) ⟨Or.inl ⟨by rfl, ?_⟩, fun _ => rfl⟩ ?_; rotate_left 1; focus (intro w; go_simp; try with_reducible rfl)
        refine mix_step rfl (by rfl) (fun K hK => ?_)
        go_simp
        refine hK _ _ ?_
        clear hK K
        refine mix_step rfl (by rfl) (fun K hK => ?_)
        go_simp
        gi_wp2_with (refine ⟨trivial, ?_⟩; gi_at_call 46; refine (callsIn_wide.2 (HUS.out _)).mono ?_; rintro e w2 ⟨rfl, hb2⟩)
        have HB2 : Hid (Below wr.heap.size wr w2) := by show Below _ _ _; exact Below.step (Below.refl _ _).drew hb2
        clear hb2 d0 d1 d2 d3 x0 x1 x2
        refine mix_pure (v := ?_) rfl (by rfl) ⟨Or.inl ⟨by rfl, ?_⟩, fun _ => rfl⟩ ?_; rotate_left 1; focus (intro w; go_simp; try with_reducible rfl)
        refine mix_pure (v := ?_) rfl (by rfl) ⟨Or.inl ⟨by rfl, ?_⟩, fun _ => rfl⟩ ?_; rotate_left 1; focus (intro w; go_simp; try with_reducible rfl)
        refine mix_pure (v := ?_) rfl (by rfl) ⟨Or.inl ⟨by rfl, ?_⟩, fun _ => rfl⟩ ?_; rotate_left 1; focus (intro w; go_simp; try with_reducible rfl)
        refine mix_step rfl (by rfl) (fun K hK => ?_)
        go_simp
        obtain ⟨fn, tmps, assign, body, hy, hR⟩ := HY.out k w2 (by have := HNN.out; omega) (by rw [HT.out]; exact HBB.out) (HAB.out _ _ _ HB2.out HJ.out)
        rw [hy]
        refine ⟨fun h => (by cases h), hR.mono ?_⟩
        rintro e W3 (⟨rfl, hJ3, hk3⟩ | ⟨rfl, hJx3⟩)
        · have HJ3 := Lib.hid hJ3
          have HK3 := Lib.hid hk3
          clear hJ3 hk3 hR hy
          refine hK _ _ ?_
          clear hK K
          refine mix_pure (v := ?_) rfl (by rfl) ⟨Or.inl ⟨by rfl, ?_⟩, fun _ => rfl⟩ ?_; rotate_left 1; focus (intro w; go_simp; try with_reducible rfl)
          refine mix_pure (v := ?_) rfl (by rfl) ⟨Or.inl ⟨by rfl, ?_⟩, fun _ => rfl⟩ ?_; rotate_left 1; focus (intro w; go_simp; try with_reducible rfl)
          refine mix_end ?_
          gi_wp2
          go_roundw
          case rel => exact ⟨k + 1, by omega, by have := HNN.out; omega, rfl, by rw [us_yes hk1 HT.out HBB.out]; exact HJ3.out, (HB.out.step2 HB2.out (HB.out.size_le HB0.out.2.2.2.2.2.2)).trans HK3.out⟩
          case measure => have := HNN.out; simp [intOf] <;> omega
        · have HJ3 := Lib.hid hJx3
          clear hJx3 hR hy
          refine hK _ _ ?_
          clear hK K
          refine mix_pure (v := ?_) rfl (by rfl) ⟨Or.inl ⟨by rfl, ?_⟩, fun _ => rfl⟩ ?_; rotate_left 1; focus (intro w; go_simp; try with_reducible rfl)
          refine mix_pure (v := ?_) rfl (by rfl) ⟨Or.inl ⟨by rfl, ?_⟩, fun _ => rfl⟩ ?_; rotate_left 1; focus (intro w; go_simp; try with_reducible rfl)
          refine mix_end ?_
          gi_wp2
          refine bodyPost_ret (results_none rfl _ _ _) rfl ?_
          exact ⟨⟨_, rfl⟩, .inr ⟨k + 1, by have := HNN.out; omega, by rw [us_yes hk1 HT.out HBB.out]; exact HJ3.out⟩⟩
    · obtain rfl : k = s.l.length := by omega
      obtain ⟨c, c0, c1, c2, c3⟩ := hA.cells
      have low : ∀ b o, b < n₀ → wr.cell? ⟨b, o, none⟩ = W.cell? ⟨b, o, none⟩ := fun b o h => hB.cell (p := ⟨b, o, none⟩) h
      have d1 := (low Bc 0 hb.2.1).trans hc
      have d3 := (low a 0 hb.2.2.2.1).trans c0
      have HJ := Lib.hid hJ
      clear low c c0 c1 c2 c3 hi hc hf hJ hB hb hY h0 hA hAB
      gi_wp2
      go_end0
      exact ⟨⟨_, rfl⟩, .inl HJ.out⟩

theorem us_len (l : List Ce) (lo : Nat) : ∀ k, (us l lo k).length ≤ k
  | 0 => Nat.le_refl _
  | k + 1 => by
    have := us_len l lo k
    rw [us, List.length_append]
    split <;> simp <;> omega
/-- A usable place. -/
abbrev Pl (s : Sb) := { i : Nat // ((s.l[i]?).map Ce.usable).getD false = true }
/-- What the value of from(..) gives to a range over it. -/
theorem from_stops (n : Nat) (hn : 1 ≤ n) (Bi Bc Bf n₀ : Nat) (s : Sb) (lo : Nat) (hlo : lo ≤ s.l.length) (hM : s.l.length ≤ 5000) (w : World) (p a g : Nat) (hA : At w p a g s)
    (hi : w.cell? ⟨Bi, 0, none⟩ = some (.int .i64 (lo : Int))) (hc : w.cell? ⟨Bc, 0, none⟩ = some (.pointer (some ⟨a, 0, none⟩))) (hf : w.cell? ⟨Bf, 0, none⟩ = some (.func (.func 46) #[] #[]))
    (hb : Bi < n₀ ∧ Bc < n₀ ∧ Bf < n₀ ∧ a < n₀ ∧ g < n₀ ∧ p < n₀ ∧ n₀ ≤ w.heap.size) :
    SeqStopsK Fence.wide n Try.prog 48 #[.pointer (some ⟨Bi, 0, none⟩), .pointer (some ⟨Bc, 0, none⟩), .pointer (some ⟨Bf, 0, none⟩)] (fun x : Pl s => #[Value.int .i64 (x.1 : Int)]) (Below n₀) (fun ys => ys.map (·.1) = us s.l lo s.l.length)
      (fun pre => ∃ k, k ≤ s.l.length ∧ pre.map (·.1) = us s.l lo k) s.l.length w := fun l J Jx W hW hAJ _ hY h0 => by
  have hlt : ∀ b, b < n₀ → ∀ o, W.cell? ⟨b, o, none⟩ = w.cell? ⟨b, o, none⟩ := fun b h o => hW.cell (p := ⟨b, o, none⟩) (by show b < w.heap.size; omega)
  have := from1_in n hn l Bi Bc Bf n₀ a s lo hlo hM (fun q W => ∃ y : List (Pl s), y.map (·.1) = q ∧ J y W) (fun q W => ∃ y : List (Pl s), y.map (·.1) = q ∧ Jx y W)
    (fun k W hk hu ⟨y, hy, hJ⟩ => by
      have hl : y.length < s.l.length := by
        have := us_len s.l lo k
        rw [← hy, List.length_map] at this
        omega
      obtain ⟨fn, tmps, assign, body, e, hR⟩ := hY y ⟨k, hu⟩ W hJ hl
      refine ⟨fn, tmps, assign, body, e, hR.mono ?_⟩
      rintro e W' (⟨rfl, hJ2, hB⟩ | ⟨rfl, hJ2⟩)
      · exact .inl ⟨rfl, ⟨y ++ [⟨k, hu⟩], by simp [hy], hJ2⟩, hB⟩
      · exact .inr ⟨rfl, ⟨y ++ [⟨k, hu⟩], by simp [hy], hJ2⟩⟩)
    (fun s X Y hB ⟨y, hy, hJ⟩ => ⟨y, hy, hAJ y X Y none hJ ⟨hB.os, hB.tape, hB.output, hB.size, fun k hk _ => hB.block k hk⟩ (fun r e => by cases e)⟩) W p g (hA.below hW)
    ((hlt _ hb.1 _).trans hi) ((hlt _ hb.2.1 _).trans hc) ((hlt _ hb.2.2.1 _).trans hf) (by have := hW.size; omega) ⟨[], rfl, h0⟩
  refine this.mono ?_
  rintro e W' ⟨he, ⟨y, hy, h⟩ | ⟨k, hk, y, hy, h⟩⟩
  · exact ⟨he, .inl ⟨y, hy, h⟩⟩
  · exact ⟨he, .inr ⟨y, ⟨k, hk, hy⟩, h⟩⟩
theorem from_any (a : Nat) (lo : Int) (fn : Fn) (w : World) :
    Calls Try.prog 37 #[.pointer (some ⟨a, 0, none⟩), .int .i64 lo, .func fn #[] #[]] w fun e w' => e = .returned (.func (.func 48) #[] #[.pointer (some ⟨w.heap.size + 1, 0, none⟩), .pointer (some ⟨w.heap.size, 0, none⟩), .pointer (some ⟨w.heap.size + 2, 0, none⟩)]) ∧
      w' = ((w.alloc (.cells #[.pointer (some ⟨a, 0, none⟩)] 62)).alloc (.cells #[.int .i64 lo] 3)).alloc (.cells #[.func fn #[] #[]] 83) := by
  go_enter Try.func37, Try.ntmps37
  go_wp2_with fail
  go_ret
  exact ⟨rfl, rfl⟩
end Go.Proofs.Ytbbadkgmnfjfaaa.Si
