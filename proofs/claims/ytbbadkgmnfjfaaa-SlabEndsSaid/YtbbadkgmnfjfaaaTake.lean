/- Take. -/
import Derived.Test.YtbbadkgmnfjfaaaFrom
import Derived.Test.YtbbadkgmnfjfaaaFreshK
import Derived.Laws.EntriesVeiled
namespace Go.Proofs.Ytbbadkgmnfjfaaa.Si
open Go.RowKit Go.Shelf Go.Proofs.Ytbbadkgmnfjfaaa
attribute [local go_sem] Oper.semAt_some

theorem At.kept {W W' : World} {row : Option Nat} {p a g : Nat} {s : Sb} (h : At W p a g s) (hg : W.grownBy W' row) (hr : ∀ r, row = some r → ∃ o : Obj, W.heap[r]? = some o ∧ o.isCells = false) : At W' p a g s := ⟨h.hp.kept hg hr, h.ha.kept hg hr, h.hg.kept hg hr⟩

theorem At.off {W : World} {p a g q : Nat} {s : Sb} (h : At W p a g s) (hp : p ≠ q) (ha : a ≠ q) (hg : g ≠ q) (i : Nat) (v : Value) : At (W.setCell ⟨q, i, none⟩ v) p a g s := ⟨h.hp.other hp i v, h.ha.other ha i v, h.hg.other hg i v⟩
theorem us_pre (l : List Ce) (lo k : Nat) : ∀ m, us l lo k <+: us l lo (k + m)
  | 0 => List.prefix_refl _
  | m + 1 => by
    rw [show k + (m + 1) = k + m + 1 from rfl, us]
    exact (us_pre l lo k m).trans (List.prefix_append _ _)
theorem us_first {l : List Ce} {lo k i : Nat} (h : us l lo k = [i]) (hk : k ≤ l.length) : (us l lo l.length).head? = some i := by
  obtain ⟨m, hm⟩ : ∃ m, l.length = k + m := ⟨l.length - k, by omega⟩
  have := us_pre l lo k m
  rw [h, ← hm] at this
  obtain ⟨r, hr⟩ := this
  rw [← hr]
  rfl
/-- What take leaves. -/
def Took (W W' : World) (p a g : Nat) (s : Sb) (lo : Nat) (v : Value) (e : Ending) : Prop :=
  match (takeSb s lo v).2 with
  | none => e = .returned (.tuple #[refV 0 0, .bool false]) ∧ Turned [a, g] W W' ∧ At W' p a g s
  | some (i, u) => e = .returned (.tuple #[refV i u, .bool true]) ∧ Turned [a, g] W W' ∧ At W' p a g (takeSb s lo v).1

def TIx (w : World) (p a g : Nat) (s : Sb) (v : Value) (c : Code) (pre : List (Pl s)) (W : World) : Prop := c = .ret ∧ ∃ (x : Pl s) (t : Ce), pre = [x] ∧ s.l[x.1]? = some t ∧ Fresh W (w.heap.size + 2) #[.int .i64 (x.1 : Int), .int .u32 (t.u + 1)] 36 ∧ Fresh W (w.heap.size + 3) #[.bool true] 4 ∧
      At W p a g { s with l := s.l.set x.1 ⟨v, t.u + 1, true⟩, len := s.len + 1, left := s.left - 1, low := (x.1 : Int) + 1 } ∧ Turned [a, g] w W
set_option maxRecDepth 100000 in
set_option maxHeartbeats 4000000 in
theorem take_in (n : Nat) (hn : 3 ≤ n) {w : World} {p a g : Nat} {s : Sb} (hA : At w p a g s) (y : Int) (lo : Nat) (hlo : lo ≤ s.l.length) (hlow : s.low = lo) (hM : s.l.length ≤ 5000) (hU : ∀ t ∈ s.l, 0 ≤ t.u) (hln : -10000 ≤ s.len ∧ s.len ≤ 10000) (hlf : -10000 ≤ s.left ∧ s.left ≤ 10000) :
    CallsIn Fence.wide n Try.prog 34 #[.pointer (some ⟨a, 0, none⟩), .int .i64 y] w fun e W' => Took w W' p a g s lo (.int .i64 y) e := by
  have h1 : 1 ≤ n := by omega
  refine callsIn_of_wp_marks Try.func34 rfl trivial ?_ rfl
  simp only [Try.ntmps34, List.size_toArray, List.length_cons, List.length_nil, Nat.reduceAdd, Nat.reduceSub, Array.replicate_succ, Array.replicate_zero, List.push_toArray, List.append_toArray, List.nil_append, List.cons_append]
  gi_wp2
  -- the world in which the region begins
  obtain ⟨W1, hW1⟩ : ∃ W1, W1 = (((w.alloc (.cells #[.pointer (some ⟨a, 0, none⟩)] 62)).alloc (.cells #[.int .i64 y] 3)).alloc (.cells #[.int .i64 0, .int .u32 0] 36)).alloc (.cells #[.bool false] 4) := ⟨_, rfl⟩
  rw [← hW1]
  have sz1 : W1.heap.size = w.heap.size + 4 := by rw [hW1]; simp
  have B1 : Below w.heap.size w W1 := by rw [hW1]; exact Below.new (Below.new (Below.new (Below.new (Below.refl _ _) _) _) _) _
  have A1 : At W1 p a g s := hA.below B1
  have f2 : Fresh W1 w.heap.size #[.pointer (some ⟨a, 0, none⟩)] 62 := by rw [hW1]; exact (((Fresh.new _ _ _ _ rfl).alloc _).alloc _).alloc _
  have f3 : Fresh W1 (w.heap.size + 1) #[.int .i64 y] 3 := by rw [hW1]; exact ((Fresh.new _ _ _ _ (by simp)).alloc _).alloc _
  have f4 : Fresh W1 (w.heap.size + 2) #[.int .i64 0, .int .u32 0] 36 := by rw [hW1]; exact (Fresh.new _ _ _ _ (by simp)).alloc _
  have f5 : Fresh W1 (w.heap.size + 3) #[.bool false] 4 := by rw [hW1]; exact Fresh.new _ _ _ _ (by simp)
  have d2 := f2.cell 0
  obtain ⟨c, c0, c1, c2, c3⟩ := A1.cells
  rw [hlow] at c3
  clear hW1
  refine region_mix [2, 3] [0, 0, 2, 6, 14, 31] [0, 1, 2, 3, 4, 5] (by kernel_rfl) rfl (by kernel_rfl) ?_
  refine mix_step rfl (by rfl) (fun K hK => ?_)
  go_simp
  refine hK _ _ ?_
  clear hK K
  refine mix_step rfl (by rfl) (fun K hK => ?_)
  go_simp
  refine hK _ _ ?_
  clear hK K
  refine mix_pure (v := ?_) rfl (by rfl) ⟨Or.inl ⟨by rfl, ?_⟩, fun _ => rfl⟩ ?_; rotate_left 1; focus (intro w; go_simp; try with_reducible rfl)
  refine mix_pure (v := ?_) rfl (by rfl) ⟨Or.inl ⟨by rfl, ?_⟩, fun _ => rfl⟩ ?_; rotate_left 1; focus (intro w; go_simp; try with_reducible rfl)
  refine mix_step rfl (by rfl) (fun K hK => ?_)
  go_simp
  refine hK _ _ ?_
  clear hK K
  refine mix_step rfl (by rfl) (fun K hK => ?_)
  go_simp
  gi_wp2_with (refine ⟨trivial, ?_⟩; gi_at_call 37; refine (callsIn_wide.2 (from_any _ _ _ _)).mono ?_; rintro e w2 ⟨rfl, rfl⟩)
  refine mix_end ?_
  gi_wp2
  obtain ⟨WL, hWL⟩ : ∃ WL, WL = (((W1.alloc (.cells #[.pointer (some ⟨a, 0, none⟩)] 62)).alloc (.cells #[.int .i64 lo] 3)).alloc (.cells #[.func (.func 46) #[] #[]] 83)).drew := ⟨_, rfl⟩
  have szL : WL.heap.size = w.heap.size + 7 := by rw [hWL]; simp [sz1]
  have B2 : Below W1.heap.size W1 WL := by rw [hWL]; exact (Below.new (Below.new (Below.new (Below.refl _ _) _) _) _).drew
  have g0 : WL.cell? ⟨w.heap.size + 4, 0, none⟩ = some (.pointer (some ⟨a, 0, none⟩)) := by
    have : Fresh WL (w.heap.size + 4) #[.pointer (some ⟨a, 0, none⟩)] 62 := by rw [hWL]; exact (((Fresh.new _ _ _ _ (by simp [sz1])).alloc _).alloc _).drew
    exact this.cell 0
  have g1 : WL.cell? ⟨w.heap.size + 5, 0, none⟩ = some (.int .i64 lo) := by
    have : Fresh WL (w.heap.size + 5) #[.int .i64 lo] 3 := by rw [hWL]; exact ((Fresh.new _ _ _ _ (by simp [sz1])).alloc _).drew
    exact this.cell 0
  have g2 : WL.cell? ⟨w.heap.size + 6, 0, none⟩ = some (.func (.func 46) #[] #[]) := by
    have : Fresh WL (w.heap.size + 6) #[.func (.func 46) #[] #[]] 83 := by rw [hWL]; exact (Fresh.new _ _ _ _ (by simp [sz1])).drew
    exact this.cell 0
  have AL : At WL p a g s := A1.below B2
  have l2 := f2.below B2
  have l3 := f3.below B2
  have l4 := f4.below B2
  have l5 := f5.below B2
  have BL : Below w.heap.size w WL := Below.step B1 B2
  have hpl := hA.hp.lt
  have hal := hA.ha.lt
  have hgl := hA.hg.lt
  have hwp := hA.pg
  have hwag := hA.ag
  rw [← hWL]
  clear hWL B1 B2 A1 f2 f3 f4 f5 d2 c c0 c1 c2 c3
  refine wpIn_rangeFunc_ownG rfl h1 (gf := 48) (lb := #[.pointer (some ⟨w.heap.size + 5, 0, none⟩), .pointer (some ⟨w.heap.size + 4, 0, none⟩), .pointer (some ⟨w.heap.size + 6, 0, none⟩)]) rfl trivial (enters_of Try.func48 (by kernel_rfl) rfl)
    (from_stops (n - 1) (by omega) (w.heap.size + 5) (w.heap.size + 4) (w.heap.size + 6) WL.heap.size s lo hlo hM WL p a g AL g1 g0 g2 (by omega)) belowK_t (belowK_b (Nat.le_refl _)) (Below.refl _ _) (fun _ => rfl)
    (fun pre W => pre = [] ∧ Below WL.heap.size WL W)
    (fun c pre W => TIx w p a g s (.int .i64 y) c pre W)
    (OwnFrom.and (ownFrom_pure _ _) (ownFrom_below (Nat.le_refl _) (Nat.le_refl _)))
    (fun c => fun pre A B row hs hg hr => by
      obtain ⟨hc, x, t, e1, e2, e3, e4, e5, e6⟩ := hs
      have hr' : ∀ r, row = some r → ∃ o : Obj, A.heap[r]? = some o ∧ o.isCells = false := fun r e => (hr r e).2
      exact ⟨hc, x, t, e1, e2, e3.kept hg hr', e4.kept hg hr', e5.kept hg hr', e6.kept hg (fun r e => by have := (hr r e).1; omega)⟩)
    ⟨rfl, Below.refl _ _⟩
    (fun x => { tmps := #[.pointer (some ⟨a, 0, none⟩), .int .i64 y, .pointer (some ⟨w.heap.size, 0, none⟩), .pointer (some ⟨w.heap.size + 1, 0, none⟩), .pointer (some ⟨w.heap.size + 2, 0, none⟩), .pointer (some ⟨w.heap.size + 3, 0, none⟩), .int .i64 (x.1 : Int), undef, .pointer (some ⟨a, 0, none⟩), .pointer (some ⟨a, 0, none⟩), .pointer (some ⟨a, 0, none⟩), .pointer (some ⟨a, 3, none⟩), .int .i64 lo, .func (.func 48) #[] #[.pointer (some ⟨w.heap.size + 5, 0, none⟩), .pointer (some ⟨w.heap.size + 4, 0, none⟩), .pointer (some ⟨w.heap.size + 6, 0, none⟩)], .int .i64 (x.1 : Int), undef, undef, undef, undef, undef, undef, undef, undef, undef, undef, undef, undef, undef, undef, undef, undef, undef, undef, undef, undef, undef, undef, undef, undef, undef, undef, undef, undef, undef, undef, undef, undef, undef, undef, undef, undef, undef, undef, undef, undef, undef], defers := [] }) ?assign ?body ?done ?stop
  case assign =>
    intro l x W K hK
    gi_wp2
    exact hK
  case body =>
    rintro l pre x W ⟨rfl, hB⟩ _
    obtain ⟨t, ht, htt, htu⟩ : ∃ t, s.l[x.1]? = some t ∧ t.t = false ∧ t.u < 4294967295 := by
      have := x.2
      cases h : s.l[x.1]? with
      | none => rw [h] at this; simp at this
      | some t =>
        rw [h] at this
        simp [Ce.usable] at this
        exact ⟨t, rfl, this.1, this.2⟩
    obtain ⟨i, hxi⟩ := x
    dsimp only at ht ⊢
    have hi : i < s.l.length := (List.getElem?_eq_some_iff.1 ht).1
    have hu0 : 0 ≤ t.u := hU t (List.mem_of_getElem? ht)
    have AW := AL.below hB
    have m2 := l2.below hB
    have m3 := l3.below hB
    have m4 := l4.below hB
    have m5 := l5.below hB
    have TW : Turned [a, g] w W := Turned.of_below (BL.trans (hB.mono (by omega)))
    have hsW := hB.size
    have b2 := m2.cell 0
    have b3 := m3.cell 0
    obtain ⟨c, c0, c1, c2, c3⟩ := AW.cells
    obtain ⟨e0, e1, e2⟩ := AW.one i t ht
    have z0 := AW.hg.thawed (i * 3)
    have z1 := AW.hg.thawed (i * 3 + 1)
    have z2 := AW.hg.thawed (i * 3 + 2)
    have kw : IntKind.u32.wrap (t.u + 1) = t.u + 1 := IntWalk.u32_in _ (by omega)
    obtain ⟨nn, hnn⟩ : ∃ nn : Nat, s.l.length = nn := ⟨_, rfl⟩
    rw [hnn] at c0
    have hi' : i < nn := by omega
    have q0 : (0 : Int) ≤ (i : Int) := Int.natCast_nonneg _
    have q1 : (i : Int) < (nn : Int) := by omega
    have q2 : decide (i < nn) = true := decide_eq_true hi'
    have HA := Lib.hid AW
    have HM := Lib.hid (And.intro m2 (And.intro m3 (And.intro m4 m5)))
    have HT := Lib.hid TW
    have HI := Lib.hid hi
    have HTt := Lib.hid ht
    have HB := Lib.hid hB
    clear AW m2 m3 m4 m5 TW hi ht hB AL l2 l3 l4 l5 g0 g1 g2 BL hA hU
    gi_wp2
    refine region_mix_round l [1, 2, 4, 6, 7, 8] [0, 1, 3, 7, 0, 0, 0, 96, 255, 511] [4, 6, 0, 1, 2, 3, 5, 7, 8, 9] (by kernel_rfl) (by kernel_rfl) (by kernel_rfl) ?_
    refine mix_pure (v := ?_) rfl (by rfl) ⟨Or.inl ⟨by rfl, ?_⟩, fun _ => rfl⟩ ?_; rotate_left 1; focus (intro w; go_simp; try with_reducible rfl)
    refine mix_pure (v := ?_) rfl (by rfl) ⟨Or.inl ⟨by rfl, ?_⟩, fun _ => rfl⟩ ?_; rotate_left 1; focus (intro w; go_simp; try with_reducible rfl)
    refine mix_step rfl (by rfl) (fun K hK => ?_)
    go_simp
    refine hK _ _ ?_
    clear hK K
    refine mix_pure (v := ?_) rfl (by rfl) ⟨Or.inl ⟨by rfl, ?_⟩, fun _ => rfl⟩ ?_; rotate_left 1; focus (intro w; go_simp; try with_reducible rfl)
    refine mix_pure (v := ?_) rfl (by rfl) ⟨Or.inl ⟨by rfl, ?_⟩, fun _ => rfl⟩ ?_; rotate_left 1; focus (intro w; go_simp; try with_reducible rfl)
    refine mix_step rfl (by rfl) (fun K hK => ?_)
    go_simp
    refine hK _ _ ?_
    clear hK K
    refine mix_step rfl (by rfl) (fun K hK => ?_)
    go_simp
    refine hK _ _ ?_
    clear hK K
    refine mix_pure (v := ?_) rfl (by rfl) ⟨Or.inl ⟨by rfl, ?_⟩, fun _ => rfl⟩ ?_; rotate_left 1; focus (intro w; go_simp; try with_reducible rfl)
    refine mix_pure (v := ?_) rfl (by rfl) ⟨Or.inl ⟨by rfl, ?_⟩, fun _ => rfl⟩ ?_; rotate_left 1; focus (intro w; go_simp; try with_reducible rfl)
    refine mix_step rfl (by rfl) (fun K hK => ?_)
    go_simp
    refine hK _ _ ?_
    clear hK K
    refine mix_end ?_
    obtain ⟨W4, hW4⟩ : ∃ W4, W4 = (((W.setCell ⟨g, i * 3, none⟩ (.int .i64 y)).setCell ⟨g, i * 3 + 1, none⟩ (.int .u32 (t.u + 1))).setCell ⟨g, i * 3 + 2, none⟩ (.bool true)).drew := ⟨_, rfl⟩
    rw [← hW4]
    have A4 : At W4 p a g { s with l := s.l.set i ⟨.int .i64 y, t.u + 1, true⟩ } := by rw [hW4]; exact (HA.out.put3 i HI.out ⟨.int .i64 y, t.u + 1, true⟩).drew
    have oth : ∀ q cs ty, Fresh W q cs ty → q ≠ g → Fresh W4 q cs ty := fun q cs ty h hn => by rw [hW4]; exact (((h.other hn _ _).other hn _ _).other hn _ _).drew
    have n2 := oth _ _ _ HM.out.1 (by omega)
    have n3 := oth _ _ _ HM.out.2.1 (by omega)
    have n4 := oth _ _ _ HM.out.2.2.1 (by omega)
    have n5 := oth _ _ _ HM.out.2.2.2 (by omega)
    have T4 : Turned [a, g] w W4 := by rw [hW4]; exact (((HT.out.setCell (.inl (by simp)) _ _).setCell (.inl (by simp)) _ _).setCell (.inl (by simp)) _ _).drew
    have K4 : KeepsFrom WL.heap.size W W4 := by rw [hW4]; exact ((((KeepsOthers.setCell _ _ _).trans (KeepsOthers.setCell _ _ _)).trans (KeepsOthers.setCell _ _ _)).trans (KeepsOthers.drew _)).from _
    clear hW4 oth e0 e1 e2 z0 z1 z2 b2 b3 c c0 c1 c2 c3 q0 q1 q2 hi' hnn kw
    have b2 := n2.cell 0
    have y0 := n4.cell 0
    have y1 := n4.cell 1
    have y2 := n5.cell 0
    have y0' := n4.thawed 0
    have y1' := n4.thawed 1
    have y2' := n5.thawed 0
    obtain ⟨c, c0, c1, c2, c3⟩ := A4.cells
    have x1 := A4.ha.thawed 1
    have x2 := A4.ha.thawed 2
    have x3 := A4.ha.thawed 3
    have ki : IntKind.i64.wrap ((i : Int) + 1) = (i : Int) + 1 := IntWalk.i64_in _ (by have := HI.out; omega)
    have kn : IntKind.i64.wrap (s.len + 1) = s.len + 1 := IntWalk.i64_in _ (by omega)
    have kl : IntKind.i64.wrap (s.left - 1) = s.left - 1 := IntWalk.i64_in _ (by omega)
    have a4 : ¬ a = w.heap.size + 2 := by omega
    have a4' : ¬ w.heap.size + 2 = a := by omega
    have a5 : ¬ a = w.heap.size + 3 := by omega
    have a5' : ¬ w.heap.size + 3 = a := by omega
    have a2 : ¬ a = w.heap.size := by omega
    have a2' : ¬ w.heap.size = a := by omega
    dsimp only at c1 c2 c3
    have p9 : KeepsFrom WL.heap.size W (((((((W4.setCell ⟨a, 3, none⟩ (.int .i64 ((i : Int) + 1))).setCell ⟨a, 1, none⟩ (.int .i64 (s.len + 1))).setCell ⟨a, 2, none⟩ (.int .i64 (s.left - 1))).setCell ⟨w.heap.size + 2, 0, none⟩ (.int .i64 (i : Int))).setCell ⟨w.heap.size + 2, 1, none⟩ (.int .u32 (t.u + 1))).setCell ⟨w.heap.size + 3, 0, none⟩ (.bool true))) := K4.trans ((KeepsOthers.setCell W4 ⟨a, 3, none⟩ (.int .i64 ((i : Int) + 1))).trans ((KeepsOthers.setCell _ ⟨a, 1, none⟩ (.int .i64 (s.len + 1))).trans ((KeepsOthers.setCell _ ⟨a, 2, none⟩ (.int .i64 (s.left - 1))).trans ((KeepsOthers.setCell _ ⟨w.heap.size + 2, 0, none⟩ (.int .i64 (i : Int))).trans ((KeepsOthers.setCell _ ⟨w.heap.size + 2, 1, none⟩ (.int .u32 (t.u + 1))).trans (KeepsOthers.setCell _ ⟨w.heap.size + 3, 0, none⟩ (.bool true)))))) |>.from _)
    have r4 : Fresh (((((((W4.setCell ⟨a, 3, none⟩ (.int .i64 ((i : Int) + 1))).setCell ⟨a, 1, none⟩ (.int .i64 (s.len + 1))).setCell ⟨a, 2, none⟩ (.int .i64 (s.left - 1))).setCell ⟨w.heap.size + 2, 0, none⟩ (.int .i64 (i : Int))).setCell ⟨w.heap.size + 2, 1, none⟩ (.int .u32 (t.u + 1))).setCell ⟨w.heap.size + 3, 0, none⟩ (.bool true))) (w.heap.size + 2) #[.int .i64 (i : Int), .int .u32 (t.u + 1)] 36 := by
      have := (((((n4.other a4' 3 (.int .i64 ((i : Int) + 1))).other a4' 1 (.int .i64 (s.len + 1))).other a4' 2 (.int .i64 (s.left - 1))).set 0 (.int .i64 (i : Int))).set 1 (.int .u32 (t.u + 1))).other (q := w.heap.size + 3) (by omega) 0 (.bool true)
      simpa using this
    have r5 : Fresh (((((((W4.setCell ⟨a, 3, none⟩ (.int .i64 ((i : Int) + 1))).setCell ⟨a, 1, none⟩ (.int .i64 (s.len + 1))).setCell ⟨a, 2, none⟩ (.int .i64 (s.left - 1))).setCell ⟨w.heap.size + 2, 0, none⟩ (.int .i64 (i : Int))).setCell ⟨w.heap.size + 2, 1, none⟩ (.int .u32 (t.u + 1))).setCell ⟨w.heap.size + 3, 0, none⟩ (.bool true))) (w.heap.size + 3) #[.bool true] 4 := by
      have := (((((n5.other a5' 3 (.int .i64 ((i : Int) + 1))).other a5' 1 (.int .i64 (s.len + 1))).other a5' 2 (.int .i64 (s.left - 1))).other (q := w.heap.size + 2) (by omega) 0 (.int .i64 (i : Int))).other (q := w.heap.size + 2) (by omega) 1 (.int .u32 (t.u + 1))).set 0 (.bool true)
      simpa using this
    have rA : At (((((((W4.setCell ⟨a, 3, none⟩ (.int .i64 ((i : Int) + 1))).setCell ⟨a, 1, none⟩ (.int .i64 (s.len + 1))).setCell ⟨a, 2, none⟩ (.int .i64 (s.left - 1))).setCell ⟨w.heap.size + 2, 0, none⟩ (.int .i64 (i : Int))).setCell ⟨w.heap.size + 2, 1, none⟩ (.int .u32 (t.u + 1))).setCell ⟨w.heap.size + 3, 0, none⟩ (.bool true))) p a g { s with l := s.l.set i ⟨.int .i64 y, t.u + 1, true⟩, len := s.len + 1, left := s.left - 1, low := (i : Int) + 1 } :=
      (((((A4.setLow ((i : Int) + 1)).setLen (s.len + 1)).setLeft (s.left - 1)).off (q := w.heap.size + 2) (by omega) (by omega) (by omega) 0 (.int .i64 (i : Int))).off (q := w.heap.size + 2) (by omega) (by omega) (by omega) 1 (.int .u32 (t.u + 1))).off (q := w.heap.size + 3) (by omega) (by omega) (by omega) 0 (.bool true)
    have rT : Turned [a, g] w (((((((W4.setCell ⟨a, 3, none⟩ (.int .i64 ((i : Int) + 1))).setCell ⟨a, 1, none⟩ (.int .i64 (s.len + 1))).setCell ⟨a, 2, none⟩ (.int .i64 (s.left - 1))).setCell ⟨w.heap.size + 2, 0, none⟩ (.int .i64 (i : Int))).setCell ⟨w.heap.size + 2, 1, none⟩ (.int .u32 (t.u + 1))).setCell ⟨w.heap.size + 3, 0, none⟩ (.bool true))) := ((((((T4.setCell (p := a) (.inl (by simp)) 3 (.int .i64 ((i : Int) + 1))).setCell (p := a) (.inl (by simp)) 1 (.int .i64 (s.len + 1))).setCell (p := a) (.inl (by simp)) 2 (.int .i64 (s.left - 1))).setCell (p := w.heap.size + 2) (.inr (by omega)) 0 (.int .i64 (i : Int))).setCell (p := w.heap.size + 2) (.inr (by omega)) 1 (.int .u32 (t.u + 1))).setCell (p := w.heap.size + 3) (.inr (by omega)) 0 (.bool true))
    have HX := Lib.hid (And.intro p9 (And.intro r4 (And.intro r5 (And.intro rA rT))))
    clear p9 r4 r5 rA rT A4 T4 K4 n2 n3 n4 n5 HA HM HT
    gi_wp2
    exact ⟨by rw [← szL]; exact HX.out.1, rfl, ⟨i, hxi⟩, t, rfl, HTt.out, HX.out.2.1, HX.out.2.2.1, HX.out.2.2.2.1, HX.out.2.2.2.2⟩
  case done =>
    rintro D ys W hD hS ⟨rfl, hB⟩ hK
    have hnone : takeSb s lo (.int .i64 y) = (s, none) := by
      unfold takeSb firstUs
      rw [← hS]
      rfl
    have m4 := l4.below hB
    have m5 := l5.below hB
    have AW := AL.below hB
    have TW : Turned [a, g] w W := Turned.of_below (BL.trans (hB.mono (by omega)))
    have y0 := m4.cell 0
    have y1 := m4.cell 1
    have y2 := m5.cell 0
    have y0' := m4.thawed 0
    have y1' := m4.thawed 1
    have y2' := m5.thawed 0
    have HX := Lib.hid (And.intro m4 (And.intro m5 (And.intro AW TW)))
    have HK := Lib.hid hK
    have HN := Lib.hid hnone
    clear m4 m5 AW TW hB hK AL l2 l3 l4 l5 g0 g1 g2 BL hA hU hS hnone
    gi_wp2
    obtain ⟨m4, m5, AW, TW⟩ := HX.out
    have f4 : Fresh (((W.setCell ⟨w.heap.size + 2, 0, none⟩ (.int .i64 0)).setCell ⟨w.heap.size + 2, 1, none⟩ (.int .u32 0)).setCell ⟨w.heap.size + 3, 0, none⟩ (.bool false)) (w.heap.size + 2) #[.int .i64 0, .int .u32 0] 36 := by
      have := ((m4.set 0 (.int .i64 0)).set 1 (.int .u32 0)).other (q := w.heap.size + 3) (by omega) 0 (.bool false)
      simpa using this
    have f5 : Fresh (((W.setCell ⟨w.heap.size + 2, 0, none⟩ (.int .i64 0)).setCell ⟨w.heap.size + 2, 1, none⟩ (.int .u32 0)).setCell ⟨w.heap.size + 3, 0, none⟩ (.bool false)) (w.heap.size + 3) #[.bool false] 4 := by
      have := ((m5.other (q := w.heap.size + 2) (by omega) 0 (.int .i64 0)).other (q := w.heap.size + 2) (by omega) 1 (.int .u32 0)).set 0 (.bool false)
      simpa using this
    have hK' := (((KeepsOthers.setCell W ⟨w.heap.size + 2, 0, none⟩ (.int .i64 0)).trans (KeepsOthers.setCell _ ⟨w.heap.size + 2, 1, none⟩ (.int .u32 0))).trans (KeepsOthers.setCell _ ⟨w.heap.size + 3, 0, none⟩ (.bool false))).same D _ HK.out rfl
    have T2 : Turned [a, g] w (((W.setCell ⟨w.heap.size + 2, 0, none⟩ (.int .i64 0)).setCell ⟨w.heap.size + 2, 1, none⟩ (.int .u32 0)).setCell ⟨w.heap.size + 3, 0, none⟩ (.bool false)) := ((TW.setCell (.inr (by omega)) _ _).setCell (.inr (by omega)) _ _).setCell (.inr (by omega)) _ _
    have A2 : At (((W.setCell ⟨w.heap.size + 2, 0, none⟩ (.int .i64 0)).setCell ⟨w.heap.size + 2, 1, none⟩ (.int .u32 0)).setCell ⟨w.heap.size + 3, 0, none⟩ (.bool false)) p a g s := ((AW.off (by omega) (by omega) (by omega) _ _).off (by omega) (by omega) (by omega) _ _).off (by omega) (by omega) (by omega) _ _
    refine ⟨by simp, .inl ⟨_, _, rfl, run_takeDeferred hK', ?_⟩⟩
    have hg := grownBy_putObj' (((W.setCell ⟨w.heap.size + 2, 0, none⟩ (.int .i64 0)).setCell ⟨w.heap.size + 2, 1, none⟩ (.int .u32 0)).setCell ⟨w.heap.size + 3, 0, none⟩ (.bool false)) D (.deferred none)
    have hr : ∀ r, some D = some r → ∃ o : Obj, (((W.setCell ⟨w.heap.size + 2, 0, none⟩ (.int .i64 0)).setCell ⟨w.heap.size + 2, 1, none⟩ (.int .u32 0)).setCell ⟨w.heap.size + 3, 0, none⟩ (.bool false)).heap[r]? = some o ∧ o.isCells = false := fun r e => by cases e; exact ⟨_, hK', rfl⟩
    have u0 := (f4.kept hg hr).cell 0
    have u1 := (f4.kept hg hr).cell 1
    have u2 := (f5.kept hg hr).cell 0
    simp only [List.getElem?_toArray, List.getElem?_cons_succ, List.getElem?_cons_zero] at u0 u1 u2
    refine ⟨.tuple #[refV 0 0, .bool false], ?_, ?_⟩
    · simp [results, Try.f34, go_sem, u0, u1, u2]
    · unfold Took
      rw [HN.out]
      exact ⟨rfl, T2.kept hg (fun r e => by cases e; omega), A2.kept hg hr⟩
  case stop =>
    rintro D c pre W hD ⟨k, hk, hpre⟩ ⟨rfl, x, t, rfl, ht, f4, f5, AW, TW⟩ hK
    have htake : takeSb s lo (.int .i64 y) = ({ s with l := s.l.set x.1 ⟨.int .i64 y, t.u + 1, true⟩, len := s.len + 1, left := s.left - 1, low := (x.1 : Int) + 1 }, some (x.1, t.u + 1)) := by
      have hf : firstUs s.l lo = some x.1 := by
        unfold firstUs
        exact us_first (by rw [← hpre]; rfl) hk
      unfold takeSb
      rw [hf]
      dsimp only
      rw [ht]
    clear AL l2 l3 l4 l5 g0 g1 g2
    gi_wp2
    refine ⟨by simp, .inl ⟨_, _, rfl, run_takeDeferred hK, ?_⟩⟩
    have hg := grownBy_putObj' W D (.deferred none)
    have hr : ∀ r, some D = some r → ∃ o : Obj, W.heap[r]? = some o ∧ o.isCells = false := fun r e => by cases e; exact ⟨_, hK, rfl⟩
    have u0 := (f4.kept hg hr).cell 0
    have u1 := (f4.kept hg hr).cell 1
    have u2 := (f5.kept hg hr).cell 0
    simp only [List.getElem?_toArray, List.getElem?_cons_succ, List.getElem?_cons_zero] at u0 u1 u2
    refine ⟨.tuple #[refV x.1 (t.u + 1), .bool true], ?_, ?_⟩
    · simp [results, Try.f34, go_sem, u0, u1, u2]
    · unfold Took
      rw [htake]
      exact ⟨rfl, TW.kept hg (fun r e => by cases e; omega), AW.kept hg hr⟩
end Go.Proofs.Ytbbadkgmnfjfaaa.Si
