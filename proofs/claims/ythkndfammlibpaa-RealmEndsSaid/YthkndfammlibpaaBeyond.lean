/- The walk of Beyond. -/
import Derived.Test.YthkndfammlibpaaRound
import Derived.Laws.EntriesVeiled
namespace Go.Proofs.Ythkndfammlibpaa.Bd
open Go.Proofs.Ythkndfammlibpaa
open Go.RowKit Go.Shelf
attribute [local go_sem] Oper.semAt_some

/-- What Beyond returns: i: the last index at which a byte is less than 255. -/
def BeyondIs (s : ByteArray) (r : ByteArray) (b : Bool) : Prop :=
  (b = false ∧ r = ⟨#[]⟩ ∧ ∀ i (h : i < s.size), s[i] = 255) ∨
  (b = true ∧ ∃ (i : Nat) (h : i < s.size), s[i] ≠ 255 ∧ (∀ j (hj : j < s.size), i < j → s[j] = 255) ∧ r = clipB s i ++ one (s[i] + 1))

theorem downTo_mem (s : ByteArray) (x : Ix s) : ∀ (k : Nat) (h : k ≤ s.size), s.size - k ≤ x.1 → x ∈ downTo s k h
  | 0, _, hx => by have := x.2; omega
  | k + 1, h, hx => by
    rw [downTo, List.mem_append]
    by_cases e : x.1 = s.size - 1 - k
    · exact .inr (by rw [List.mem_singleton]; exact Subtype.ext e)
    · exact .inl (downTo_mem s x k _ (by omega))
theorem downTo_all (s : ByteArray) (x : Ix s) : x ∈ downTo s s.size (Nat.le_refl _) := downTo_mem s x _ _ (by omega)
theorem downTo_last (s : ByteArray) (k : Nat) (hk : k ≤ s.size) (ini : List (Ix s)) (last : Ix s) (e : downTo s k hk = ini ++ [last]) (hi : ∀ p ∈ ini, s[p.1]'p.2 = 255) :
    ∀ j (hj : j < s.size), last.1 < j → s[j] = 255 := by
  cases k with
  | zero => simp [downTo] at e
  | succ k =>
    rw [downTo] at e
    obtain ⟨rfl, e5⟩ := List.append_inj' e rfl
    intro j hj hl
    have : (⟨s.size - 1 - k, by omega⟩ : Ix s) = last := by simpa using e5
    have hl1 : last.1 = s.size - 1 - k := by rw [← this]
    exact hi ⟨j, hj⟩ (downTo_mem s ⟨j, hj⟩ k _ (by simp; omega))

set_option maxRecDepth 100000 in
set_option maxHeartbeats 4000000 in
theorem beyond_in (n : Nat) (hn : 3 ≤ n) (s : ByteArray) (hs : s.size ≤ 1000000) (w : World) :
    CallsIn Fence.wide n Try.prog 24 #[.string s] w fun e W' => (∃ r b, e = .returned (.tuple #[.string r, .bool b]) ∧ BeyondIs s r b) ∧ Below w.heap.size w W' := by
  have h1 : 1 ≤ n := by omega
  have hfd := field0
  refine callsIn_of_wp_marks Try.func24 rfl trivial ?_ rfl
  simp only [Try.ntmps24, List.size_toArray, List.length_cons, List.length_nil, Nat.reduceAdd, Nat.reduceSub, Array.replicate_succ, Array.replicate_zero, List.push_toArray, List.append_toArray, List.nil_append, List.cons_append]
  gi_wp2_with (first | (refine ⟨trivial, ?_⟩; gi_at_call 33; refine (callsIn_wide.2 (of_any _ _)).mono ?_; rintro e w1 ⟨rfl, hb1⟩) | (refine ⟨trivial, ?_⟩; gi_at_call 34; refine (callsIn_wide.2 (cutter_any _ _)).mono ?_; rintro e w' ⟨rfl, rfl⟩) | (refine ⟨trivial, ?_⟩; gi_at_call 35; refine (callsIn_wide.2 (back_any _ _)).mono ?_; rintro e w' ⟨rfl, rfl⟩))
  rename_i wa hba Ka wkA
  -- what lies in the cells when the loop begins
  have hA : Below w.heap.size w wa := Below.step (((Below.refl _ w).alloc (Nat.le_refl _) _).alloc (by simp) _) hba
  have hB : Below wa.heap.size wa w1 := Below.step (((Below.refl _ wa).alloc (Nat.le_refl _) _).alloc (by simp) _) hb1
  have c2 : wa.cell? ⟨w.heap.size, 0, none⟩ = some (.string ⟨#[]⟩) ∧ wa.frozen? ⟨w.heap.size, 0, none⟩ = false := by
    rw [hba.cell (p := ⟨w.heap.size, 0, none⟩) (by simp; omega), hba.frozen (p := ⟨w.heap.size, 0, none⟩) (by simp; omega)]; constructor <;> simp [go_sem]
  have c3 : wa.cell? ⟨w.heap.size + 1, 0, none⟩ = some (.bool false) ∧ wa.frozen? ⟨w.heap.size + 1, 0, none⟩ = false := by
    rw [hba.cell (p := ⟨w.heap.size + 1, 0, none⟩) (by simp), hba.frozen (p := ⟨w.heap.size + 1, 0, none⟩) (by simp)]; constructor <;> simp [go_sem]
  have s3 : w.heap.size + 2 ≤ wa.heap.size := by have := hba.size; simp at this; omega
  have s5 : wa.heap.size + 2 ≤ w1.heap.size := by have := hb1.size; simp at this; omega
  have c4 : w1.cell? ⟨wa.heap.size, 0, none⟩ = some (.string s) := by
    rw [hb1.cell (p := ⟨wa.heap.size, 0, none⟩) (by simp; omega)]; simp [go_sem]
  have c5 : w1.cell? ⟨wa.heap.size + 1, 0, none⟩ = some (.func (.func 39) #[] #[.pointer (some ⟨wa.heap.size, 0, none⟩)]) := by
    rw [hb1.cell (p := ⟨wa.heap.size + 1, 0, none⟩) (by simp)]; simp [go_sem]
  obtain ⟨WL, hWL⟩ : ∃ WL, WL = w1.alloc (.cells #[.string s] 55) := ⟨_, rfl⟩
  have hL : Below w1.heap.size w1 WL := by rw [hWL]; exact (Below.refl _ _).alloc (Nat.le_refl _) _
  have sL : WL.heap.size = w1.heap.size + 1 := by rw [hWL]; simp
  have c6 : WL.cell? ⟨w1.heap.size, 0, none⟩ = some (.string s) := by rw [hWL]; simp [go_sem]
  have d2 : WL.cell? ⟨w.heap.size, 0, none⟩ = some (.string ⟨#[]⟩) ∧ WL.frozen? ⟨w.heap.size, 0, none⟩ = false := by
    rw [hL.cell (p := ⟨w.heap.size, 0, none⟩) (by simp; omega), hL.frozen (p := ⟨w.heap.size, 0, none⟩) (by simp; omega), hB.cell (p := ⟨w.heap.size, 0, none⟩) (by simp; omega), hB.frozen (p := ⟨w.heap.size, 0, none⟩) (by simp; omega)]; exact c2
  have d3 : WL.cell? ⟨w.heap.size + 1, 0, none⟩ = some (.bool false) ∧ WL.frozen? ⟨w.heap.size + 1, 0, none⟩ = false := by
    rw [hL.cell (p := ⟨w.heap.size + 1, 0, none⟩) (by simp; omega), hL.frozen (p := ⟨w.heap.size + 1, 0, none⟩) (by simp; omega), hB.cell (p := ⟨w.heap.size + 1, 0, none⟩) (by simp; omega), hB.frozen (p := ⟨w.heap.size + 1, 0, none⟩) (by simp; omega)]; exact c3
  have d4 : WL.cell? ⟨wa.heap.size, 0, none⟩ = some (.string s) := by rw [hL.cell (p := ⟨wa.heap.size, 0, none⟩) (by simp; omega)]; exact c4
  have d5 : WL.cell? ⟨wa.heap.size + 1, 0, none⟩ = some (.func (.func 39) #[] #[.pointer (some ⟨wa.heap.size, 0, none⟩)]) := by rw [hL.cell (p := ⟨wa.heap.size + 1, 0, none⟩) (by simp; omega)]; exact c5
  have hWB : Below w.heap.size w WL := Below.step (Below.step hA hB) hL
  rw [← hWL]
  clear hWL hL hB hA hba hb1 c2 c3 c4 c5
  refine wpIn_rangeFunc_ownG rfl h1 (gf := 40) (lb := #[.pointer (some ⟨w1.heap.size, 0, none⟩)]) rfl trivial (enters_of Try.func40 (by kernel_rfl) rfl)
    (back_stops (n - 1) (by omega) w1.heap.size WL.heap.size s (by omega) WL (by omega) (by omega) (Nat.le_refl _) c6) belowK_t (belowK_b (Nat.le_refl _)) (Below.refl _ _) (fun _ => rfl)
    (fun pre W => (∀ p ∈ pre, s[p.1]'p.2 = 255) ∧ Below WL.heap.size WL W)
    (fun c pre W => (c = .ret ∧ ∃ ini last, pre = ini ++ [last] ∧ (∀ p ∈ ini, s[p.1]'p.2 = 255) ∧ s[last.1]'last.2 ≠ 255 ∧ W.cell? ⟨w.heap.size, 0, none⟩ = some (.string (clipB s last.1 ++ one (s[last.1]'last.2 + 1))) ∧ W.cell? ⟨w.heap.size + 1, 0, none⟩ = some (.bool true)) ∧ Below w.heap.size w W)
    (OwnFrom.and (Own.from (fun s A B row hs hg hr => hs) _) (ownFrom_below (Nat.le_refl _) (Nat.le_refl _)))
    (fun c => OwnFrom.and (Own.from (fun s A B row hs hg hr => by obtain ⟨hc, ini, last, e1, e2, e3, e4, e5⟩ := hs; exact ⟨hc, ini, last, e1, e2, e3, cell_kept e4 hg hr, cell_kept e5 hg hr⟩) _) (ownFrom_below (Nat.le_refl _) (by omega)))
    ⟨by simp, Below.refl _ _⟩
    (fun x => { tmps := #[.string s, undef, .pointer (some ⟨w.heap.size, 0, none⟩), .pointer (some ⟨w.heap.size + 1, 0, none⟩), .pointer (some ⟨wa.heap.size + 1, 0, none⟩), .int .i64 (x.1 : Int), .int .u8 ((s[x.1]'x.2).toNat : Int), .string s, .agg #[.string s], .string s, .func (.func 39) #[] #[.pointer (some ⟨wa.heap.size, 0, none⟩)], .string s, .agg #[.string s], .string s, .func (.func 40) #[] #[.pointer (some ⟨w1.heap.size, 0, none⟩)], .int .i64 (x.1 : Int), .int .u8 ((s[x.1]'x.2).toNat : Int), undef, undef, undef, undef, undef, undef, undef, undef, undef, undef], defers := [] }) ?assign ?body ?done ?stop
  case assign =>
    intro l x W K hK
    gi_wp2
    exact hK
  case body =>
    rintro l pre x W ⟨hp, hB⟩ _
    have hd : 1 ≤ n - 1 - 1 := by omega
    have hmx : Try.prog.follows .mixedOrders = true := by kernel_rfl
    have e2 : W.cell? ⟨w.heap.size, 0, none⟩ = some (.string ⟨#[]⟩) := (hB.cell (p := ⟨w.heap.size, 0, none⟩) (by simp; omega)).trans d2.1
    have e2' : W.frozen? ⟨w.heap.size, 0, none⟩ = false := (hB.frozen (p := ⟨w.heap.size, 0, none⟩) (by simp; omega)).trans d2.2
    have e3 : W.cell? ⟨w.heap.size + 1, 0, none⟩ = some (.bool false) := (hB.cell (p := ⟨w.heap.size + 1, 0, none⟩) (by simp; omega)).trans d3.1
    have e3' : W.frozen? ⟨w.heap.size + 1, 0, none⟩ = false := (hB.frozen (p := ⟨w.heap.size + 1, 0, none⟩) (by simp; omega)).trans d3.2
    have e4 : W.cell? ⟨wa.heap.size, 0, none⟩ = some (.string s) := (hB.cell (p := ⟨wa.heap.size, 0, none⟩) (by simp; omega)).trans d4
    have e5 := (hB.cell (p := ⟨wa.heap.size + 1, 0, none⟩) (by simp; omega)).trans d5
    obtain ⟨i, hi⟩ := x
    obtain ⟨c, hc⟩ : ∃ c, c = s[i] := ⟨_, rfl⟩
    dsimp only
    rw [← hc]
    have HC := Lib.hid hc
    clear hc
    have SZ := hB.size
    have HD := Lib.hid (And.intro d2 (And.intro d3 (And.intro d4 (And.intro d5 c6))))
    clear d2 d3 d4 d5 c6
    have hlt2 : w.heap.size < W.heap.size := by omega
    have hlt3 : w.heap.size + 1 < W.heap.size := by omega
    have hlt4 : wa.heap.size < W.heap.size := by omega
    have hlt5 : wa.heap.size + 1 < W.heap.size := by omega
    have SL := Lib.hid sL
    clear sL
    by_cases hlt : (c.toNat : Int) < 255
    · have h2 : IntKind.u8.wrap ((c.toNat : Int) + 1) = ((c + 1).toNat : Int) := by
        rw [UInt8.toNat_add]; simp [IntKind.wrap, IntKind.signed, IntKind.bits]
      have hcv : ∀ W : World, (convert 29 9 (.slice (some ⟨W.heap.size, 0, none⟩) 1 1)).run Try.prog (W.alloc (.cells #[.int .u8 (IntKind.u8.wrap ((c.toNat : Int) + 1))] 5)).drew = .ok (.string (one (c + 1))) (W.alloc (.cells #[.int .u8 (IntKind.u8.wrap ((c.toNat : Int) + 1))] 5)).drew := fun W => by
        rw [h2]
        exact run_convert_one (P := Try.prog) W.drew 29 9 5 (c + 1) Try.underlying29 Try.underlying5 Try.underlying9
      clear h2
      have HS : s.size ≤ maxLen := by unfold maxLen; omega
      have hcl : (clipB s (i : Int)).size ≤ 1000000 := by unfold clipB; simp; omega
      have hon : (one (c + 1)).size = 1 := rfl
      have hend : KeepsFrom WL.heap.size W (((W.setCell ⟨w.heap.size, 0, none⟩ (.string (clipB s (i : Int) ++ one (c + 1)))).setCell ⟨w.heap.size + 1, 0, none⟩ (.bool true)).alloc (.cells #[.int .u8 (IntKind.u8.wrap ((c.toNat : Int) + 1))] 5)).drew ∧
          ((Code.ret = Code.ret ∧ ∃ ini last, pre ++ [(⟨i, hi⟩ : Ix s)] = ini ++ [last] ∧ (∀ p ∈ ini, s[p.1]'p.2 = 255) ∧ s[last.1]'last.2 ≠ 255 ∧
            (((W.setCell ⟨w.heap.size, 0, none⟩ (.string (clipB s (i : Int) ++ one (c + 1)))).setCell ⟨w.heap.size + 1, 0, none⟩ (.bool true)).alloc (.cells #[.int .u8 (IntKind.u8.wrap ((c.toNat : Int) + 1))] 5)).drew.cell? ⟨w.heap.size, 0, none⟩ = some (.string (clipB s last.1 ++ one (s[last.1]'last.2 + 1))) ∧
            (((W.setCell ⟨w.heap.size, 0, none⟩ (.string (clipB s (i : Int) ++ one (c + 1)))).setCell ⟨w.heap.size + 1, 0, none⟩ (.bool true)).alloc (.cells #[.int .u8 (IntKind.u8.wrap ((c.toNat : Int) + 1))] 5)).drew.cell? ⟨w.heap.size + 1, 0, none⟩ = some (.bool true)) ∧
            Below w.heap.size w (((W.setCell ⟨w.heap.size, 0, none⟩ (.string (clipB s (i : Int) ++ one (c + 1)))).setCell ⟨w.heap.size + 1, 0, none⟩ (.bool true)).alloc (.cells #[.int .u8 (IntKind.u8.wrap ((c.toNat : Int) + 1))] 5)).drew) := by
        have hc := HC.out
        refine ⟨(((KeepsOthers.setCell _ _ _).trans (KeepsOthers.setCell _ _ _)).trans (KeepsOthers.alloc _ _)).trans (KeepsOthers.drew _) |>.from _, ⟨rfl, pre, ⟨i, hi⟩, rfl, hp, ?_, ?_, ?_⟩, ?_⟩
        · intro e
          have e' : c = 255 := hc.trans e
          rw [e'] at hlt
          exact absurd hlt (by decide)
        · rw [cell_drew_own, World.cell?_alloc_past _ _ _ (by simpa using hlt2), World.cell?_setCell_other _ _ _ _ (by simp)]
          subst hc
          exact World.cell?_setCell_same' _ _ _ (by rw [e2]; rfl)
        · rw [cell_drew_own, World.cell?_alloc_past _ _ _ (by simpa using hlt3)]
          refine World.cell?_setCell_same' _ _ _ ?_
          rw [World.cell?_setCell_other _ _ _ _ (by simp), e3]; rfl
        · exact (((hWB.trans (hB.mono hWB.size)).setCell (p := ⟨w.heap.size, 0, none⟩) (Nat.le_refl _) _ |>.setCell (p := ⟨w.heap.size + 1, 0, none⟩) (by simp) _).alloc (by simp; omega) _).drew
      have HE := Lib.hid hend
      clear hend hB hp hWB hfd hs hn h1 s3 s5 SZ wkA
      gi_wp2
      refine region_inRound l (by kernel_rfl) hmx ?_
      refine wpAnyIn_take (i := 1) (v := ?_) rfl rfl (by kernel_rfl) (by kernel_rfl) (by kernel_rfl) (fun _ _ _ h => h) ⟨Or.inl ⟨by rfl, ?_⟩, fun _ => rfl⟩ ?_; rotate_left 1; focus (intro w; go_simp; try with_reducible rfl)
      refine wpAnyIn_take (i := 3) (v := ?_) rfl rfl (by kernel_rfl) (by kernel_rfl) (by kernel_rfl) (fun _ _ _ h => h) ⟨Or.inl ⟨by rfl, ?_⟩, fun _ => rfl⟩ ?_; rotate_left 1; focus (intro w; go_simp; try with_reducible rfl)
      refine wpAnyIn_take (i := 4) (v := ?_) rfl rfl (by kernel_rfl) (by kernel_rfl) (by kernel_rfl) (fun _ _ _ h => h) ⟨Or.inl ⟨by rfl, ?_⟩, fun _ => rfl⟩ ?_; rotate_left 1; focus (intro w; go_simp; try with_reducible rfl)
      refine wpAnyIn_ready (rs := [0, 5]) (by kernel_rfl) (by simp) ?_
      refine AllReadyIn.cons rfl (fun K hK => ?_) (AllReadyIn.cons rfl (fun K hK => ?_) AllReadyIn.nil)
      · go_simp
        refine hK _ _ ?_
        clear hK K
        refine wpAnyIn_ready (rs := [2, 5]) (by kernel_rfl) (by simp) ?_
        refine AllReadyIn.cons rfl (fun K hK => ?_) (AllReadyIn.cons rfl (fun K hK => ?_) AllReadyIn.nil)
        · go_simp
          gi_wp2_with (refine ⟨trivial, ?_⟩; gi_at_call 39; refine (callsIn_wide.2 (cutter1_any s _ _ _ HS (by first | exact e4 | (rw [cell_drew_own]; exact e4) | (rw [cell_drew_own, World.cell?_alloc_past _ _ _ hlt4]; exact e4)))).mono ?_; rintro e w' ⟨rfl, rfl⟩)
          refine wpAnyIn_ready (rs := [5]) (by kernel_rfl) (by simp) ?_
          refine AllReadyIn.cons rfl (fun K hK => ?_) AllReadyIn.nil
          · go_simp
            refine hK _ _ ?_
            clear hK K
            refine wpAnyIn_ready (rs := [6]) (by kernel_rfl) (by simp) ?_
            refine AllReadyIn.cons rfl (fun K hK => ?_) AllReadyIn.nil
            · go_simp
              refine hK _ _ ?_
              clear hK K
              refine wpAnyIn_take (i := 7) (v := ?_) rfl rfl (by kernel_rfl) (by kernel_rfl) (by kernel_rfl) (fun _ _ _ h => h) ⟨Or.inl ⟨by rfl, ?_⟩, fun _ => rfl⟩ ?_; rotate_left 1; focus (intro w; go_simp; rw [if_neg (by omega)])
              refine wpAnyIn_ready (rs := [8]) (by kernel_rfl) (by simp) ?_
              refine AllReadyIn.cons rfl (fun K hK => ?_) AllReadyIn.nil
              · go_simp
                refine hK _ _ ?_
                clear hK K
                refine wpAnyIn_ready (rs := [9]) (by kernel_rfl) (by simp) ?_
                refine AllReadyIn.cons rfl (fun K hK => ?_) AllReadyIn.nil
                · go_simp
                  refine hK _ _ ?_
                  clear hK K
                  refine wpAnyIn_done (by kernel_rfl) ?_ _
                  gi_wp2
                  exact ⟨HE.out.1, ⟨rfl, HE.out.2.1.2⟩, HE.out.2.2⟩
        · go_simp
          refine hK _ _ ?_
          clear hK K
          refine wpAnyIn_ready (rs := [2, 6]) (by kernel_rfl) (by simp) ?_
          refine AllReadyIn.cons rfl (fun K hK => ?_) (AllReadyIn.cons rfl (fun K hK => ?_) AllReadyIn.nil)
          · go_simp
            gi_wp2_with (refine ⟨trivial, ?_⟩; gi_at_call 39; refine (callsIn_wide.2 (cutter1_any s _ _ _ HS (by first | exact e4 | (rw [cell_drew_own]; exact e4) | (rw [cell_drew_own, World.cell?_alloc_past _ _ _ hlt4]; exact e4)))).mono ?_; rintro e w' ⟨rfl, rfl⟩)
            refine wpAnyIn_ready (rs := [6]) (by kernel_rfl) (by simp) ?_
            refine AllReadyIn.cons rfl (fun K hK => ?_) AllReadyIn.nil
            · go_simp
              refine hK _ _ ?_
              clear hK K
              refine wpAnyIn_take (i := 7) (v := ?_) rfl rfl (by kernel_rfl) (by kernel_rfl) (by kernel_rfl) (fun _ _ _ h => h) ⟨Or.inl ⟨by rfl, ?_⟩, fun _ => rfl⟩ ?_; rotate_left 1; focus (intro w; go_simp; rw [if_neg (by omega)])
              refine wpAnyIn_ready (rs := [8]) (by kernel_rfl) (by simp) ?_
              refine AllReadyIn.cons rfl (fun K hK => ?_) AllReadyIn.nil
              · go_simp
                refine hK _ _ ?_
                clear hK K
                refine wpAnyIn_ready (rs := [9]) (by kernel_rfl) (by simp) ?_
                refine AllReadyIn.cons rfl (fun K hK => ?_) AllReadyIn.nil
                · go_simp
                  refine hK _ _ ?_
                  clear hK K
                  refine wpAnyIn_done (by kernel_rfl) ?_ _
                  gi_wp2
                  exact ⟨HE.out.1, ⟨rfl, HE.out.2.1.2⟩, HE.out.2.2⟩
          · go_simp
            refine hK _ _ ?_
            clear hK K
            refine wpAnyIn_ready (rs := [2]) (by kernel_rfl) (by simp) ?_
            refine AllReadyIn.cons rfl (fun K hK => ?_) AllReadyIn.nil
            · go_simp
              gi_wp2_with (refine ⟨trivial, ?_⟩; gi_at_call 39; refine (callsIn_wide.2 (cutter1_any s _ _ _ HS (by first | exact e4 | (rw [cell_drew_own]; exact e4) | (rw [cell_drew_own, World.cell?_alloc_past _ _ _ hlt4]; exact e4)))).mono ?_; rintro e w' ⟨rfl, rfl⟩)
              refine wpAnyIn_take (i := 7) (v := ?_) rfl rfl (by kernel_rfl) (by kernel_rfl) (by kernel_rfl) (fun _ _ _ h => h) ⟨Or.inl ⟨by rfl, ?_⟩, fun _ => rfl⟩ ?_; rotate_left 1; focus (intro w; go_simp; rw [if_neg (by omega)])
              refine wpAnyIn_ready (rs := [8]) (by kernel_rfl) (by simp) ?_
              refine AllReadyIn.cons rfl (fun K hK => ?_) AllReadyIn.nil
              · go_simp
                refine hK _ _ ?_
                clear hK K
                refine wpAnyIn_ready (rs := [9]) (by kernel_rfl) (by simp) ?_
                refine AllReadyIn.cons rfl (fun K hK => ?_) AllReadyIn.nil
                · go_simp
                  refine hK _ _ ?_
                  clear hK K
                  refine wpAnyIn_done (by kernel_rfl) ?_ _
                  gi_wp2
                  exact ⟨HE.out.1, ⟨rfl, HE.out.2.1.2⟩, HE.out.2.2⟩
      · go_simp
        refine hK _ _ ?_
        clear hK K
        refine wpAnyIn_ready (rs := [0, 6]) (by kernel_rfl) (by simp) ?_
        refine AllReadyIn.cons rfl (fun K hK => ?_) (AllReadyIn.cons rfl (fun K hK => ?_) AllReadyIn.nil)
        · go_simp
          refine hK _ _ ?_
          clear hK K
          refine wpAnyIn_ready (rs := [2, 6]) (by kernel_rfl) (by simp) ?_
          refine AllReadyIn.cons rfl (fun K hK => ?_) (AllReadyIn.cons rfl (fun K hK => ?_) AllReadyIn.nil)
          · go_simp
            gi_wp2_with (refine ⟨trivial, ?_⟩; gi_at_call 39; refine (callsIn_wide.2 (cutter1_any s _ _ _ HS (by first | exact e4 | (rw [cell_drew_own]; exact e4) | (rw [cell_drew_own, World.cell?_alloc_past _ _ _ hlt4]; exact e4)))).mono ?_; rintro e w' ⟨rfl, rfl⟩)
            refine wpAnyIn_ready (rs := [6]) (by kernel_rfl) (by simp) ?_
            refine AllReadyIn.cons rfl (fun K hK => ?_) AllReadyIn.nil
            · go_simp
              refine hK _ _ ?_
              clear hK K
              refine wpAnyIn_take (i := 7) (v := ?_) rfl rfl (by kernel_rfl) (by kernel_rfl) (by kernel_rfl) (fun _ _ _ h => h) ⟨Or.inl ⟨by rfl, ?_⟩, fun _ => rfl⟩ ?_; rotate_left 1; focus (intro w; go_simp; rw [if_neg (by omega)])
              refine wpAnyIn_ready (rs := [8]) (by kernel_rfl) (by simp) ?_
              refine AllReadyIn.cons rfl (fun K hK => ?_) AllReadyIn.nil
              · go_simp
                refine hK _ _ ?_
                clear hK K
                refine wpAnyIn_ready (rs := [9]) (by kernel_rfl) (by simp) ?_
                refine AllReadyIn.cons rfl (fun K hK => ?_) AllReadyIn.nil
                · go_simp
                  refine hK _ _ ?_
                  clear hK K
                  refine wpAnyIn_done (by kernel_rfl) ?_ _
                  gi_wp2
                  exact ⟨HE.out.1, ⟨rfl, HE.out.2.1.2⟩, HE.out.2.2⟩
          · go_simp
            refine hK _ _ ?_
            clear hK K
            refine wpAnyIn_ready (rs := [2]) (by kernel_rfl) (by simp) ?_
            refine AllReadyIn.cons rfl (fun K hK => ?_) AllReadyIn.nil
            · go_simp
              gi_wp2_with (refine ⟨trivial, ?_⟩; gi_at_call 39; refine (callsIn_wide.2 (cutter1_any s _ _ _ HS (by first | exact e4 | (rw [cell_drew_own]; exact e4) | (rw [cell_drew_own, World.cell?_alloc_past _ _ _ hlt4]; exact e4)))).mono ?_; rintro e w' ⟨rfl, rfl⟩)
              refine wpAnyIn_take (i := 7) (v := ?_) rfl rfl (by kernel_rfl) (by kernel_rfl) (by kernel_rfl) (fun _ _ _ h => h) ⟨Or.inl ⟨by rfl, ?_⟩, fun _ => rfl⟩ ?_; rotate_left 1; focus (intro w; go_simp; rw [if_neg (by omega)])
              refine wpAnyIn_ready (rs := [8]) (by kernel_rfl) (by simp) ?_
              refine AllReadyIn.cons rfl (fun K hK => ?_) AllReadyIn.nil
              · go_simp
                refine hK _ _ ?_
                clear hK K
                refine wpAnyIn_ready (rs := [9]) (by kernel_rfl) (by simp) ?_
                refine AllReadyIn.cons rfl (fun K hK => ?_) AllReadyIn.nil
                · go_simp
                  refine hK _ _ ?_
                  clear hK K
                  refine wpAnyIn_done (by kernel_rfl) ?_ _
                  gi_wp2
                  exact ⟨HE.out.1, ⟨rfl, HE.out.2.1.2⟩, HE.out.2.2⟩
        · go_simp
          refine hK _ _ ?_
          clear hK K
          refine wpAnyIn_ready (rs := [0]) (by kernel_rfl) (by simp) ?_
          refine AllReadyIn.cons rfl (fun K hK => ?_) AllReadyIn.nil
          · go_simp
            refine hK _ _ ?_
            clear hK K
            refine wpAnyIn_ready (rs := [2]) (by kernel_rfl) (by simp) ?_
            refine AllReadyIn.cons rfl (fun K hK => ?_) AllReadyIn.nil
            · go_simp
              gi_wp2_with (refine ⟨trivial, ?_⟩; gi_at_call 39; refine (callsIn_wide.2 (cutter1_any s _ _ _ HS (by first | exact e4 | (rw [cell_drew_own]; exact e4) | (rw [cell_drew_own, World.cell?_alloc_past _ _ _ hlt4]; exact e4)))).mono ?_; rintro e w' ⟨rfl, rfl⟩)
              refine wpAnyIn_take (i := 7) (v := ?_) rfl rfl (by kernel_rfl) (by kernel_rfl) (by kernel_rfl) (fun _ _ _ h => h) ⟨Or.inl ⟨by rfl, ?_⟩, fun _ => rfl⟩ ?_; rotate_left 1; focus (intro w; go_simp; rw [if_neg (by omega)])
              refine wpAnyIn_ready (rs := [8]) (by kernel_rfl) (by simp) ?_
              refine AllReadyIn.cons rfl (fun K hK => ?_) AllReadyIn.nil
              · go_simp
                refine hK _ _ ?_
                clear hK K
                refine wpAnyIn_ready (rs := [9]) (by kernel_rfl) (by simp) ?_
                refine AllReadyIn.cons rfl (fun K hK => ?_) AllReadyIn.nil
                · go_simp
                  refine hK _ _ ?_
                  clear hK K
                  refine wpAnyIn_done (by kernel_rfl) ?_ _
                  gi_wp2
                  exact ⟨HE.out.1, ⟨rfl, HE.out.2.1.2⟩, HE.out.2.2⟩
    · gi_wp2
      refine ⟨KeepsFrom.refl _ _, Below.refl _ _, ?_, hB⟩
      intro p1 p2 hp'
      rcases List.mem_append.1 hp' with h | h
      · exact hp ⟨p1, p2⟩ h
      · simp at h
        subst h
        have hc := HC.out
        have : c.toNat < 256 := UInt8.toNat_lt c
        apply UInt8.toNat.inj
        rw [← hc]
        show c.toNat = 255
        omega
  case done =>
    rintro D ys W hD rfl ⟨hne, hB⟩ hK
    have e2 : W.cell? ⟨w.heap.size, 0, none⟩ = some (.string ⟨#[]⟩) := (hB.cell (p := ⟨w.heap.size, 0, none⟩) (by simp; omega)).trans d2.1
    have e2' : W.frozen? ⟨w.heap.size, 0, none⟩ = false := (hB.frozen (p := ⟨w.heap.size, 0, none⟩) (by simp; omega)).trans d2.2
    have e3 : W.cell? ⟨w.heap.size + 1, 0, none⟩ = some (.bool false) := (hB.cell (p := ⟨w.heap.size + 1, 0, none⟩) (by simp; omega)).trans d3.1
    have e3' : W.frozen? ⟨w.heap.size + 1, 0, none⟩ = false := (hB.frozen (p := ⟨w.heap.size + 1, 0, none⟩) (by simp; omega)).trans d3.2
    have HH := Lib.hid (And.intro hB (And.intro hWB sL))
    clear hB hWB d2 d3 d4 d5 c6 sL
    gi_wp2
    obtain ⟨hB, hWB, sL⟩ := HH.out
    have hK' := ((KeepsOthers.setCell W ⟨w.heap.size, 0, none⟩ (.string ⟨#[]⟩)).trans (KeepsOthers.setCell _ ⟨w.heap.size + 1, 0, none⟩ (.bool false))).same D _ hK rfl
    refine ⟨by simp, .inl ⟨_, _, rfl, run_takeDeferred hK', ?_⟩⟩
    have q2 : ((W.setCell ⟨w.heap.size, 0, none⟩ (.string ⟨#[]⟩)).setCell ⟨w.heap.size + 1, 0, none⟩ (.bool false)).cell? ⟨w.heap.size, 0, none⟩ = some (.string ⟨#[]⟩) := by
      rw [World.cell?_setCell_other _ _ _ _ (by simp)]
      exact World.cell?_setCell_same' _ _ _ (by rw [e2]; rfl)
    have q3 : ((W.setCell ⟨w.heap.size, 0, none⟩ (.string ⟨#[]⟩)).setCell ⟨w.heap.size + 1, 0, none⟩ (.bool false)).cell? ⟨w.heap.size + 1, 0, none⟩ = some (.bool false) := by
      refine World.cell?_setCell_same' _ _ _ ?_
      rw [World.cell?_setCell_other _ _ _ _ (by simp), e3]; rfl
    have q2' := cell_kept q2 (grownBy_putObj' _ D (.deferred none)) (fun r e => by cases e; exact ⟨_, hK', rfl⟩)
    have q3' := cell_kept q3 (grownBy_putObj' _ D (.deferred none)) (fun r e => by cases e; exact ⟨_, hK', rfl⟩)
    refine ⟨.tuple #[.string ⟨#[]⟩, .bool false], ?_, ⟨_, _, rfl, .inl ⟨rfl, rfl, fun i h => hne ⟨i, h⟩ ?_⟩⟩, ?_⟩
    · simp [results, Try.f24, go_sem, q2', q3']
    · exact downTo_all s ⟨i, h⟩
    · exact ((hWB.trans (hB.mono (by omega))).setCell (p := ⟨w.heap.size, 0, none⟩) (Nat.le_refl _) _ |>.setCell (p := ⟨w.heap.size + 1, 0, none⟩) (by simp) _).trans (belowK_b (w := w) (Nat.le_refl _) _ D _ _ (by omega) hK' rfl rfl)
  case stop =>
    rintro D c pre W hD ⟨k, hk, rfl⟩ ⟨⟨rfl, ini, last, e1, e2, e3, hc2, hc3⟩, hB⟩ hK
    clear d2 d3 d4 d5 c6
    gi_wp2
    refine ⟨by simp, .inl ⟨_, _, rfl, run_takeDeferred hK, ?_⟩⟩
    have q2' := cell_kept hc2 (grownBy_putObj' _ D (.deferred none)) (fun r e => by cases e; exact ⟨_, hK, rfl⟩)
    have q3' := cell_kept hc3 (grownBy_putObj' _ D (.deferred none)) (fun r e => by cases e; exact ⟨_, hK, rfl⟩)
    refine ⟨.tuple #[.string (clipB s last.1 ++ one (s[last.1]'last.2 + 1)), .bool true], ?_, ⟨_, _, rfl, .inr ⟨rfl, last.1, last.2, e3, ?_, rfl⟩⟩, ?_⟩
    · simp [results, Try.f24, go_sem, q2', q3']
    · exact downTo_last s k hk ini last e1 e2
    · exact hB.trans (belowK_b (w := w) (Nat.le_refl _) W D _ _ (by omega) hK rfl rfl)

end Go.Proofs.Ythkndfammlibpaa.Bd
