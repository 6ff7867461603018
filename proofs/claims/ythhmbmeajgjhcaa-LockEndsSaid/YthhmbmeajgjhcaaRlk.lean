/- The reference model of a table: Lock and Turn. -/
import Derived.Test.YthhmbmeajgjhcaaRgone
namespace Go.Proofs.Ythhmbmeajgjhcaa
open Go.RowKit
set_option maxRecDepth 100000
set_option maxHeartbeats 4000000

/-- A word is changed in its row. -/
theorem words_set {W : World} {B k n c : Nat} {l : List Wd} (h : W.ownsRow B 35 1 (.slice (some ⟨k, 0, none⟩) n c) n (wc l)) (hn : l.length = n) (j : Nat) (w : Int) :
    (W.setCell ⟨k, j, none⟩ (.int .u64 w)).ownsRow B 35 1 (.slice (some ⟨k, 0, none⟩) n c) n (wc (l.modify j (fun t => { t with w := w }))) := by
  obtain ⟨h1, h2⟩ := h
  refine ⟨by rw [wc_length, List.length_modify, hn, Nat.mul_one], ?_⟩
  rcases h2 with ⟨h2, _⟩ | ⟨g', cap, cur, h3, h4, h5, h6, h7, h8, h9⟩
  · cases h2
  · cases h3
    refine .inr ⟨k, c, cur.setIfInBounds j (.int .u64 w), rfl, h4, ?_, h6, h7, by rw [Array.size_setIfInBounds]; exact h8, ?_⟩
    · exact Fresh.set (show Fresh W k cur _ from h5) j (.int .u64 w)
    · rw [Array.toList_setIfInBounds, List.take_set, h9, wc_set]
theorem put_at {l : List Wd} (hu : Uniq l) {j : Nat} {t : Wd} (hj : l[j]? = some t) (w : Int) : putW l t.s t.g w = l.modify j (fun u => { u with w := w }) := by
  unfold putW
  rw [get_at l j t hu hj, modify_map l j t w hu hj]
  rfl
/-- What is written into the model's rows and box. -/
theorem Mod.word {B r k n c : Nat} {W : World} {l : List Wd} (h : W.ownsRow B 35 1 (.slice (some ⟨k, 0, none⟩) n c) n (wc l)) (i : Nat) (v : Value) : Mod B r W (W.setCell ⟨k, i, none⟩ v) := by
  refine ⟨rfl, rfl, rfl, by simp [World.setCell], fun q hq _ hb => Below.heap_setCell W ⟨k, i, none⟩ v q ?_⟩
  rintro rfl
  obtain ⟨cs, ht⟩ := row_type h rfl
  rcases hb with hb | hb
  · have h1 : B ≤ q := (h.lt _ rfl).1
    omega
  · exact (hb _ _ ht).2 rfl

theorem rlock_no {W : World} {B r : Nat} {s : Lk} (h : RAt W B r s.l s.taken) (ho : ∀ u ∈ s.l, RefOk u.s u.g) (hl : s.l.length ≤ 1000000) (x g w : Int) (hr : RefOk x g) (hw : W64 w) (hb : lockB s x g w = false) :
    Calls Try.prog 28 #[.pointer (some ⟨r, 0, none⟩), refV x g, .int .u64 w] W fun e w' => e = .returned (.bool false) ∧ Mod B r W w' ∧ RAt w' B r s.l s.taken := by
  obtain ⟨W1, hx⟩ := h.boxed x g
  have HX := Lib.hid hx
  have HW := Lib.hid hx.is
  obtain ⟨c, hc⟩ : ∃ c, ((getW s.l x g).isSome && (zeroW (getW s.l x g) == w)) = c := ⟨_, rfl⟩
  have HC : Hid (∀ W', Below W1.heap.size W1 W' → Calls Try.prog 31 #[.pointer (some ⟨r, 0, none⟩), refV x g, .int .u64 w] W' fun e w' => e = .returned (.bool c) ∧ Below W'.heap.size W' w') := fun W' hb => by
    have := rcheck_any (hx.at'.below hb) ho hl x g w hr
    rw [hc] at this
    exact this
  have e : lockB s x g w = (c && (w % 4 == 0)) := by unfold lockB; rw [hc]
  rw [e] at hb
  obtain ⟨v, d, hL⟩ : ∃ (v : Int) (d : Bool), (w % 4 == 0) = d ∧ Hid (∀ W, Calls Try.prog 44 #[.int .u64 w] W fun e w' => e = .returned (.tuple #[.int .u64 v, .bool d]) ∧ Below W.heap.size W w') := by
    by_cases h4 : w % 4 = 0
    · exact ⟨w + 1, true, by simpa using h4, fun W => lockR_yes w W hw h4⟩
    · exact ⟨w, false, by simpa using h4, fun W => lockR_no w W hw h4⟩
  obtain ⟨hd, HL⟩ := hL
  rw [hd] at hb
  obtain ⟨r0, r1⟩ := hx.ref
  have R0 : Hid (∀ W', Below W1.heap.size W1 W' → W'.cell? ⟨W.heap.size, 0, none⟩ = some (.int .i64 x) ∧ W'.cell? ⟨W.heap.size, 1, none⟩ = some (.int .u32 g)) := fun W' hb => ⟨(HX.out.box.below hb).cell 0, (HX.out.box.below hb).cell 1⟩
  clear h hx hr hw hc e hd ho hl r0 r1
  have hcd : c = false ∨ (c = true ∧ d = false) := by cases c <;> cases d <;> simp_all
  clear hb
  rcases hcd with rfl | ⟨rfl, rfl⟩
  · cases d
    all_goals
      go_enter Try.func28, Try.ntmps28
      go_upto_region 1 with fail
      rw [← HW.out]
      go_wp2_with fail
      refine (HL.out _).mono ?_
      rintro e w2 ⟨rfl, hb2⟩
      have H2 := Lib.hid hb2
      clear hb2
      obtain ⟨r0, r1⟩ := R0.out _ H2.out
      go_wp2_with fail
      refine (HC.out _ H2.out).mono ?_
      rintro e w3 ⟨rfl, hb3⟩
      have H3 := Lib.hid (Below.step H2.out hb3)
      clear hb3 r0 r1
      go_wp2_with fail
      go_ret
      exact ⟨rfl, Mod.of_below (Below.step HX.out.low H3.out), HX.out.at'.below H3.out⟩
  · go_enter Try.func28, Try.ntmps28
    go_upto_region 1 with fail
    rw [← HW.out]
    go_wp2_with fail
    refine (HL.out _).mono ?_
    rintro e w2 ⟨rfl, hb2⟩
    have H2 := Lib.hid hb2
    clear hb2
    obtain ⟨r0, r1⟩ := R0.out _ H2.out
    go_wp2_with fail
    refine (HC.out _ H2.out).mono ?_
    rintro e w3 ⟨rfl, hb3⟩
    have H3 := Lib.hid (Below.step H2.out hb3)
    clear hb3 r0 r1
    go_wp2_with fail
    go_ret
    exact ⟨rfl, Mod.of_below (Below.step HX.out.low H3.out), HX.out.at'.below H3.out⟩

theorem setK {w : World} {k j r b : Nat} {v v1 v2 v3 : Value} (n1 : r ≠ k) (n2 : b ≠ k) (h : w.cell? ⟨r, 1, none⟩ = some v1 ∧ w.cell? ⟨b, 0, none⟩ = some v2 ∧ w.cell? ⟨b, 1, none⟩ = some v3) :
    (w.setCell ⟨k, j, none⟩ v).cell? ⟨r, 1, none⟩ = some v1 ∧ (w.setCell ⟨k, j, none⟩ v).cell? ⟨b, 0, none⟩ = some v2 ∧ (w.setCell ⟨k, j, none⟩ v).cell? ⟨b, 1, none⟩ = some v3 :=
  ⟨(World.cell?_setCell_far w ⟨k, j, none⟩ ⟨r, 1, none⟩ v (fun e => n1 e.symm)).trans h.1, (World.cell?_setCell_far w ⟨k, j, none⟩ ⟨b, 0, none⟩ v (fun e => n2 e.symm)).trans h.2.1, (World.cell?_setCell_far w ⟨k, j, none⟩ ⟨b, 1, none⟩ v (fun e => n2 e.symm)).trans h.2.2⟩
theorem rlock_yes {W : World} {B r : Nat} {s : Lk} (h : RAt W B r s.l s.taken) (hu : Uniq s.l) (ho : ∀ u ∈ s.l, RefOk u.s u.g) (hl : s.l.length ≤ 1000000) (ht : 0 ≤ s.taken ∧ s.taken ≤ 1000000) (x g w : Int) (hr : RefOk x g) (hw : W64 w) (hb : lockB s x g w = true) :
    Calls Try.prog 28 #[.pointer (some ⟨r, 0, none⟩), refV x g, .int .u64 w] W fun e w' => e = .returned (.bool true) ∧ Mod B r W w' ∧ RAt w' B r (putW s.l x g (w + 1)) (s.taken + 1) := by
  obtain ⟨t, hg, htw, h4⟩ := lock_some hb
  obtain ⟨W1, hx⟩ := h.boxed x g
  have HX := Lib.hid hx
  have HW := Lib.hid hx.is
  have HC : Hid (∀ W', Below W1.heap.size W1 W' → Calls Try.prog 31 #[.pointer (some ⟨r, 0, none⟩), refV x g, .int .u64 w] W' fun e w' => e = .returned (.bool true) ∧ Below W'.heap.size W' w') := fun W' hb => by
    have := rcheck_any (hx.at'.below hb) ho hl x g w hr
    rw [hg] at this
    simpa [zeroW, htw] using this
  have HL := Lib.hid (fun W => lockR_yes w W hw h4)
  have R0 : Hid (∀ W', Below W1.heap.size W1 W' → W'.cell? ⟨W.heap.size, 0, none⟩ = some (.int .i64 x) ∧ W'.cell? ⟨W.heap.size, 1, none⟩ = some (.int .u32 g)) := fun W' hb => ⟨(HX.out.box.below hb).cell 0, (HX.out.box.below hb).cell 1⟩
  have HAT : Hid (∀ W', Below W1.heap.size W1 W' → Calls Try.prog 43 #[.pointer (some ⟨r, 0, none⟩), refV x g] W' fun e w' => e = .returned (.int .i64 (atN s.l x g)) ∧ Below W'.heap.size W' w') := fun W' hb => rat_any (hx.at'.below hb) ho hl x g hr
  obtain ⟨aR, cR, aW, cW, hf0, oR0, oW0⟩ := hx.at'.view
  rcases at_get x g s.l with ⟨e1, e2⟩ | ⟨j, u, hj, e1, e2⟩
  · rw [e1] at hg; cases hg
  · rw [e2] at HAT
    obtain ⟨m1, m2, m3⟩ := mem_get e1
    have ep : putW s.l x g (w + 1) = s.l.modify j (fun t => { t with w := w + 1 }) := by rw [← m2, ← m3]; exact put_at hu hj (w + 1)
    rw [ep]
    clear ep
    have hjl : j < s.l.length := (List.getElem?_eq_some_iff.1 hj).1
    obtain ⟨k, rfl, hkB, hks, hlw, hwm, k0, kz⟩ := word_cells oW0 j u hj
    unfold maxLen at hwm
    have hrk : r ≠ k := by rintro rfl; exact row_apart oW0 hf0 (by decide) rfl
    have hbk : W.heap.size ≠ k := by rintro e; exact row_apart oW0 hx.box (by decide) (by rw [e]; rfl)
    obtain ⟨n, hn⟩ : ∃ n, s.l.length = n := ⟨_, rfl⟩
    have HN := Lib.hid hn
    have HF1 := Lib.hid hf0
    have HR1 := Lib.hid oR0
    have HW1 := Lib.hid oW0
    have q0 : (0 : Int) ≤ (j : Int) := Int.natCast_nonneg _
    have q1 : (j : Int) < (n : Int) := by omega
    have q2 : decide (j < n) = true := decide_eq_true (by omega)
    have HT : IntKind.i64.wrap (s.taken + 1) = s.taken + 1 := IntWalk.i64_in _ (by omega)
    have HJ : Hid (j < n) := by show j < n; omega
    have KS : Hid (∀ W', Below W1.heap.size W1 W' → W'.cell? ⟨r, 1, none⟩ = some (.slice (some ⟨k, 0, none⟩) n cW) ∧ W'.cell? ⟨W.heap.size, 0, none⟩ = some (.int .i64 x) ∧ W'.cell? ⟨W.heap.size, 1, none⟩ = some (.int .u32 g)) := fun W' hb => ⟨by rw [← HN.out]; exact (HF1.out.below hb).cell 1, R0.out W' hb⟩
    have KW : Hid (∀ W', Below W1.heap.size W1 W' → W'.cell? ⟨k, j, none⟩ = some (.int .u64 u.w) ∧ W'.frozen? ⟨k, j, none⟩ = false) := fun W' hb => ⟨by rw [hb.cell (p := ⟨k, j, none⟩) hks]; exact k0, by rw [hb.frozen (p := ⟨k, j, none⟩) hks]; exact kz⟩
    clear h hx hr hw hb hg htw h4 e1 e2 m1 m2 m3 ho hl hf0 oR0 oW0 hn hj k0 kz
    obtain ⟨uw, huw⟩ : ∃ y, u.w = y := ⟨_, rfl⟩
    rw [huw] at KW
    clear huw
    go_enter Try.func28, Try.ntmps28
    go_upto_region 1 with fail
    rw [← HW.out]
    go_wp2_with fail
    refine (HL.out _).mono ?_
    rintro e w2 ⟨rfl, hb2⟩
    have H2 := Lib.hid hb2
    clear hb2
    obtain ⟨r0, r1⟩ := R0.out _ H2.out
    go_wp2_with fail
    refine (HC.out _ H2.out).mono ?_
    rintro e w3 ⟨rfl, hb3⟩
    have H3 := Lib.hid (Below.step H2.out hb3)
    clear hb3 r0 r1
    obtain ⟨c1, b0, b1⟩ := KS.out _ H3.out
    go_wp2_with fail
    go_region_held3 (fun W' => W'.cell? ⟨r, 1, none⟩ = some (.slice (some ⟨k, 0, none⟩) n cW) ∧ W'.cell? ⟨W.heap.size, 0, none⟩ = some (.int .i64 x) ∧ W'.cell? ⟨W.heap.size, 1, none⟩ = some (.int .u32 g))
      (first | exact KS.out _ hq4 | exact setK hrk hbk (KS.out _ hq4) | go_keep)
      (first
        | (go_at_call 43
           refine (HAT.out _ (H3.out.drew)).mono ?_
           rintro e w4 ⟨rfl, hb4⟩
           have hq4 : Below W1.heap.size W1 w4 := Below.step H3.out.drew hb4
           have y0 := (KW.out _ hq4).1
           have y1 := (KW.out _ hq4).2))
    all_goals
      have H4 := Lib.hid hq4
      clear hb4 hq4 c1 b0 b1 y0 y1
      obtain ⟨W5, hW5⟩ : ∃ W5, W5 = w4.setCell ⟨k, j, none⟩ (.int .u64 (w + 1)) := ⟨_, rfl⟩
      have F5 : Hid (Fresh W5 r #[.slice aR s.l.length cR, .slice (some ⟨k, 0, none⟩) s.l.length cW, .int .i64 s.taken] TL) := by show Fresh _ _ _ _; rw [hW5]; exact (HF1.out.below H4.out).other hrk j _
      have P4 := row_keep HW1.out fun i hi => H4.out.block i (HW1.out.lt i hi).2
      have O4 := row_keep HR1.out fun i hi => H4.out.block i (HR1.out.lt i hi).2
      have M5 : Hid (Mod B r W W5) := by show Mod _ _ _ _; rw [hW5]; exact (Mod.of_below (Below.step HX.out.low H4.out)).trans (Mod.word P4 j _)
      have P5 : Hid (W5.ownsRow B 35 1 (.slice (some ⟨k, 0, none⟩) s.l.length cW) s.l.length (wc (s.l.modify j (fun t => { t with w := w + 1 })))) := by show World.ownsRow _ _ _ _ _ _ _; rw [hW5]; exact words_set P4 rfl j _
      have O5 : Hid (W5.ownsRow B 33 2 (.slice aR s.l.length cR) s.l.length (rc s.l)) := by
        show World.ownsRow _ _ _ _ _ _ _
        rw [hW5]
        exact row_keep O4 fun i hi => Below.heap_setCell w4 ⟨k, j, none⟩ _ i (by rintro rfl; exact row_two O4 P4 (by decide) hi rfl)
      rw [← hW5]
      clear hW5 P4 O4
      have c2 := F5.out.cell 2
      have z2 := F5.out.thawed 2
      simp only [List.getElem?_toArray, List.getElem?_cons_zero, List.getElem?_cons_succ] at c2
      go_wp2_with fail
      go_ret
      refine ⟨rfl, M5.out.trans (Mod.set _ _ _), _, _, F5.out.set 2 _, ?_, ?_⟩
      · rw [rc_modify, List.length_modify]
        exact row_keep O5.out fun i hi => Below.heap_setCell W5 ⟨r, 2, none⟩ _ i (by rintro rfl; exact row_apart O5.out F5.out (by decide) hi)
      · rw [List.length_modify]
        exact row_keep P5.out fun i hi => Below.heap_setCell W5 ⟨r, 2, none⟩ _ i (by rintro rfl; exact row_apart P5.out F5.out (by decide) hi)
theorem rlock_any {W : World} {B r : Nat} {s : Lk} {N : Int} (h : RAt W B r s.l s.taken) (hk : s.Ok N) (hN : N ≤ 1000000) (ho : ∀ u ∈ s.l, RefOk u.s u.g) (x g w : Int) (hr : RefOk x g) (hw : W64 w) :
    Calls Try.prog 28 #[.pointer (some ⟨r, 0, none⟩), refV x g, .int .u64 w] W fun e w' => e = .returned (.bool (lockB s x g w)) ∧ Mod B r W w' ∧ RAt w' B r (lockS s x g w).l (lockS s x g w).taken := by
  unfold lockS
  cases hb : lockB s x g w with
  | false => exact rlock_no h ho (by have := hk.len; omega) x g w hr hw hb
  | true => exact rlock_yes h hk.uniq ho (by have := hk.len; omega) ⟨hk.t0, by have := hk.t1; omega⟩ x g w hr hw hb
end Go.Proofs.Ythhmbmeajgjhcaa
