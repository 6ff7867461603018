/- The reference model of a table: Turn. -/
import Derived.Test.YthhmbmeajgjhcaaRlk
namespace Go.Proofs.Ythhmbmeajgjhcaa
open Go.RowKit
set_option maxRecDepth 100000
set_option maxHeartbeats 4000000

def turnV (how : Nat) (n : Int) : Int := if how = 0 then n - 1 else if how = 1 then doneV n else killV n

theorem rturn_none {W : World} {B r : Nat} {s : Lk} (h : RAt W B r s.l s.taken) (ho : ∀ u ∈ s.l, RefOk u.s u.g) (hl : s.l.length ≤ 1000000) (x g : Int) (hr : RefOk x g) (how : Int) (hg : getW s.l x g = none) :
    Calls Try.prog 30 #[.pointer (some ⟨r, 0, none⟩), refV x g, .int .i64 how] W fun e w' => e = .returned (.int .i64 5) ∧ Mod B r W w' ∧ RAt w' B r s.l s.taken := by
  obtain ⟨W1, hx⟩ := h.boxed x g
  have HX := Lib.hid hx
  have HW := Lib.hid hx.is
  have HA := rat_any hx.at' ho hl x g hr
  obtain ⟨r0, r1⟩ := hx.ref
  rcases at_get x g s.l with ⟨_, e2⟩ | ⟨j, u, hj, e1, e2⟩
  rotate_left
  · rw [e1] at hg; cases hg
  · rw [e2] at HA
    have HA := Lib.hid HA
    clear h hx hg hr e2 ho hl
    go_enter Try.func30, Try.ntmps30
    go_upto_region 1 with fail
    rw [← HW.out]
    go_wp2_with fail
    refine HA.out.mono ?_
    rintro e w2 ⟨rfl, hb2⟩
    have H2 := Lib.hid hb2
    clear hb2 r0 r1
    go_wp2_with fail
    go_ret
    exact ⟨rfl, Mod.of_below (Below.step HX.out.low H2.out), HX.out.at'.below H2.out⟩

theorem rturn_some {W : World} {B r : Nat} {s : Lk} (h : RAt W B r s.l s.taken) (hu : Uniq s.l) (ho : ∀ u ∈ s.l, RefOk u.s u.g) (hw : ∀ u ∈ s.l, W64 u.w) (hl : s.l.length ≤ 1000000) (x g : Int) (hr : RefOk x g) (how : Nat) (hh : how < 3) (t : Wd) (hg : getW s.l x g = some t) :
    Calls Try.prog 30 #[.pointer (some ⟨r, 0, none⟩), refV x g, .int .i64 how] W fun e w' => e = .returned (.int .i64 (if t.w % 4 = 1 then 0 else 15)) ∧ Mod B r W w' ∧ RAt w' B r (if t.w % 4 = 1 then putW s.l x g (turnV how t.w) else s.l) s.taken := by
  obtain ⟨W1, hx⟩ := h.boxed x g
  have HX := Lib.hid hx
  have HW := Lib.hid hx.is
  have HA := rat_any hx.at' ho hl x g hr
  obtain ⟨r0, r1⟩ := hx.ref
  obtain ⟨aR, cR, aW, cW, hf0, oR0, oW0⟩ := hx.at'.view
  rcases at_get x g s.l with ⟨e1, e2⟩ | ⟨j, u, hj, e1, e2⟩
  · rw [e1] at hg; cases hg
  · rw [e2] at HA
    obtain rfl : u = t := by rw [e1] at hg; exact Option.some.inj hg
    obtain ⟨m1, m2, m3⟩ := mem_get e1
    have h64 := hw u m1
    have hjl : j < s.l.length := (List.getElem?_eq_some_iff.1 hj).1
    obtain ⟨k, rfl, hkB, hks, hlw, hwm, k0, kz⟩ := word_cells oW0 j u hj
    unfold maxLen at hwm
    obtain ⟨n, hn⟩ : ∃ n, s.l.length = n := ⟨_, rfl⟩
    have HN := Lib.hid hn
    have HF1 := Lib.hid hf0
    have HR1 := Lib.hid oR0
    have HW1 := Lib.hid oW0
    have q0 : (0 : Int) ≤ (j : Int) := Int.natCast_nonneg _
    have q1 : (j : Int) < (n : Int) := by omega
    have q2 : decide (j < n) = true := decide_eq_true (by omega)
    have KS : Hid (∀ W', Below W1.heap.size W1 W' → W'.cell? ⟨r, 1, none⟩ = some (.slice (some ⟨k, 0, none⟩) n cW) ∧ W'.cell? ⟨k, j, none⟩ = some (.int .u64 u.w) ∧ W'.frozen? ⟨k, j, none⟩ = false) := fun W' hb => ⟨by rw [← HN.out]; exact (HF1.out.below hb).cell 1, by rw [hb.cell (p := ⟨k, j, none⟩) hks]; exact k0, by rw [hb.frozen (p := ⟨k, j, none⟩) hks]; exact kz⟩
    by_cases h4 : u.w % 4 = 1
    · rw [if_pos h4, if_pos h4]
      have ep : putW s.l x g (turnV how u.w) = s.l.modify j (fun t => { t with w := turnV how u.w }) := by rw [← m2, ← m3]; exact put_at hu hj _
      rw [ep]
      have D0 := Lib.hid (fun W => dropR_yes u.w W h64 h4)
      have D1 := Lib.hid (fun W => doneR_yes u.w W h64 h4)
      have D2 := Lib.hid (fun W => killR_yes u.w W h64 h4)
      have v0 : Hid (turnV 0 u.w = u.w - 1) := rfl
      have v1 : Hid (turnV 1 u.w = doneV u.w) := rfl
      have v2 : Hid (turnV 2 u.w = killV u.w) := rfl
      have HA := Lib.hid HA
      obtain ⟨d1, hd1⟩ : ∃ y, doneV u.w = y := ⟨_, rfl⟩
      obtain ⟨d2, hd2⟩ : ∃ y, killV u.w = y := ⟨_, rfl⟩
      obtain ⟨uw, huw⟩ : ∃ y, u.w = y := ⟨_, rfl⟩
      rw [hd1] at D1 v1
      rw [hd2] at D2 v2
      rw [huw] at KS D0 D1 D2 v0 v1 v2 ⊢
      clear h hx hr hw hg e1 e2 m1 m2 m3 ho hl hf0 oR0 oW0 hn hj k0 kz ep h4 h64 hd1 hd2 huw
      have key : ∀ (wx : World) (y : Int), Hid (turnV how uw = y) → Hid (Below W1.heap.size W1 wx) → Mod B r W (wx.setCell ⟨k, j, none⟩ (.int .u64 y)) ∧ RAt (wx.setCell ⟨k, j, none⟩ (.int .u64 y)) B r (s.l.modify j (fun t => { t with w := turnV how uw })) s.taken := by
        intro wx y hy hbx
        rw [hy.out]
        have P4 := row_keep HW1.out fun i hi => hbx.out.block i (HW1.out.lt i hi).2
        have O4 := row_keep HR1.out fun i hi => hbx.out.block i (HR1.out.lt i hi).2
        have F4 := HF1.out.below hbx.out
        refine ⟨(Mod.of_below (Below.step HX.out.low hbx.out)).trans (Mod.word P4 j _), _, _, F4.other ?_ j _, ?_, ?_⟩
        · rintro rfl
          exact row_apart P4 F4 (by decide) rfl
        · rw [rc_modify, List.length_modify]
          exact row_keep O4 fun i hi => Below.heap_setCell wx ⟨k, j, none⟩ _ i (by rintro rfl; exact row_two O4 P4 (by decide) hi rfl)
        · rw [List.length_modify]
          exact words_set P4 rfl j _
      have HK := Lib.hid key
      clear key
      rcases (show how = 0 ∨ how = 1 ∨ how = 2 from by omega) with rfl | rfl | rfl
      all_goals
        go_enter Try.func30, Try.ntmps30
        go_upto_region 1 with fail
        rw [← HW.out]
        go_wp2_with fail
        refine HA.out.mono ?_
        rintro e w2 ⟨rfl, hb2⟩
        have H2 := Lib.hid hb2
        clear hb2 r0 r1
        obtain ⟨c1, y0, y1⟩ := KS.out _ H2.out
        go_wp2_with fail
        refine (D0.out _).mono ?_
        rintro e w3 ⟨rfl, hb3⟩
        have H3 := Lib.hid (Below.step H2.out hb3)
        clear hb3 c1 y0 y1
        obtain ⟨c1, y0, y1⟩ := KS.out _ H3.out
        go_wp2_with fail
        first
          | (go_ret
             exact ⟨rfl, HK.out _ _ v0 H3⟩)
          | (refine (D1.out _).mono ?_
             rintro e w4 ⟨rfl, hb4⟩
             have H4 := Lib.hid (Below.step H3.out hb4)
             clear hb4 c1 y0 y1
             obtain ⟨c1, y0, y1⟩ := KS.out _ H4.out
             go_wp2_with fail
             go_ret
             exact ⟨rfl, HK.out _ _ v1 H4⟩)
          | (refine (D2.out _).mono ?_
             rintro e w4 ⟨rfl, hb4⟩
             have H4 := Lib.hid (Below.step H3.out hb4)
             clear hb4 c1 y0 y1
             obtain ⟨c1, y0, y1⟩ := KS.out _ H4.out
             go_wp2_with fail
             go_ret
             exact ⟨rfl, HK.out _ _ v2 H4⟩)
    · rw [if_neg h4, if_neg h4]
      have D0 := Lib.hid (fun W => dropR_no u.w W h64 h4)
      have D1 := Lib.hid (fun W => doneR_no u.w W h64 h4)
      have D2 := Lib.hid (fun W => killR_no u.w W h64 h4)
      have HA := Lib.hid HA
      obtain ⟨uw, huw⟩ : ∃ y, u.w = y := ⟨_, rfl⟩
      rw [huw] at KS D0 D1 D2
      clear h hx hr hw hg e1 e2 m1 m2 m3 ho hl hf0 oR0 oW0 hn hj k0 kz h4 h64 huw
      rcases (show how = 0 ∨ how = 1 ∨ how = 2 from by omega) with rfl | rfl | rfl
      all_goals
        go_enter Try.func30, Try.ntmps30
        go_upto_region 1 with fail
        rw [← HW.out]
        go_wp2_with fail
        refine HA.out.mono ?_
        rintro e w2 ⟨rfl, hb2⟩
        have H2 := Lib.hid hb2
        clear hb2 r0 r1
        obtain ⟨c1, y0, y1⟩ := KS.out _ H2.out
        go_wp2_with fail
        refine (D0.out _).mono ?_
        rintro e w3 ⟨rfl, hb3⟩
        have H3 := Lib.hid (Below.step H2.out hb3)
        clear hb3 c1 y0 y1
        obtain ⟨c1, y0, y1⟩ := KS.out _ H3.out
        go_wp2_with fail
        first
          | (go_ret
             exact ⟨rfl, Mod.of_below (Below.step HX.out.low H3.out), HX.out.at'.below H3.out⟩)
          | (refine (D1.out _).mono ?_
             rintro e w4 ⟨rfl, hb4⟩
             have H4 := Lib.hid (Below.step H3.out hb4)
             clear hb4 c1 y0 y1
             obtain ⟨c1, y0, y1⟩ := KS.out _ H4.out
             go_wp2_with fail
             go_ret
             exact ⟨rfl, Mod.of_below (Below.step HX.out.low H4.out), HX.out.at'.below H4.out⟩)
          | (refine (D2.out _).mono ?_
             rintro e w4 ⟨rfl, hb4⟩
             have H4 := Lib.hid (Below.step H3.out hb4)
             clear hb4 c1 y0 y1
             obtain ⟨c1, y0, y1⟩ := KS.out _ H4.out
             go_wp2_with fail
             go_ret
             exact ⟨rfl, Mod.of_below (Below.step HX.out.low H4.out), HX.out.at'.below H4.out⟩)

theorem rturn_any {W : World} {B r : Nat} {s : Lk} {N : Int} (h : RAt W B r s.l s.taken) (hk : s.Ok N) (hN : N ≤ 1000000) (ho : ∀ u ∈ s.l, RefOk u.s u.g) (x g : Int) (hr : RefOk x g) (how : Nat) (hh : how < 3) :
    Calls Try.prog 30 #[.pointer (some ⟨r, 0, none⟩), refV x g, .int .i64 how] W fun e w' => e = .returned (.int .i64 (relS (turnV how) s x g).2) ∧ Mod B r W w' ∧ RAt w' B r (relS (turnV how) s x g).1.l (relS (turnV how) s x g).1.taken := by
  unfold relS
  cases hg : getW s.l x g with
  | none => exact rturn_none h ho (by have := hk.len; omega) x g hr how hg
  | some t =>
    have := rturn_some h hk.uniq ho hk.w (by have := hk.len; omega) x g hr how hh t hg
    dsimp only
    by_cases h4 : t.w % 4 = 1
    · rw [if_pos h4] at this ⊢
      rw [if_pos h4] at this
      exact this
    · rw [if_neg h4] at this ⊢
      rw [if_neg h4] at this
      exact this
end Go.Proofs.Ythhmbmeajgjhcaa
