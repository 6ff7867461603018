/- The walk of same, and of HandleTells. -/
import Derived.Test.YtcfkaginjcgmhaaDoorAwake
namespace Go.Proofs.YtcfkaginjcgmhaaDoor
open Go.RowKit
set_option maxRecDepth 100000
set_option maxHeartbeats 4000000

theorem rshow_no (t g : Int) (r : Nat) (hr : r < 256) (h : rightZ t g r = false) (w : World) :
    Calls Tryd.prog 19 #[hv t g r] w fun e w' => e = .returned (.tuple #[.string ⟨#[]⟩, .int .i64 4]) ∧ Below w.heap.size w w' := by
  have HR := Lib.hid h
  have R8 := Lib.hid hr
  clear h
  go_enter Tryd.func19, Tryd.ntmps19
  go_wp2_with fail
  refine (rright_any t g r R8.out _).mono ?_
  rw [HR.out]
  rintro e w1 ⟨rfl, hb1⟩
  have HB1 := Lib.hid (Below.step ((Below.refl w.heap.size w).alloc (Nat.le_refl _) _) hb1)
  clear hb1
  go_wp2_with fail
  go_ret2
  exact ⟨rfl, HB1.out⟩

theorem nat_of {t g : Int} {r : Nat} (hg : g ≤ 4294967295) (h : rightZ t g r = true) : ∃ T G : Nat, t = T ∧ g = G ∧ okN T G r := by
  unfold rightZ at h
  simp only [Bool.and_eq_true, decide_eq_true_eq] at h
  exact ⟨t.toNat, g.toNat, by omega, by omega, by omega, by omega, by omega, by omega, by omega, by omega⟩

theorem both_show (t g : Int) (r : Nat) (hg : g ≤ 4294967295) (hr : r < 256) : ∃ (S : ByteArray) (E : Int), (∀ w, Tab w → Calls Tryd.prog 13 #[hv t g r] w fun e w' => e = .returned (.tuple #[.string S, .int .i64 E]) ∧ Below w.heap.size w w') ∧
    (∀ w, Calls Tryd.prog 19 #[hv t g r] w fun e w' => e = .returned (.tuple #[.string S, .int .i64 E]) ∧ Below w.heap.size w w') := by
  cases h : rightZ t g r with
  | true =>
    obtain ⟨T, G, rfl, rfl, ok⟩ := nat_of hg h
    exact ⟨_, _, fun w ht => show_yes T G r ok w ht, fun w => rshow_yes T G r ok w⟩
  | false => exact ⟨_, _, fun w _ => show_no t g r h w, fun w => rshow_no t g r hr h w⟩

theorem asksN_le (d : Int) : asksN d ≤ 4 := by unfold asksN; split <;> (try split) <;> (try split) <;> omega

theorem same_any (t g : Int) (r : Nat) (t' g' : Int) (r' : Nat) (d : Int) (hg : g ≤ 4294967295) (hr : r < 256) (hr' : r' < 256) (w : World) (htab : Tab w) :
    Calls Tryd.prog 9 #[hv t g r, hv t' g' r', .int .i64 d] w fun e w' => e = .returned (.bool true) ∧ Below w.heap.size w w' := by
  have HT := Lib.hid htab
  have R1 := Lib.hid hr
  have R2 := Lib.hid hr'
  obtain ⟨S, E, h1, h2⟩ := both_show t g r hg hr
  have HS := Lib.hid h1
  have HS2 := Lib.hid h2
  have hn4 := asksN_le d
  obtain ⟨n, hn⟩ : ∃ n : Nat, asksN d = n := ⟨_, rfl⟩
  rw [hn] at hn4
  obtain ⟨b, hb⟩ : ∃ b : Bool, decide (n ≠ 0) = b := ⟨_, rfl⟩
  have hb2 : decide (0 < n) = b := by rw [← hb, Bool.eq_iff_iff]; simp; omega
  have HN := Lib.hid hn
  have Hb := Lib.hid hb
  have HF1 := Lib.hid ((Fresh.new w _ #[.int .i64 t, .int .u32 g, .int .u8 r] 25 rfl).alloc (.cells #[.int .i64 t', .int .u32 g', .int .u8 r'] 25))
  have HG1 := Lib.hid (Fresh.new (w.alloc (.cells #[.int .i64 t, .int .u32 g, .int .u8 r] 25)) (w.heap.size + 1) #[.int .i64 t', .int .u32 g', .int .u8 r'] 25 (by simp))
  have HB0 := Lib.hid (((Below.refl w.heap.size w).alloc (Nat.le_refl _) (.cells #[.int .i64 t, .int .u32 g, .int .u8 r] 25)).alloc (by simp) (.cells #[.int .i64 t', .int .u32 g', .int .u8 r'] 25))
  clear htab hr hr' h1 h2 hn hb hg
  go_enter Tryd.func9, Tryd.ntmps9
  go_wp2_with fail
  refine (asks_any d _).mono ?_
  rw [HN.out, Hb.out]
  rintro e w1 ⟨rfl, hb1⟩
  have HB1 := Lib.hid (Below.step HB0.out hb1)
  have HF2 := Lib.hid (HF1.out.below hb1)
  have HG2 := Lib.hid (HG1.out.below hb1)
  clear hb1
  have c0 := HF2.out.cell 0
  have c1 := HF2.out.cell 1
  have c2 := HF2.out.cell 2
  simp only [List.getElem?_toArray, List.getElem?_cons_zero, List.getElem?_cons_succ] at c0 c1 c2
  go_wp2_with fail
  refine (HS.out _ (HT.out.on HB1.out)).mono ?_
  rintro e w2 ⟨rfl, hb2⟩
  have HB2 := Lib.hid (Below.step HB1.out hb2)
  have HF3 := Lib.hid (HF2.out.below hb2)
  have HG3 := Lib.hid (HG2.out.below hb2)
  clear hb2 c0 c1 c2
  have c0 := HF3.out.cell 0
  have c1 := HF3.out.cell 1
  have c2 := HF3.out.cell 2
  simp only [List.getElem?_toArray, List.getElem?_cons_zero, List.getElem?_cons_succ] at c0 c1 c2
  go_wp2_with fail
  refine (HS2.out _).mono ?_
  rintro e w3 ⟨rfl, hb3⟩
  have HB3 := Lib.hid (Below.step HB2.out hb3)
  have HF4 := Lib.hid (HF3.out.below hb3)
  have HG4 := Lib.hid (HG3.out.below hb3)
  clear hb3 c0 c1 c2
  have c0 := HF4.out.cell 0
  have c1 := HF4.out.cell 1
  have c2 := HF4.out.cell 2
  have d0 := HG4.out.cell 0
  have d1 := HG4.out.cell 1
  have d2 := HG4.out.cell 2
  simp only [List.getElem?_toArray, List.getElem?_cons_zero, List.getElem?_cons_succ] at c0 c1 c2 d0 d1 d2
  go_wp2_with fail
  have g0 := fun d os => cell_regrown c0 d os
  have g1 := fun d os => cell_regrown c1 d os
  have g2 := fun d os => cell_regrown c2 d os
  have k0 := fun d os => cell_regrown d0 d os
  have k1 := fun d os => cell_regrown d1 d os
  have k2 := fun d os => cell_regrown d2 d os
  refine wp_region_quiet_below (by kernel_rfl) (by kernel_rfl) ?_
  repeat (any_goals (first | go_big_quiet_step (first
    | (go_at_call 20; exact Calls.regrown_of ((rasks_any d _).mono fun e w' h => ⟨by rw [h.1, HN.out], by rw [h.2]; exact Below.refl _ _⟩))
    | (go_at_call 14; exact Calls.regrown_of (hright_any _ _ _ _))
    | (go_at_call 21; exact Calls.regrown_of (rright_any _ _ _ (by first | exact R1.out | exact R2.out) _))
    | (go_at_call 17; exact Calls.regrown_of (allows_any t g r d R1.out _))
    | (go_at_call 22; exact Calls.regrown_of (rallows_any t g r d R1.out _))
    | (go_at_call 16; exact Calls.regrown_of (within_any _ _ _ _ _ _ _))
    | (go_at_call 23; exact Calls.regrown_of (rwithin_any _ _ _ _ _ _ (by first | exact R1.out | exact R2.out) (by first | exact R1.out | exact R2.out) _))) | quiet_step (fail)))
  refine wpQuiet_nil ?_
  intro w5 hw5
  have hb5 : Below w3.heap.size w3 w5 := by obtain ⟨p, rfl⟩ := hw5; exact below_regrown _ _ _
  clear hw5
  go_wp2_with fail
  go_ret
  exact ⟨rfl, Below.step HB3.out hb5⟩

theorem handleTells_walk (t g : Int) (r : Nat) (t' g' : Int) (r' : Nat) (d : Int) (w : World) (hg : g ≤ 4294967295) (hr : r < 256) (hr' : r' < 256) (hw : Tab w ∧ Errs w) :
    Calls Tryd.prog 3 #[hv t g r, hv t' g' r', .int .i64 d] w fun e w' => e = .returned (.bool true) ∧ Below w.heap.size w w' := by
  have HT := Lib.hid hw.1
  have HE := Lib.hid hw.2
  have HG := Lib.hid hg
  have R1 := Lib.hid hr
  have R2 := Lib.hid hr'
  have HF1 := Lib.hid ((Fresh.new w _ #[.int .i64 t, .int .u32 g, .int .u8 r] 25 rfl).alloc (.cells #[.int .i64 t', .int .u32 g', .int .u8 r'] 25))
  have HG1 := Lib.hid (Fresh.new (w.alloc (.cells #[.int .i64 t, .int .u32 g, .int .u8 r] 25)) (w.heap.size + 1) #[.int .i64 t', .int .u32 g', .int .u8 r'] 25 (by simp))
  have HB0 := Lib.hid (((Below.refl w.heap.size w).alloc (Nat.le_refl _) (.cells #[.int .i64 t, .int .u32 g, .int .u8 r] 25)).alloc (by simp) (.cells #[.int .i64 t', .int .u32 g', .int .u8 r'] 25))
  clear hg hr hr' hw
  go_enter Tryd.func3, Tryd.ntmps3
  go_wp2_with fail
  have HC1 := Lib.hid (Fresh.new ((w.alloc (.cells #[.int .i64 t, .int .u32 g, .int .u8 r] 25)).alloc (.cells #[.int .i64 t', .int .u32 g', .int .u8 r'] 25)) (w.heap.size + 1 + 1) #[.int .i64 t, .int .u32 g, .int .u8 r'] 25 (by simp))
  have HB1 := Lib.hid (Below.new HB0.out (.cells #[.int .i64 t, .int .u32 g, .int .u8 r'] 25))
  refine (same_any t g r t' g' r' d HG.out R1.out R2.out _ (HT.out.on HB1.out)).mono ?_
  rintro e w1 ⟨rfl, hb1⟩
  have HF2 := Lib.hid ((HF1.out.alloc (.cells #[.int .i64 t, .int .u32 g, .int .u8 r'] 25)).below hb1)
  have HC2 := Lib.hid (HC1.out.below hb1)
  have HB2 := Lib.hid (Below.step HB1.out hb1)
  clear hb1
  have c0 := HF2.out.cell 0
  have c1 := HF2.out.cell 1
  have c2 := HF2.out.cell 2
  have d0 := HC2.out.cell 0
  have d1 := HC2.out.cell 1
  have d2 := HC2.out.cell 2
  simp only [List.getElem?_toArray, List.getElem?_cons_zero, List.getElem?_cons_succ] at c0 c1 c2 d0 d1 d2
  go_wp2_with fail
  refine (same_any t g r t g r' d HG.out R1.out R2.out _ (HT.out.on HB2.out)).mono ?_
  rintro e w2 ⟨rfl, hb2⟩
  have HB3 := Lib.hid (Below.step HB2.out hb2)
  clear hb2
  go_wp2_with fail
  refine (awake_any _ (HT.out.on HB3.out) (HE.out.on HB3.out)).mono ?_
  rintro e w3 ⟨rfl, hb3⟩
  go_wp2_with fail
  go_ret
  exact ⟨rfl, Below.step HB3.out hb3⟩

end Go.Proofs.YtcfkaginjcgmhaaDoor
