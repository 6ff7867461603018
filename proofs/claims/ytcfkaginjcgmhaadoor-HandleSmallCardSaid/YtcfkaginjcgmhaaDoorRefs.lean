/- Rights: handle.Allows and Within, and the reference's Right, Asks, Allows, Within. -/
import Derived.Test.YtcfkaginjcgmhaaDoorRead
import Derived.Deep.QuietTactic
namespace Go.Proofs.YtcfkaginjcgmhaaDoor
open Go.RowKit
set_option maxRecDepth 100000
set_option maxHeartbeats 2000000

theorem rright_any (t g : Int) (r : Nat) (hr : r < 256) (w : World) :
    Calls Tryd.prog 21 #[hv t g r] w fun e w' => e = .returned (.bool (rightZ t g r)) ∧ Below w.heap.size w w' := by
  have hr1 : (r : Int) ≤ 255 := by omega
  by_cases h1 : 1 ≤ t <;> by_cases h2 : t ≤ 16 <;> by_cases h3 : 1 ≤ g <;> by_cases h4 : (1 : Int) ≤ r
  all_goals try (exfalso; omega)
  all_goals
    go_enter Tryd.func21, Tryd.ntmps21
    go_wp2
    go_ret
    exact ⟨ret_bool (by simp [rightZ, h1, h2, h3, h4] <;> omega), (Below.refl _ _).alloc (Nat.le_refl _) _⟩

theorem rasks_any (d : Int) (w : World) :
    Calls Tryd.prog 20 #[.int .i64 d] w fun e w' => e = .returned (.int .i64 (asksN d)) ∧ w' = w := by
  rcases (show d = 1 ∨ d = 6 ∨ d = 2 ∨ d = 3 ∨ d = 4 ∨ d = 5 ∨ (d ≠ 1 ∧ d ≠ 6 ∧ d ≠ 2 ∧ d ≠ 3 ∧ d ≠ 4 ∧ d ≠ 5) from by omega) with rfl | rfl | rfl | rfl | rfl | rfl | ⟨n1, n6, n2, n3, n4, n5⟩
  case' inr.inr.inr.inr.inr.inr =>
    have HN : Hid (asksN d = 0) := by show _ = _; unfold asksN; rw [if_neg (by omega), if_neg (by omega), if_neg n5]
    have q1 : ((d : Int) == 1) = false := by simpa using n1
    have q2 : ((d : Int) == 2) = false := by simpa using n2
    have q3 : ((d : Int) == 3) = false := by simpa using n3
    have q4 : ((d : Int) == 4) = false := by simpa using n4
    have q5 : ((d : Int) == 5) = false := by simpa using n5
    have q6 : ((d : Int) == 6) = false := by simpa using n6
    clear n1 n2 n3 n4 n5 n6
    go_enter Tryd.func20, Tryd.ntmps20
    go_wp2
    go_ret
    exact ⟨ret_int (by rw [HN.out]; rfl), rfl⟩
  all_goals
    go_enter Tryd.func20, Tryd.ntmps20
    go_wp2
    go_ret
    exact ⟨rfl, rfl⟩

def allowsZ (t g : Int) (r : Nat) (d : Int) : Bool := rightZ t g r && decide (asksN d ≠ 0) && decide (r / asksN d % 2 = 1)
def subN (r q : Nat) : Bool := decide (r % 2 ≤ q % 2) && decide (r / 2 % 2 ≤ q / 2 % 2) && decide (r / 4 % 2 ≤ q / 4 % 2)
def withinZ (t g : Int) (r : Nat) (t' g' : Int) (r' : Nat) : Bool := rightZ t g r && rightZ t' g' r' && (t == t') && (g == g') && subN r r'

theorem and_k (r : Nat) (hr : r < 256) (k : Nat) (hk : k = 1 ∨ k = 2 ∨ k = 4) : (bits .and .u8 (r : Int) (k : Int) != 0) = decide (r / k % 2 = 1) := by
  have : ∀ r : Fin 256, (bits .and .u8 (r.val : Int) 1 != 0) = decide (r.val / 1 % 2 = 1) ∧ (bits .and .u8 (r.val : Int) 2 != 0) = decide (r.val / 2 % 2 = 1) ∧ (bits .and .u8 (r.val : Int) 4 != 0) = decide (r.val / 4 % 2 = 1) := by decide +kernel
  have h := this ⟨r, hr⟩
  rcases hk with rfl | rfl | rfl
  · exact h.1
  · exact h.2.1
  · exact h.2.2
theorem andnot_sub (r q : Nat) (hr : r < 8) (hq : q < 8) : (bits .andNot .u8 (r : Int) (q : Int) == 0) = subN r q := by
  have : ∀ r q : Fin 8, (bits .andNot .u8 (r.val : Int) (q.val : Int) == 0) = subN r.val q.val := by decide +kernel
  exact this ⟨r, hr⟩ ⟨q, hq⟩
theorem asksN_cases (d : Int) (h : asksN d ≠ 0) : asksN d = 1 ∨ asksN d = 2 ∨ asksN d = 4 := by
  by_cases a : d = 1 ∨ d = 6
  · left; unfold asksN; rw [if_pos a]
  by_cases b : d = 2 ∨ d = 3 ∨ d = 4
  · right; left; unfold asksN; rw [if_neg a, if_pos b]
  by_cases c : d = 5
  · right; right; unfold asksN; rw [if_neg a, if_neg b, if_pos c]
  exact absurd (by unfold asksN; rw [if_neg a, if_neg b, if_neg c]) h
theorem rightZ_lt {t g : Int} {r : Nat} (h : rightZ t g r = true) : r < 8 := by
  unfold rightZ at h; simp only [Bool.and_eq_true, decide_eq_true_eq] at h; omega

theorem allows_any (t g : Int) (r : Nat) (d : Int) (hr : r < 256) (w : World) :
    Calls Tryd.prog 17 #[hv t g r, .int .i64 d] w fun e w' => e = .returned (.bool (allowsZ t g r d)) ∧ Below w.heap.size w w' := by
  obtain ⟨x, hx⟩ : ∃ x, rightZ t g r = x := ⟨_, rfl⟩
  have HX := Lib.hid hx
  by_cases h0 : asksN d = 0
  · have HZ : Hid (allowsZ t g r d = false) := by show _ = _; unfold allowsZ; simp [h0]
    have HA : Hid (asksN d = 0) := h0
    clear h0 hx
    go_enter Tryd.func17, Tryd.ntmps17
    go_wp2_with fail
    refine (asks_any d _).mono ?_
    rw [HA.out]
    rintro e w1 ⟨rfl, hb1⟩
    go_wp2_with fail
    go_ret
    exact ⟨ret_bool (by rw [HZ.out]), Below.step ((Below.refl _ _).alloc (Nat.le_refl _) _) hb1⟩
  · obtain ⟨k, hk⟩ : ∃ k, asksN d = k := ⟨_, rfl⟩
    have hk3 := asksN_cases d h0
    rw [hk] at hk3 h0
    have hb := and_k r hr k hk3
    have HZ : Hid (allowsZ t g r d = (x && decide (r / k % 2 = 1))) := by show _ = _; unfold allowsZ; rw [hx, hk]; simp [h0]
    have HA := Lib.hid hk
    have hd : decide (k ≠ 0) = true := by simpa using h0
    have HD := Lib.hid hd
    obtain ⟨y, hy⟩ : ∃ y, decide (r / k % 2 = 1) = y := ⟨_, rfl⟩
    rw [hy] at hb
    have HY := Lib.hid hy
    clear h0 hx hk hk3 hd hy
    cases x
    all_goals
      go_enter Tryd.func17, Tryd.ntmps17
      go_wp2_with fail
      refine (asks_any d _).mono ?_
      rw [HA.out, HD.out]
      rintro e w1 ⟨rfl, hb1⟩
      have F1 := (Fresh.new w _ #[.int .i64 t, .int .u32 g, .int .u8 r] 25 rfl).below hb1
      have HF1 := Lib.hid F1
      have HB1 := Lib.hid (Below.step ((Below.refl w.heap.size w).alloc (Nat.le_refl _) _) hb1)
      have c0 := F1.cell 0
      have c1 := F1.cell 1
      have c2 := F1.cell 2
      simp only [List.getElem?_toArray, List.getElem?_cons_zero, List.getElem?_cons_succ] at c0 c1 c2
      clear hb1 F1
      go_wp2_with fail
      refine (hright_any t g r _).mono ?_
      rw [HX.out]
      rintro e w2 ⟨rfl, hb2⟩
      have HB2 := Lib.hid (Below.step HB1.out hb2)
      have F2 := HF1.out.below hb2
      clear hb2 c0 c1 c2
      have c2 := F2.cell 2
      simp only [List.getElem?_toArray, List.getElem?_cons_zero, List.getElem?_cons_succ] at c2
      clear F2
      go_wp2_with fail
      go_ret
      exact ⟨ret_bool (by rw [HZ.out, HY.out]; simp), HB2.out⟩

theorem within_any (t g : Int) (r : Nat) (t' g' : Int) (r' : Nat) (w : World) :
    Calls Tryd.prog 16 #[hv t g r, hv t' g' r'] w fun e w' => e = .returned (.bool (withinZ t g r t' g' r')) ∧ Below w.heap.size w w' := by
  obtain ⟨x, hx⟩ : ∃ x, rightZ t g r = x := ⟨_, rfl⟩
  obtain ⟨y, hy⟩ : ∃ y, rightZ t' g' r' = y := ⟨_, rfl⟩
  obtain ⟨u, hu⟩ : ∃ u, ((t : Int) == t') = u := ⟨_, rfl⟩
  obtain ⟨v, hv⟩ : ∃ v, ((g : Int) == g') = v := ⟨_, rfl⟩
  obtain ⟨z, hz⟩ : ∃ z, subN r r' = z := ⟨_, rfl⟩
  have HX := Lib.hid hx
  have HY := Lib.hid hy
  have HZ : Hid (withinZ t g r t' g' r' = (x && y && u && v && z)) := by show _ = _; unfold withinZ; rw [hx, hy, hu, hv, hz]
  have hb : x = true → y = true → (bits .andNot .u8 (r : Int) (r' : Int) == 0) = z := fun h1 h2 => by
    rw [andnot_sub r r' (rightZ_lt (hx.trans h1)) (rightZ_lt (hy.trans h2)), hz]
  have HB := Lib.hid hb
  have HU := Lib.hid hu
  have HV := Lib.hid hv
  clear hx hy hz hb hu hv
  have HF1 := Lib.hid ((Fresh.new w _ #[.int .i64 t, .int .u32 g, .int .u8 r] 25 rfl).alloc (.cells #[.int .i64 t', .int .u32 g', .int .u8 r'] 25))
  have HG1 := Lib.hid (Fresh.new (w.alloc (.cells #[.int .i64 t, .int .u32 g, .int .u8 r] 25)) (w.heap.size + 1) #[.int .i64 t', .int .u32 g', .int .u8 r'] 25 (by simp))
  have HB0 := Lib.hid (((Below.refl w.heap.size w).alloc (Nat.le_refl _) (.cells #[.int .i64 t, .int .u32 g, .int .u8 r] 25)).alloc (by simp) (.cells #[.int .i64 t', .int .u32 g', .int .u8 r'] 25))
  cases x
  · go_enter Tryd.func16, Tryd.ntmps16
    go_wp2_with fail
    refine (hright_any t g r _).mono ?_
    rw [HX.out]
    rintro e w1 ⟨rfl, hb1⟩
    have BE := Lib.hid (Below.step HB0.out hb1)
    clear hb1
    go_wp2_with fail
    go_ret
    exact ⟨ret_bool (by rw [HZ.out]; simp), BE.out⟩
  · cases y
    · go_enter Tryd.func16, Tryd.ntmps16
      go_wp2_with fail
      refine (hright_any t g r _).mono ?_
      rw [HX.out]
      rintro e w1 ⟨rfl, hb1⟩
      have HB1 := Lib.hid (Below.step HB0.out hb1)
      have HF2 := Lib.hid (HF1.out.below hb1)
      have HG2 := Lib.hid (HG1.out.below hb1)
      clear hb1
      have d0 := HG2.out.cell 0
      have d1 := HG2.out.cell 1
      have d2 := HG2.out.cell 2
      simp only [List.getElem?_toArray, List.getElem?_cons_zero, List.getElem?_cons_succ] at d0 d1 d2
      go_wp2_with fail
      refine (hright_any t' g' r' _).mono ?_
      rw [HY.out]
      rintro e w2 ⟨rfl, hb2⟩
      have BE := Lib.hid (Below.step HB1.out hb2)
      have HF3 := Lib.hid (HF2.out.below hb2)
      have HG3 := Lib.hid (HG2.out.below hb2)
      clear hb2 d0 d1 d2
      have d0 := HG3.out.cell 0
      have d1 := HG3.out.cell 1
      have d2 := HG3.out.cell 2
      have c0 := HF3.out.cell 0
      have c1 := HF3.out.cell 1
      have c2 := HF3.out.cell 2
      simp only [List.getElem?_toArray, List.getElem?_cons_zero, List.getElem?_cons_succ] at d0 d1 d2 c0 c1 c2
      go_wp2_with fail
      go_ret
      exact ⟨ret_bool (by rw [HZ.out]; simp), BE.out⟩
    · have hbt := HB.out rfl rfl
      have hu := HU.out
      have hv := HV.out
      cases u
      · go_enter Tryd.func16, Tryd.ntmps16
        go_wp2_with fail
        refine (hright_any t g r _).mono ?_
        rw [HX.out]
        rintro e w1 ⟨rfl, hb1⟩
        have HB1 := Lib.hid (Below.step HB0.out hb1)
        have HF2 := Lib.hid (HF1.out.below hb1)
        have HG2 := Lib.hid (HG1.out.below hb1)
        clear hb1
        have d0 := HG2.out.cell 0
        have d1 := HG2.out.cell 1
        have d2 := HG2.out.cell 2
        simp only [List.getElem?_toArray, List.getElem?_cons_zero, List.getElem?_cons_succ] at d0 d1 d2
        go_wp2_with fail
        refine (hright_any t' g' r' _).mono ?_
        rw [HY.out]
        rintro e w2 ⟨rfl, hb2⟩
        have BE := Lib.hid (Below.step HB1.out hb2)
        have HF3 := Lib.hid (HF2.out.below hb2)
        have HG3 := Lib.hid (HG2.out.below hb2)
        clear hb2 d0 d1 d2
        have d0 := HG3.out.cell 0
        have d1 := HG3.out.cell 1
        have d2 := HG3.out.cell 2
        have c0 := HF3.out.cell 0
        have c1 := HF3.out.cell 1
        have c2 := HF3.out.cell 2
        simp only [List.getElem?_toArray, List.getElem?_cons_zero, List.getElem?_cons_succ] at d0 d1 d2 c0 c1 c2
        go_wp2_with fail
        go_ret
        exact ⟨ret_bool (by rw [HZ.out]; simp), BE.out⟩
      · cases v
        · go_enter Tryd.func16, Tryd.ntmps16
          go_wp2_with fail
          refine (hright_any t g r _).mono ?_
          rw [HX.out]
          rintro e w1 ⟨rfl, hb1⟩
          have HB1 := Lib.hid (Below.step HB0.out hb1)
          have HF2 := Lib.hid (HF1.out.below hb1)
          have HG2 := Lib.hid (HG1.out.below hb1)
          clear hb1
          have d0 := HG2.out.cell 0
          have d1 := HG2.out.cell 1
          have d2 := HG2.out.cell 2
          simp only [List.getElem?_toArray, List.getElem?_cons_zero, List.getElem?_cons_succ] at d0 d1 d2
          go_wp2_with fail
          refine (hright_any t' g' r' _).mono ?_
          rw [HY.out]
          rintro e w2 ⟨rfl, hb2⟩
          have BE := Lib.hid (Below.step HB1.out hb2)
          have HF3 := Lib.hid (HF2.out.below hb2)
          have HG3 := Lib.hid (HG2.out.below hb2)
          clear hb2 d0 d1 d2
          have d0 := HG3.out.cell 0
          have d1 := HG3.out.cell 1
          have d2 := HG3.out.cell 2
          have c0 := HF3.out.cell 0
          have c1 := HF3.out.cell 1
          have c2 := HF3.out.cell 2
          simp only [List.getElem?_toArray, List.getElem?_cons_zero, List.getElem?_cons_succ] at d0 d1 d2 c0 c1 c2
          go_wp2_with fail
          go_ret
          exact ⟨ret_bool (by rw [HZ.out]; simp), BE.out⟩
        · go_enter Tryd.func16, Tryd.ntmps16
          go_wp2_with fail
          refine (hright_any t g r _).mono ?_
          rw [HX.out]
          rintro e w1 ⟨rfl, hb1⟩
          have HB1 := Lib.hid (Below.step HB0.out hb1)
          have HF2 := Lib.hid (HF1.out.below hb1)
          have HG2 := Lib.hid (HG1.out.below hb1)
          clear hb1
          have d0 := HG2.out.cell 0
          have d1 := HG2.out.cell 1
          have d2 := HG2.out.cell 2
          simp only [List.getElem?_toArray, List.getElem?_cons_zero, List.getElem?_cons_succ] at d0 d1 d2
          go_wp2_with fail
          refine (hright_any t' g' r' _).mono ?_
          rw [HY.out]
          rintro e w2 ⟨rfl, hb2⟩
          have BE := Lib.hid (Below.step HB1.out hb2)
          have HF3 := Lib.hid (HF2.out.below hb2)
          have HG3 := Lib.hid (HG2.out.below hb2)
          clear hb2 d0 d1 d2
          have d0 := HG3.out.cell 0
          have d1 := HG3.out.cell 1
          have d2 := HG3.out.cell 2
          have c0 := HF3.out.cell 0
          have c1 := HF3.out.cell 1
          have c2 := HF3.out.cell 2
          simp only [List.getElem?_toArray, List.getElem?_cons_zero, List.getElem?_cons_succ] at d0 d1 d2 c0 c1 c2
          go_wp2_with fail
          go_ret
          exact ⟨ret_bool (by rw [HZ.out]; simp), BE.out⟩

end Go.Proofs.YtcfkaginjcgmhaaDoor
