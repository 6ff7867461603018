/- The walk of HandleGrants. -/
import Derived.Test.YtcfkaginjcgmhaaDoorAwake
namespace Go.Proofs.YtcfkaginjcgmhaaDoor
open Go.RowKit
set_option maxRecDepth 100000
set_option maxHeartbeats 40000000

theorem subN_refl (r : Nat) : subN r r = true := by unfold subN; simp
theorem within_refl (t g : Int) (r : Nat) : withinZ t g r t g r = rightZ t g r := by unfold withinZ; rw [subN_refl]; simp
theorem subN_iff (r q : Nat) : subN r q = true ↔ r % 2 ≤ q % 2 ∧ r / 2 % 2 ≤ q / 2 % 2 ∧ r / 4 % 2 ≤ q / 4 % 2 := by unfold subN; simp [and_assoc]
theorem within_iff (t g : Int) (r : Nat) (t' g' : Int) (r' : Nat) : withinZ t g r t' g' r' = true ↔ rightZ t g r = true ∧ rightZ t' g' r' = true ∧ t = t' ∧ g = g' ∧ subN r r' = true := by
  unfold withinZ; simp [and_assoc]
theorem allows_iff (t g : Int) (r : Nat) (d : Int) : allowsZ t g r d = true ↔ rightZ t g r = true ∧ asksN d ≠ 0 ∧ r / asksN d % 2 = 1 := by
  unfold allowsZ; simp [and_assoc]
theorem within_allows {t g : Int} {r : Nat} {t' g' : Int} {r' : Nat} {d : Int} (h : withinZ t g r t' g' r' = true) (k : allowsZ t g r d = true) : allowsZ t' g' r' d = true := by
  rw [within_iff] at h
  rw [allows_iff] at k ⊢
  obtain ⟨_, h2, _, _, h5⟩ := h
  obtain ⟨_, k2, k3⟩ := k
  rw [subN_iff] at h5
  refine ⟨h2, k2, ?_⟩
  rcases asksN_cases d k2 with e | e | e <;> rw [e] at k3 ⊢ <;> omega
theorem within_anti {t g : Int} {r : Nat} {t' g' : Int} {r' : Nat} (h : withinZ t g r t' g' r' = true) (k : withinZ t' g' r' t g r = true) : t = t' ∧ g = g' ∧ r = r' := by
  rw [within_iff] at h k
  obtain ⟨h1, h2, h3, h4, h5⟩ := h
  obtain ⟨_, _, _, _, k5⟩ := k
  rw [subN_iff] at h5 k5
  have a := rightZ_lt h1
  have b := rightZ_lt h2
  exact ⟨h3, h4, by omega⟩
theorem within_trans {t g : Int} {r : Nat} {t' g' : Int} {r' : Nat} {t2 g2 : Int} {r2 : Nat} (h : withinZ t g r t' g' r' = true) (k : withinZ t' g' r' t2 g2 r2 = true) : withinZ t g r t2 g2 r2 = true := by
  rw [within_iff] at h k ⊢
  obtain ⟨h1, h2, h3, h4, h5⟩ := h
  obtain ⟨_, k2, k3, k4, k5⟩ := k
  rw [subN_iff] at h5 k5 ⊢
  exact ⟨h1, k2, h3.trans k3, h4.trans k4, by omega, by omega, by omega⟩

theorem and_pos (r : Nat) (hr : r < 256) (k : Nat) (hk : k = 1 ∨ k = 2 ∨ k = 4) : decide (0 < bits .and .u8 (r : Int) (k : Int)) = decide (r / k % 2 = 1) := by
  have : ∀ r : Fin 256, decide (0 < bits .and .u8 (r.val : Int) 1) = decide (r.val / 1 % 2 = 1) ∧ decide (0 < bits .and .u8 (r.val : Int) 2) = decide (r.val / 2 % 2 = 1) ∧ decide (0 < bits .and .u8 (r.val : Int) 4) = decide (r.val / 4 % 2 = 1) := by decide +kernel
  have h := this ⟨r, hr⟩
  rcases hk with rfl | rfl | rfl
  · exact h.1
  · exact h.2.1
  · exact h.2.2

theorem handleGrants_walk (t g : Int) (r : Nat) (t' g' : Int) (r' : Nat) (t2 g2 : Int) (r2 : Nat) (d : Int) (w : World) (hr : r < 256) (hr' : r' < 256) (hr2 : r2 < 256) (hw : Tab w ∧ Errs w) :
    Calls Tryd.prog 7 #[hv t g r, hv t' g' r', hv t2 g2 r2, .int .i64 d] w fun e w' => e = .returned (.bool true) ∧ Below w.heap.size w w' := by
  have HT := Lib.hid hw.1
  have HE := Lib.hid hw.2
  have R1 := Lib.hid hr
  have R2 := Lib.hid hr'
  have R3 := Lib.hid hr2
  have HF1 := Lib.hid (((Fresh.new w _ #[.int .i64 t, .int .u32 g, .int .u8 r] 25 rfl).alloc (.cells #[.int .i64 t', .int .u32 g', .int .u8 r'] 25)).alloc (.cells #[.int .i64 t2, .int .u32 g2, .int .u8 r2] 25))
  have HG1 := Lib.hid ((Fresh.new (w.alloc (.cells #[.int .i64 t, .int .u32 g, .int .u8 r] 25)) (w.heap.size + 1) #[.int .i64 t', .int .u32 g', .int .u8 r'] 25 (by simp)).alloc (.cells #[.int .i64 t2, .int .u32 g2, .int .u8 r2] 25))
  have HK1 := Lib.hid (Fresh.new ((w.alloc (.cells #[.int .i64 t, .int .u32 g, .int .u8 r] 25)).alloc (.cells #[.int .i64 t', .int .u32 g', .int .u8 r'] 25)) (w.heap.size + 1 + 1) #[.int .i64 t2, .int .u32 g2, .int .u8 r2] 25 (by simp))
  have HB0 := Lib.hid ((((Below.refl w.heap.size w).alloc (Nat.le_refl _) (.cells #[.int .i64 t, .int .u32 g, .int .u8 r] 25)).alloc (by simp) (.cells #[.int .i64 t', .int .u32 g', .int .u8 r'] 25)).alloc (by simp; omega) (.cells #[.int .i64 t2, .int .u32 g2, .int .u8 r2] 25))
  obtain ⟨u1, h1⟩ : ∃ u, withinZ t g r t' g' r' = u := ⟨_, rfl⟩
  obtain ⟨u2, h2⟩ : ∃ u, allowsZ t g r d = u := ⟨_, rfl⟩
  obtain ⟨u3, h3⟩ : ∃ u, allowsZ t' g' r' d = u := ⟨_, rfl⟩
  obtain ⟨u4, h4⟩ : ∃ u, rightZ t g r = u := ⟨_, rfl⟩
  obtain ⟨u5, h5⟩ : ∃ u, withinZ t' g' r' t g r = u := ⟨_, rfl⟩
  obtain ⟨u6, h6⟩ : ∃ u, withinZ t' g' r' t2 g2 r2 = u := ⟨_, rfl⟩
  obtain ⟨u7, h7⟩ : ∃ u, withinZ t g r t2 g2 r2 = u := ⟨_, rfl⟩
  have c1 : u1 = true → u2 = true → u3 = true := fun a b => by rw [← h3]; exact within_allows (h1.trans a) (h2.trans b)
  have c2 : u1 = true → u5 = true → t = t' ∧ g = g' ∧ r = r' := fun a b => within_anti (h1.trans a) (h5.trans b)
  have c3 : u1 = true → u6 = true → u7 = true := fun a b => by rw [← h7]; exact within_trans (h1.trans a) (h6.trans b)
  have H1 := Lib.hid h1
  have H2 := Lib.hid h2
  have H3 := Lib.hid h3
  have H4 := Lib.hid h4
  have H45 : Hid (withinZ t g r t g r = u4) := by show _ = _; rw [within_refl, h4]
  have H5 := Lib.hid h5
  have H6 := Lib.hid h6
  have H7 := Lib.hid h7
  have C1 := Lib.hid c1
  have C2 := Lib.hid c2
  have C3 := Lib.hid c3
  obtain ⟨n, hn⟩ : ∃ n, asksN d = n := ⟨_, rfl⟩
  obtain ⟨q, hq⟩ : ∃ q, decide (asksN d ≠ 0) = q := ⟨_, rfl⟩
  obtain ⟨y, hy⟩ : ∃ y, decide (r / asksN d % 2 = 1) = y := ⟨_, rfl⟩
  have HN := Lib.hid hn
  have HQ : Hid (decide (n ≠ 0) = q) := by show _ = _; rw [← hn]; exact hq
  have HC : Hid (u2 = (u4 && q && y)) := by
    show _ = _
    rw [← h2, ← h4, ← hq, ← hy]
    unfold allowsZ
    simp
  have HY : Hid (q = true → decide (0 < bits .and .u8 (r : Int) (n : Int)) = y) := fun e => by
    rw [← hy, hn]
    refine and_pos r hr n ?_
    rw [← hn]
    exact asksN_cases d (by rw [← hq] at e; exact of_decide_eq_true e)
  clear hn hq hy
  clear hr hr' hr2 hw h1 h2 h3 h4 h5 h6 h7 c1 c2 c3
  go_enter Tryd.func7, Tryd.ntmps7
  go_wp2_with fail
  refine (awake_any _ (HT.out.on HB0.out) (HE.out.on HB0.out)).mono ?_
  rintro e w1 ⟨rfl, hb1⟩
  have HB1 := Lib.hid (Below.step HB0.out hb1)
  have HF2 := Lib.hid (HF1.out.below hb1)
  have HG2 := Lib.hid (HG1.out.below hb1)
  have HK2 := Lib.hid (HK1.out.below hb1)
  clear hb1
  have a0 := HF2.out.cell 0
  have a1 := HF2.out.cell 1
  have a2 := HF2.out.cell 2
  have b0 := HG2.out.cell 0
  have b1 := HG2.out.cell 1
  have b2 := HG2.out.cell 2
  have e0 := HK2.out.cell 0
  have e1 := HK2.out.cell 1
  have e2 := HK2.out.cell 2
  simp only [List.getElem?_toArray, List.getElem?_cons_zero, List.getElem?_cons_succ] at a0 a1 a2 b0 b1 b2 e0 e1 e2
  go_wp2_with fail
  have k0 := fun d os => cell_regrown a0 d os
  have k1 := fun d os => cell_regrown a1 d os
  have k2 := fun d os => cell_regrown a2 d os
  have k3 := fun d os => cell_regrown b0 d os
  have k4 := fun d os => cell_regrown b1 d os
  have k5 := fun d os => cell_regrown b2 d os
  have k6 := fun d os => cell_regrown e0 d os
  have k7 := fun d os => cell_regrown e1 d os
  have k8 := fun d os => cell_regrown e2 d os
  have harms : (u1 = false) ∨ (u1 = true ∧ u4 = true ∧ (u2 = true → u3 = true) ∧ (u6 = true → u7 = true)) := by
    cases hu : u1
    · exact .inl rfl
    · exact .inr ⟨rfl, by rw [← H45.out, within_refl]; exact ((within_iff _ _ _ _ _ _).1 (H1.out.trans hu)).1, fun h => C1.out hu h, fun h => C3.out hu h⟩
  rcases harms with rfl | ⟨rfl, rfl, v1, v2⟩
  · cases u4 <;> cases u2
    all_goals
      have q1 := H1.out
      have q2 := H2.out
      have q3 := H3.out
      have q4 := H4.out
      have q45 := H45.out
      have q5 := H5.out
      have q6 := H6.out
      have q7 := H7.out
      refine wp_region_quiet_below (by kernel_rfl) (by kernel_rfl) ?_
      repeat (any_goals (first | go_big_quiet_step (first
        | (go_at_call 14; exact Calls.regrown_of (hright_any _ _ _ _))
        | (go_at_call 17; exact Calls.regrown_of (allows_any _ _ _ _ (by first | exact R1.out | exact R2.out) _))
        | (go_at_call 16; exact Calls.regrown_of (within_any _ _ _ _ _ _ _))) | quiet_step (fail)))
      refine wpQuiet_nil ?_
      intro w5 hw5
      have HB5 : Hid (Below w.heap.size w w5) := by
        have hb5 : Below w1.heap.size w1 w5 := by obtain ⟨p, rfl⟩ := hw5; exact below_regrown _ _ _
        exact Below.step HB1.out hb5
      have HF5 : Hid (Fresh w5 w.heap.size #[.int .i64 t, .int .u32 g, .int .u8 r] 25) := by
        obtain ⟨p, rfl⟩ := hw5; exact HF2.out.below (below_regrown _ _ _)
      clear hw5 q1 q2 q3 q4 q45 q5 q6 q7 k0 k1 k2 k3 k4 k5 k6 k7 k8 a0 a1 a2 b0 b1 b2 e0 e1 e2
      go_wp2_with fail
      refine (asks_any d _).mono ?_
      rw [HN.out, HQ.out]
      rintro e w6 ⟨rfl, hb6⟩
      have HB6 := Lib.hid (Below.step HB5.out hb6)
      have HF6 := Lib.hid (HF5.out.below hb6)
      clear hb6
      have a0 := HF6.out.cell 0
      have a1 := HF6.out.cell 1
      have a2 := HF6.out.cell 2
      simp only [List.getElem?_toArray, List.getElem?_cons_zero, List.getElem?_cons_succ] at a0 a1 a2
      cases q
      · try (exfalso; have hc := HC.out; simp at hc; done)
        all_goals
          go_wp2_with fail
          refine (allows_any t g r d R1.out _).mono ?_
          rw [H2.out]
          rintro e w7 ⟨rfl, hb7⟩
          have HB7 := Lib.hid (Below.step HB6.out hb7)
          clear hb7
          go_wp2_with fail
          go_ret
          exact ⟨rfl, HB7.out⟩
      · cases y
        all_goals try (exfalso; have hc := HC.out; simp at hc; done)
        all_goals
          have hy := HY.out rfl
          go_wp2_with fail
          refine (allows_any t g r d R1.out _).mono ?_
          rw [H2.out]
          rintro e w7 ⟨rfl, hb7⟩
          have HB7 := Lib.hid (Below.step HB6.out hb7)
          have HF7 := Lib.hid (HF6.out.below hb7)
          clear hb7 a0 a1 a2
          have a0 := HF7.out.cell 0
          have a1 := HF7.out.cell 1
          have a2 := HF7.out.cell 2
          simp only [List.getElem?_toArray, List.getElem?_cons_zero, List.getElem?_cons_succ] at a0 a1 a2
          go_wp2_with fail
          refine (hright_any t g r _).mono ?_
          rw [H4.out]
          rintro e w8 ⟨rfl, hb8⟩
          have HB8 := Lib.hid (Below.step HB7.out hb8)
          have HF8 := Lib.hid (HF7.out.below hb8)
          clear hb8 a0 a1 a2
          have a2 := HF8.out.cell 2
          simp only [List.getElem?_toArray, List.getElem?_cons_zero, List.getElem?_cons_succ] at a2
          go_wp2_with fail
          go_ret
          exact ⟨rfl, HB8.out⟩
  · have v3 : u5 = true → t = t' ∧ g = g' ∧ r = r' := fun e => C2.out rfl e
    cases u2 <;> cases u5 <;> cases u6
    all_goals
      try (exfalso; have hc := HC.out; simp at hc; done)
    all_goals
      first | (obtain rfl := v1 rfl) | skip
      first | (obtain rfl := v2 rfl) | skip
      first | (obtain ⟨rfl, rfl, rfl⟩ := v3 rfl) | skip
      clear v1 v2 v3
      have q1 := H1.out
      have q2 := H2.out
      have q3 := H3.out
      have q4 := H4.out
      have q45 := H45.out
      have q5 := H5.out
      have q6 := H6.out
      have q7 := H7.out
      refine wp_region_quiet_below (by kernel_rfl) (by kernel_rfl) ?_
      repeat (any_goals (first | go_big_quiet_step (first
        | (go_at_call 14; exact Calls.regrown_of (hright_any _ _ _ _))
        | (go_at_call 17; exact Calls.regrown_of (allows_any _ _ _ _ (by first | exact R1.out | exact R2.out) _))
        | (go_at_call 16; exact Calls.regrown_of (within_any _ _ _ _ _ _ _))) | quiet_step (fail)))
      refine wpQuiet_nil ?_
      intro w5 hw5
      have HB5 : Hid (Below w.heap.size w w5) := by
        have hb5 : Below w1.heap.size w1 w5 := by obtain ⟨p, rfl⟩ := hw5; exact below_regrown _ _ _
        exact Below.step HB1.out hb5
      have HF5 : Hid (Fresh w5 w.heap.size #[.int .i64 t, .int .u32 g, .int .u8 r] 25) := by
        obtain ⟨p, rfl⟩ := hw5; exact HF2.out.below (below_regrown _ _ _)
      clear hw5 q1 q2 q3 q4 q45 q5 q6 q7 k0 k1 k2 k3 k4 k5 k6 k7 k8 a0 a1 a2 b0 b1 b2 e0 e1 e2
      go_wp2_with fail
      refine (asks_any d _).mono ?_
      rw [HN.out, HQ.out]
      rintro e w6 ⟨rfl, hb6⟩
      have HB6 := Lib.hid (Below.step HB5.out hb6)
      have HF6 := Lib.hid (HF5.out.below hb6)
      clear hb6
      have a0 := HF6.out.cell 0
      have a1 := HF6.out.cell 1
      have a2 := HF6.out.cell 2
      simp only [List.getElem?_toArray, List.getElem?_cons_zero, List.getElem?_cons_succ] at a0 a1 a2
      cases q
      · try (exfalso; have hc := HC.out; simp at hc; done)
        all_goals
          go_wp2_with fail
          refine (allows_any t g r d R1.out _).mono ?_
          rw [H2.out]
          rintro e w7 ⟨rfl, hb7⟩
          have HB7 := Lib.hid (Below.step HB6.out hb7)
          clear hb7
          go_wp2_with fail
          go_ret
          exact ⟨rfl, HB7.out⟩
      · cases y
        all_goals try (exfalso; have hc := HC.out; simp at hc; done)
        all_goals
          have hy := HY.out rfl
          go_wp2_with fail
          refine (allows_any t g r d R1.out _).mono ?_
          rw [H2.out]
          rintro e w7 ⟨rfl, hb7⟩
          have HB7 := Lib.hid (Below.step HB6.out hb7)
          have HF7 := Lib.hid (HF6.out.below hb7)
          clear hb7 a0 a1 a2
          have a0 := HF7.out.cell 0
          have a1 := HF7.out.cell 1
          have a2 := HF7.out.cell 2
          simp only [List.getElem?_toArray, List.getElem?_cons_zero, List.getElem?_cons_succ] at a0 a1 a2
          go_wp2_with fail
          refine (hright_any t g r _).mono ?_
          rw [H4.out]
          rintro e w8 ⟨rfl, hb8⟩
          have HB8 := Lib.hid (Below.step HB7.out hb8)
          have HF8 := Lib.hid (HF7.out.below hb8)
          clear hb8 a0 a1 a2
          have a2 := HF8.out.cell 2
          simp only [List.getElem?_toArray, List.getElem?_cons_zero, List.getElem?_cons_succ] at a2
          go_wp2_with fail
          go_ret
          exact ⟨rfl, HB8.out⟩

end Go.Proofs.YtcfkaginjcgmhaaDoor
