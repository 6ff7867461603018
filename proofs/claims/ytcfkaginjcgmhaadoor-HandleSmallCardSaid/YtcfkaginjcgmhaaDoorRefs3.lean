/- The reference's Within and Show. -/
import Derived.Test.YtcfkaginjcgmhaaDoorRefs2
namespace Go.Proofs.YtcfkaginjcgmhaaDoor
open Go.RowKit
set_option maxRecDepth 100000
set_option maxHeartbeats 4000000

theorem sub1 (r q k : Nat) : ((r : Int) / (k : Int) % 2 ≤ (q : Int) / (k : Int) % 2) ↔ r / k % 2 ≤ q / k % 2 := by omega

theorem rwithin_any (t g : Int) (r : Nat) (t' g' : Int) (r' : Nat) (hr : r < 256) (hr' : r' < 256) (w : World) :
    Calls Tryd.prog 23 #[hv t g r, hv t' g' r'] w fun e w' => e = .returned (.bool (withinZ t g r t' g' r')) ∧ Below w.heap.size w w' := by
  have R1 := Lib.hid hr
  have R2 := Lib.hid hr'
  obtain ⟨x, hx⟩ : ∃ x, rightZ t g r = x := ⟨_, rfl⟩
  obtain ⟨y, hy⟩ : ∃ y, rightZ t' g' r' = y := ⟨_, rfl⟩
  obtain ⟨u, hu⟩ : ∃ u, ((t : Int) != t') = u := ⟨_, rfl⟩
  obtain ⟨v, hv⟩ : ∃ v, ((g : Int) != g') = v := ⟨_, rfl⟩
  obtain ⟨z, hz⟩ : ∃ z, subN r r' = z := ⟨_, rfl⟩
  have HX := Lib.hid hx
  have HY := Lib.hid hy
  have HZ : Hid (withinZ t g r t' g' r' = (x && y && !u && !v && z)) := by show _ = _; unfold withinZ; rw [hx, hy, ← hu, ← hv, hz]; simp [bne]
  have HS := Lib.hid hz
  have HU := Lib.hid hu
  have HV := Lib.hid hv
  clear hx hy hz hu hv
  have HF1 := Lib.hid ((Fresh.new w _ #[.int .i64 t, .int .u32 g, .int .u8 r] 25 rfl).alloc (.cells #[.int .i64 t', .int .u32 g', .int .u8 r'] 25))
  have HG1 := Lib.hid (Fresh.new (w.alloc (.cells #[.int .i64 t, .int .u32 g, .int .u8 r] 25)) (w.heap.size + 1) #[.int .i64 t', .int .u32 g', .int .u8 r'] 25 (by simp))
  have HB0 := Lib.hid (((Below.refl w.heap.size w).alloc (Nat.le_refl _) (.cells #[.int .i64 t, .int .u32 g, .int .u8 r] 25)).alloc (by simp) (.cells #[.int .i64 t', .int .u32 g', .int .u8 r'] 25))
  cases x
  · go_enter Tryd.func23, Tryd.ntmps23
    go_wp2_with fail
    refine (rright_any t g r R1.out _).mono ?_
    rw [HX.out]
    rintro e w1 ⟨rfl, hb1⟩
    have BE := Lib.hid (Below.step HB0.out hb1)
    clear hb1
    go_wp2_with fail
    go_ret
    exact ⟨ret_bool (by rw [HZ.out]; simp), BE.out⟩
  · cases y
    · go_enter Tryd.func23, Tryd.ntmps23
      go_wp2_with fail
      refine (rright_any t g r R1.out _).mono ?_
      rw [HX.out]
      rintro e w1 ⟨rfl, hb1⟩
      have HB1 := Lib.hid (Below.step HB0.out hb1)
      have HF2 := Lib.hid (HF1.out.below hb1)
      have HG2 := Lib.hid (HG1.out.below hb1)
      clear hb1
      have d0 := HG2.out.cell 0
      have d1 := HG2.out.cell 1
      have d2 := HG2.out.cell 2
      simp only [List.getElem?_toArray, List.getElem?_cons_zero, List.getElem?_cons_succ] at d0 d1 d2
      go_wp2_with fail
      refine (rright_any t' g' r' R2.out _).mono ?_
      rw [HY.out]
      rintro e w2 ⟨rfl, hb2⟩
      have BE := Lib.hid (Below.step HB1.out hb2)
      have HF3 := Lib.hid (HF2.out.below hb2)
      have HG3 := Lib.hid (HG2.out.below hb2)
      clear hb2 d0 d1 d2
      have d0 := HG3.out.cell 0
      have d1 := HG3.out.cell 1
      have d2 := HG3.out.cell 2
      have c0 := HF3.out.cell 0
      have c1 := HF3.out.cell 1
      have c2 := HF3.out.cell 2
      simp only [List.getElem?_toArray, List.getElem?_cons_zero, List.getElem?_cons_succ] at d0 d1 d2 c0 c1 c2
      go_wp2_with fail
      go_ret
      exact ⟨ret_bool (by rw [HZ.out]; simp), BE.out⟩
    · have hu := HU.out
      have hv := HV.out
      cases u
      · cases v
        · go_enter Tryd.func23, Tryd.ntmps23
          go_wp2_with fail
          refine (rright_any t g r R1.out _).mono ?_
          rw [HX.out]
          rintro e w1 ⟨rfl, hb1⟩
          have HB1 := Lib.hid (Below.step HB0.out hb1)
          have HF2 := Lib.hid (HF1.out.below hb1)
          have HG2 := Lib.hid (HG1.out.below hb1)
          clear hb1
          have d0 := HG2.out.cell 0
          have d1 := HG2.out.cell 1
          have d2 := HG2.out.cell 2
          simp only [List.getElem?_toArray, List.getElem?_cons_zero, List.getElem?_cons_succ] at d0 d1 d2
          go_wp2_with fail
          refine (rright_any t' g' r' R2.out _).mono ?_
          rw [HY.out]
          rintro e w2 ⟨rfl, hb2⟩
          have BE := Lib.hid (Below.step HB1.out hb2)
          have HF3 := Lib.hid (HF2.out.below hb2)
          have HG3 := Lib.hid (HG2.out.below hb2)
          clear hb2 d0 d1 d2
          have d0 := HG3.out.cell 0
          have d1 := HG3.out.cell 1
          have d2 := HG3.out.cell 2
          have c0 := HF3.out.cell 0
          have c1 := HF3.out.cell 1
          have c2 := HF3.out.cell 2
          simp only [List.getElem?_toArray, List.getElem?_cons_zero, List.getElem?_cons_succ] at d0 d1 d2 c0 c1 c2
          go_wp2_with fail
          go_loopw [5] (fun i wr => ∃ k : Nat, i = .int .i64 k ∧ (∃ n, wr = w2.drewN n) ∧ ((k = 1) ∨ (k = 2 ∧ r % 2 ≤ r' % 2) ∨ (k = 4 ∧ r % 2 ≤ r' % 2 ∧ r / 2 % 2 ≤ r' / 2 % 2) ∨ (k = 8 ∧ r % 2 ≤ r' % 2 ∧ r / 2 % 2 ≤ r' / 2 % 2 ∧ r / 4 % 2 ≤ r' / 4 % 2))) (fun i _ => 8 - (intOf i).toNat)
          case atStart => exact ⟨1, rfl, ⟨0, rfl⟩, .inl rfl⟩
          case round =>
            obtain ⟨k, rfl, ⟨n, rfl⟩, hk⟩ := hrel
            rcases hk with rfl | ⟨rfl, h1⟩ | ⟨rfl, h1, h2⟩ | ⟨rfl, h1, h2, h3⟩
            · by_cases hq : r % 2 ≤ r' % 2
              · have hq2 : decide ((r' : Int) % 2 < (r : Int) % 2) = false := decide_eq_false (by omega)
                have HQ := Lib.hid hq
                clear hq
                go_wp2_with fail
                go_quiet (fail)
                go_wp2_with fail
                exact ⟨⟨2, rfl, ⟨n + nq, by simp⟩, .inr (.inl ⟨rfl, HQ.out⟩)⟩, by simp [intOf]⟩
              · have hq2 : decide ((r' : Int) % 2 < (r : Int) % 2) = true := decide_eq_true (by omega)
                have hs : z = false := by rw [← HS.out]; unfold subN; simp; omega
                subst hs
                clear hq
                go_wp2_with fail
                go_quiet (fail)
                go_wp2_with fail
                go_ret
                exact ⟨ret_bool (by rw [HZ.out]; simp), Below.step BE.out (Below.step (below_drewN _ _) (below_drewN _ _))⟩
            · by_cases hq : r / 2 % 2 ≤ r' / 2 % 2
              · have hq2 : decide ((r' : Int) / 2 % 2 < (r : Int) / 2 % 2) = false := decide_eq_false (by omega)
                have HQ := Lib.hid hq
                clear hq
                go_wp2_with fail
                go_quiet (fail)
                go_wp2_with fail
                exact ⟨⟨4, rfl, ⟨n + nq, by simp⟩, .inr (.inr (.inl ⟨rfl, h1, HQ.out⟩))⟩, by simp [intOf]⟩
              · have hq2 : decide ((r' : Int) / 2 % 2 < (r : Int) / 2 % 2) = true := decide_eq_true (by omega)
                have hs : z = false := by rw [← HS.out]; unfold subN; simp; omega
                subst hs
                clear hq
                go_wp2_with fail
                go_quiet (fail)
                go_wp2_with fail
                go_ret
                exact ⟨ret_bool (by rw [HZ.out]; simp), Below.step BE.out (Below.step (below_drewN _ _) (below_drewN _ _))⟩
            · by_cases hq : r / 4 % 2 ≤ r' / 4 % 2
              · have hq2 : decide ((r' : Int) / 4 % 2 < (r : Int) / 4 % 2) = false := decide_eq_false (by omega)
                have HQ := Lib.hid hq
                clear hq
                go_wp2_with fail
                go_quiet (fail)
                go_wp2_with fail
                exact ⟨⟨8, rfl, ⟨n + nq, by simp⟩, .inr (.inr (.inr ⟨rfl, h1, h2, HQ.out⟩))⟩, by simp [intOf]⟩
              · have hq2 : decide ((r' : Int) / 4 % 2 < (r : Int) / 4 % 2) = true := decide_eq_true (by omega)
                have hs : z = false := by rw [← HS.out]; unfold subN; simp; omega
                subst hs
                clear hq
                go_wp2_with fail
                go_quiet (fail)
                go_wp2_with fail
                go_ret
                exact ⟨ret_bool (by rw [HZ.out]; simp), Below.step BE.out (Below.step (below_drewN _ _) (below_drewN _ _))⟩
            · have hs : z = true := by rw [← HS.out]; unfold subN; simp; omega
              subst hs
              go_wp2_with fail
              go_ret
              exact ⟨ret_bool (by rw [HZ.out]; simp), Below.step BE.out (below_drewN _ _)⟩
        · go_enter Tryd.func23, Tryd.ntmps23
          go_wp2_with fail
          refine (rright_any t g r R1.out _).mono ?_
          rw [HX.out]
          rintro e w1 ⟨rfl, hb1⟩
          have HB1 := Lib.hid (Below.step HB0.out hb1)
          have HF2 := Lib.hid (HF1.out.below hb1)
          have HG2 := Lib.hid (HG1.out.below hb1)
          clear hb1
          have d0 := HG2.out.cell 0
          have d1 := HG2.out.cell 1
          have d2 := HG2.out.cell 2
          simp only [List.getElem?_toArray, List.getElem?_cons_zero, List.getElem?_cons_succ] at d0 d1 d2
          go_wp2_with fail
          refine (rright_any t' g' r' R2.out _).mono ?_
          rw [HY.out]
          rintro e w2 ⟨rfl, hb2⟩
          have BE := Lib.hid (Below.step HB1.out hb2)
          have HF3 := Lib.hid (HF2.out.below hb2)
          have HG3 := Lib.hid (HG2.out.below hb2)
          clear hb2 d0 d1 d2
          have d0 := HG3.out.cell 0
          have d1 := HG3.out.cell 1
          have d2 := HG3.out.cell 2
          have c0 := HF3.out.cell 0
          have c1 := HF3.out.cell 1
          have c2 := HF3.out.cell 2
          simp only [List.getElem?_toArray, List.getElem?_cons_zero, List.getElem?_cons_succ] at d0 d1 d2 c0 c1 c2
          go_wp2_with fail
          go_ret
          exact ⟨ret_bool (by rw [HZ.out]; simp), BE.out⟩
      · go_enter Tryd.func23, Tryd.ntmps23
        go_wp2_with fail
        refine (rright_any t g r R1.out _).mono ?_
        rw [HX.out]
        rintro e w1 ⟨rfl, hb1⟩
        have HB1 := Lib.hid (Below.step HB0.out hb1)
        have HF2 := Lib.hid (HF1.out.below hb1)
        have HG2 := Lib.hid (HG1.out.below hb1)
        clear hb1
        have d0 := HG2.out.cell 0
        have d1 := HG2.out.cell 1
        have d2 := HG2.out.cell 2
        simp only [List.getElem?_toArray, List.getElem?_cons_zero, List.getElem?_cons_succ] at d0 d1 d2
        go_wp2_with fail
        refine (rright_any t' g' r' R2.out _).mono ?_
        rw [HY.out]
        rintro e w2 ⟨rfl, hb2⟩
        have BE := Lib.hid (Below.step HB1.out hb2)
        have HF3 := Lib.hid (HF2.out.below hb2)
        have HG3 := Lib.hid (HG2.out.below hb2)
        clear hb2 d0 d1 d2
        have d0 := HG3.out.cell 0
        have d1 := HG3.out.cell 1
        have d2 := HG3.out.cell 2
        have c0 := HF3.out.cell 0
        have c1 := HF3.out.cell 1
        have c2 := HF3.out.cell 2
        simp only [List.getElem?_toArray, List.getElem?_cons_zero, List.getElem?_cons_succ] at d0 d1 d2 c0 c1 c2
        go_wp2_with fail
        go_ret
        exact ⟨ret_bool (by rw [HZ.out]; simp), BE.out⟩

theorem rshow_yes (t g r : Nat) (h : okN t g r) (w : World) :
    Calls Tryd.prog 19 #[hv t g r] w fun e w' => e = .returned (.tuple #[.string (textB t g r), .int .i64 0]) ∧ Below w.heap.size w w' := by
  have HR : Hid (rightZ t g r = true) := by show _ = _; rw [rightZ_of _ _ _ h.2.2.2.1]; simpa using h
  obtain ⟨h1, h2, h3, h4, h5, h6⟩ := h
  have R8 : Hid (r < 256) := by show _ < _; omega
  have T4 : Hid (t < 4294967296) := by show _ < _; omega
  have G4 : Hid (g < 4294967296) := h4
  have s1 := dec_size t (by omega)
  have s2 := dec_size g (by omega)
  obtain ⟨D1, hD1⟩ : ∃ D : ByteArray, (⟨(Lib.decDigits t).toArray⟩ : ByteArray) = D := ⟨_, rfl⟩
  obtain ⟨D2, hD2⟩ : ∃ D : ByteArray, (⟨(Lib.decDigits g).toArray⟩ : ByteArray) = D := ⟨_, rfl⟩
  rw [hD1] at s1
  rw [hD2] at s2
  have E1 := Lib.hid hD1
  have E2 := Lib.hid hD2
  have p1 : (D1 ++ (⟨#[46]⟩ : ByteArray)).size = D1.size + 1 := append_size _ _
  have p2 : (D1 ++ (⟨#[46]⟩ : ByteArray) ++ D2).size = D1.size + 1 + D2.size := by rw [append_size, p1]
  have p3 : (D1 ++ (⟨#[46]⟩ : ByteArray) ++ D2 ++ (⟨#[46]⟩ : ByteArray)).size = D1.size + 1 + D2.size + 1 := by rw [append_size, p2]; rfl
  have o1 : (⟨#[46]⟩ : ByteArray).size = 1 := rfl
  obtain ⟨P, hP⟩ : ∃ P : ByteArray, D1 ++ (⟨#[46]⟩ : ByteArray) ++ D2 ++ (⟨#[46]⟩ : ByteArray) = P := ⟨_, rfl⟩
  have HE : Hid (∀ k, P ++ partB r k = ⟨(Lib.decDigits t ++ [46] ++ Lib.decDigits g ++ [46] ++ partL r k).toArray⟩) := fun k => bytes_ext (by
    rw [append_list, ← hP, append_list, append_list, append_list, ← hD1, ← hD2]; simp [partB])
  have hPs : P.size ≤ 42 := by rw [← hP, p3]; omega
  have HP := Lib.hid hP
  have HPS := Lib.hid hPs
  clear hD1 hD2 hP hPs
  obtain ⟨W, hW⟩ : ∃ W, W = w.alloc (.cells #[.int .i64 t, .int .u32 g, .int .u8 r] 25) := ⟨_, rfl⟩
  have HW := Lib.hid hW
  have F0 : Fresh W w.heap.size #[.int .i64 t, .int .u32 g, .int .u8 r] 25 := by rw [hW]; exact Fresh.new w _ _ _ rfl
  have HF0 := Lib.hid F0
  have HB0 : Hid (Below w.heap.size w W) := by show Below _ _ _; rw [hW]; exact (Below.refl _ _).alloc (Nat.le_refl _) _
  have c0 := F0.cell 0
  have c1 := F0.cell 1
  have c2 := F0.cell 2
  simp only [List.getElem?_toArray, List.getElem?_cons_zero, List.getElem?_cons_succ] at c0 c1 c2
  clear hW F0
  have hr1 : (r : Int) ≤ 7 := by omega
  go_enter Tryd.func19, Tryd.ntmps19
  go_wp2_with fail
  rw [← HW.out]
  refine (rright_any t g r R8.out _).mono ?_
  rw [HR.out]
  rintro e W1 ⟨rfl, hb1⟩
  have HB1 := Lib.hid (Below.step HB0.out hb1)
  have HF1 := Lib.hid (HF0.out.below hb1)
  clear hb1 c0 c1 c2
  have c0 := HF1.out.cell 0
  have c1 := HF1.out.cell 1
  have c2 := HF1.out.cell 2
  simp only [List.getElem?_toArray, List.getElem?_cons_zero, List.getElem?_cons_succ] at c0 c1 c2
  go_wp2_with fail
  have g0 := fun d os => cell_regrown c0 d os
  have g1 := fun d os => cell_regrown c1 d os
  have g2 := fun d os => cell_regrown c2 d os
  refine wp_region_quiet_below (by kernel_rfl) (by kernel_rfl) ?_
  repeat (any_goals (first | go_big_quiet_step (first
    | (go_at_call_of 30 (Value.int .i64 (t : Int)); exact Calls.regrown_of ((rnumber_any t _ T4.out).mono fun e w' h => ⟨by rw [h.1, E1.out], h.2⟩))
    | (go_at_call_of 30 (Value.int .i64 (g : Int)); exact Calls.regrown_of ((rnumber_any g _ G4.out).mono fun e w' h => ⟨by rw [h.1, E2.out], h.2⟩))) | quiet_step (fail)))
  refine wpQuiet_nil ?_
  intro w5 hw5
  have hb5 : Below W1.heap.size W1 w5 := by obtain ⟨p, rfl⟩ := hw5; exact below_regrown _ _ _
  have HB5 := Lib.hid (Below.step HB1.out hb5)
  have HF5 := Lib.hid (HF1.out.below hb5)
  clear hw5 hb5 c0 c1 c2 g0 g1 g2 p1 p2 p3
  have c2 := HF5.out.cell 2
  simp only [List.getElem?_toArray, List.getElem?_cons_zero, List.getElem?_cons_succ] at c2
  have e0 : (⟨#[114, 119, 115]⟩ : ByteArray).extract 0 1 = one 114 := by decide
  have e1 : (⟨#[114, 119, 115]⟩ : ByteArray).extract 1 2 = one 119 := by decide
  have e2 : (⟨#[114, 119, 115]⟩ : ByteArray).extract 2 3 = one 115 := by decide
  go_wp2_with fail
  rw [HP.out]
  go_loop [4, 6] (fun x i => ∃ k : Nat, k ≤ 3 ∧ i = .int .i64 k ∧ x = .string (P ++ partB r k)) (fun x i => 3 - (intOf i).toNat)
  case atStart => exact ⟨0, by omega, rfl, congrArg Value.string (bytes_ext (by rw [append_list]; simp [partB, partL]))⟩
  case round =>
    obtain ⟨k, hk, rfl, rfl⟩ := hrel
    have hs := part_size r k
    have ps : (P ++ partB r k).size ≤ 45 := by rw [append_size]; have := HPS.out; omega
    clear hs
    rcases (show k = 0 ∨ k = 1 ∨ k = 2 ∨ k = 3 from by omega) with rfl | rfl | rfl | rfl
    · by_cases hb : r % 2 = 1
      · have hq : (((r : Int) % 2 : Int) == 1) = true := by simp; omega
        have HP2 : Hid (P ++ partB r 0 ++ one 114 = P ++ partB r 1) := bytes_ext (by rw [append_list, append_list, append_list]; simp [partB, partL, one, hb])
        have ho : (one 114).size = 1 := rfl
        clear hb
        go_wp2_with fail
        exact ⟨⟨1, by omega, rfl, by rw [HP2.out]⟩, by simp [intOf]⟩
      · have hq : (((r : Int) % 2 : Int) == 1) = false := by simp; omega
        have HP2 : Hid (P ++ partB r 0 = P ++ partB r 1) := bytes_ext (by rw [append_list, append_list]; simp [partB, partL, hb])
        clear hb
        go_wp2_with fail
        exact ⟨⟨1, by omega, rfl, by rw [HP2.out]⟩, by simp [intOf]⟩
    · by_cases hb : r / 2 % 2 = 1
      · have hq : (((r : Int) / 2 % 2 : Int) == 1) = true := by simp; omega
        have HP2 : Hid (P ++ partB r 1 ++ one 119 = P ++ partB r 2) := bytes_ext (by rw [append_list, append_list, append_list]; simp [partB, partL, one, hb])
        have ho : (one 119).size = 1 := rfl
        clear hb
        go_wp2_with fail
        exact ⟨⟨2, by omega, rfl, by rw [HP2.out]⟩, by simp [intOf]⟩
      · have hq : (((r : Int) / 2 % 2 : Int) == 1) = false := by simp; omega
        have HP2 : Hid (P ++ partB r 1 = P ++ partB r 2) := bytes_ext (by rw [append_list, append_list]; simp [partB, partL, hb])
        clear hb
        go_wp2_with fail
        exact ⟨⟨2, by omega, rfl, by rw [HP2.out]⟩, by simp [intOf]⟩
    · by_cases hb : r / 4 % 2 = 1
      · have hq : (((r : Int) / 4 % 2 : Int) == 1) = true := by simp; omega
        have HP2 : Hid (P ++ partB r 2 ++ one 115 = P ++ partB r 3) := bytes_ext (by rw [append_list, append_list, append_list]; simp [partB, partL, one, hb])
        have ho : (one 115).size = 1 := rfl
        clear hb
        go_wp2_with fail
        exact ⟨⟨3, by omega, rfl, by rw [HP2.out]⟩, by simp [intOf]⟩
      · have hq : (((r : Int) / 4 % 2 : Int) == 1) = false := by simp; omega
        have HP2 : Hid (P ++ partB r 2 = P ++ partB r 3) := bytes_ext (by rw [append_list, append_list]; simp [partB, partL, hb])
        clear hb
        go_wp2_with fail
        exact ⟨⟨3, by omega, rfl, by rw [HP2.out]⟩, by simp [intOf]⟩
    · go_wp2_with fail
      go_ret2
      exact ⟨by rw [HE.out, part_all]; rfl, HB5.out⟩

end Go.Proofs.YtcfkaginjcgmhaaDoor
