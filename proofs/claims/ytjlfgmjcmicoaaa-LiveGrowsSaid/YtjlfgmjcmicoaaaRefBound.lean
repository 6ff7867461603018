/- The reference's Bound, and small. -/
import Derived.Test.YtjlfgmjcmicoaaaRefWay
namespace Go.Proofs.Ytjlfgmjcmicoaaa
open Go.RowKit
set_option maxRecDepth 100000

theorem rsmall_any (n : Int) (w : World) : Calls Try.prog 22 #[.int .i64 n] w fun e w' => e = .returned (.bool (decide (0 ≤ n ∧ n ≤ 1099511627776))) ∧ w' = w := by
  rcases (show n < 0 ∨ (0 ≤ n ∧ n ≤ 1099511627776) ∨ (0 ≤ n ∧ 1099511627776 < n) from by omega) with h | ⟨h, h'⟩ | ⟨h, h'⟩
  · have HR : Hid (decide (0 ≤ n ∧ n ≤ 1099511627776) = false) := by show _ = _; rw [decide_eq_false_iff_not]; omega
    go_enter Try.func22, Try.ntmps22
    go_wp2_with fail
    go_ret
    exact ⟨ret_bool (by first | (rw [HR.out]; done) | (rw [HR.out]; simp; omega) | (simp; omega)), rfl⟩
  · have HR : Hid (decide (0 ≤ n ∧ n ≤ 1099511627776) = true) := by show _ = _; rw [decide_eq_true_iff]; omega
    go_enter Try.func22, Try.ntmps22
    go_wp2_with fail
    go_ret
    exact ⟨ret_bool (by first | (rw [HR.out]; done) | (rw [HR.out]; simp; omega) | (simp; omega)), rfl⟩
  · have HR : Hid (decide (0 ≤ n ∧ n ≤ 1099511627776) = false) := by show _ = _; rw [decide_eq_false_iff_not]; omega
    go_enter Try.func22, Try.ntmps22
    go_wp2_with fail
    go_ret
    exact ⟨ret_bool (by first | (rw [HR.out]; done) | (rw [HR.out]; simp; omega) | (simp; omega)), rfl⟩

set_option maxHeartbeats 4000000 in
theorem rbound_any (r : Req) (t : Int) (w : World) (h : r.Ok) : Calls Try.prog 11 #[reqV r, .int .i64 t] w fun e w' => e = .returned (.int .i64 (boundZ r t)) ∧ Below w.heap.size w w' := by
  have HO := Lib.hid h
  have HZ : Hid (boundZ r t = if isB r = true ∧ 0 ≤ t ∧ t ≤ 1099511627776 then (if r.d = 5 then (36 * r.lim + t) * (wayN r : Int) + 2 else (t + 1) * (wayN r : Int) + 1) else 0) := rfl
  obtain ⟨b, hb⟩ : ∃ b, isB r = b := ⟨_, rfl⟩
  have HB := Lib.hid hb
  have HL := Lib.hid (fun hb => ((isB_of r).1 hb))
  clear h hb
  cases b with
  | false =>
    go_enter Try.func11, Try.ntmps11
    go_wp2_with fail
    refine (ris_any r _ HO.out).mono ?_
    rw [HB.out]
    rintro e w1 ⟨rfl, hb1⟩
    go_wp2_with fail
    go_ret
    exact ⟨ret_int (by rw [HZ.out, HB.out]; rfl), Below.step ((Below.refl _ _).alloc (Nat.le_refl _) _) hb1⟩
  | true =>
    by_cases hT : 0 ≤ t ∧ t ≤ 1099511627776
    · obtain ⟨t0, t1⟩ := hT
      have hall := HL.out HB.out
      obtain ⟨n, hn⟩ : ∃ n, wayN r = n := ⟨_, rfl⟩
      have hn1 := (wayN_le r).1
      rw [hn] at hn1
      have HN := Lib.hid hn
      clear hn
      by_cases h5 : r.d = 5
      · have hl := hall.2.1 h5
        have HQ : Hid (boundZ r t = 36 * r.lim * (n : Int) + t * (n : Int) + 2) := by show _ = _; rw [HZ.out, if_pos ⟨HB.out, t0, t1⟩, if_pos h5, HN.out, Int.add_mul]
        have q5 : (r.d == 5) = true := by simp [h5]
        obtain ⟨l0, l1⟩ := hl
        have m1 := mul_range (a := 36 * r.lim) (b := (n : Int)) (A := 147456) (B := 145) (by omega) (by omega) (by omega) (by omega)
        have m2 := mul_range (a := t) (b := (n : Int)) (A := 1099511627776) (B := 145) (by omega) (by omega) (by omega) (by omega)
        have w1 : IntKind.i64.wrap (36 * r.lim) = 36 * r.lim := IntWalk.i64_in _ (by omega)
        have w2 : IntKind.i64.wrap (36 * r.lim * (n : Int)) = 36 * r.lim * (n : Int) := IntWalk.i64_in _ (by omega)
        have w3 : IntKind.i64.wrap (t * (n : Int)) = t * (n : Int) := IntWalk.i64_in _ (by omega)
        have w4 : IntKind.i64.wrap (36 * r.lim * (n : Int) + t * (n : Int)) = 36 * r.lim * (n : Int) + t * (n : Int) := IntWalk.i64_in _ (by omega)
        have w5 : IntKind.i64.wrap (36 * r.lim * (n : Int) + t * (n : Int) + 2) = 36 * r.lim * (n : Int) + t * (n : Int) + 2 := IntWalk.i64_in _ (by omega)
        have HW := Lib.hid (And.intro w1 (And.intro w2 (And.intro w3 (And.intro w4 w5))))
        clear h5 hall w1 w2 w3 w4 w5 m1 m2
        go_enter Try.func11, Try.ntmps11
        go_wp2_with fail
        refine (ris_any r _ HO.out).mono ?_
        rw [HB.out]
        rintro e W ⟨rfl, hb1⟩
        have F2 := (fresh_req w r _ rfl).below hb1
        have hB2 : Below w.heap.size w W := Below.step ((Below.refl _ _).alloc (Nat.le_refl _) _) hb1
        clear hb1
        obtain ⟨c0, c1, c2, c3, c4, c5, c6, c7, c8, c9, c10, c11⟩ := req_cells F2
        have HB2 := Lib.hid hB2
        clear F2 hB2
        go_wp2_with fail
        have g0 := fun d os => cell_regrown c0 d os
        have g1 := fun d os => cell_regrown c1 d os
        have g2 := fun d os => cell_regrown c2 d os
        have g3 := fun d os => cell_regrown c3 d os
        have g4 := fun d os => cell_regrown c4 d os
        have g5 := fun d os => cell_regrown c5 d os
        have g6 := fun d os => cell_regrown c6 d os
        have g7 := fun d os => cell_regrown c7 d os
        have g8 := fun d os => cell_regrown c8 d os
        have g9 := fun d os => cell_regrown c9 d os
        have g10 := fun d os => cell_regrown c10 d os
        have g11 := fun d os => cell_regrown c11 d os
        have w1 := HW.out.1
        have w2 := HW.out.2.1
        have w3 := HW.out.2.2.1
        have w4 := HW.out.2.2.2.1
        have w5 := HW.out.2.2.2.2
        refine wp_region_quiet_below (by kernel_rfl) (by kernel_rfl) ?_
        repeat (any_goals (first | go_big_quiet_step ((go_at_call 18; exact Calls.regrown_of ((rway_any r _ HO.out).mono fun e w' h => ⟨by rw [h.1, HN.out], h.2⟩))) | quiet_step (fail)))
        refine wpQuiet_nil ?_
        intro w5 hw5
        have hb5 : Below W.heap.size W w5 := by obtain ⟨p, rfl⟩ := hw5; exact below_regrown _ _ _
        clear hw5
        go_wp2_with fail
        go_ret
        exact ⟨ret_int (by rw [HQ.out]), Below.step HB2.out hb5⟩
      · have HQ : Hid (boundZ r t = (n : Int) + t * (n : Int) + 1) := by show _ = _; rw [HZ.out, if_pos ⟨HB.out, t0, t1⟩, if_neg h5, HN.out, Int.add_mul, Int.one_mul]; omega
        have q5 : (r.d == 5) = false := by simp [h5]
        have m2 := mul_range (a := t) (b := (n : Int)) (A := 1099511627776) (B := 145) (by omega) (by omega) (by omega) (by omega)
        have w3 : IntKind.i64.wrap (t * (n : Int)) = t * (n : Int) := IntWalk.i64_in _ (by omega)
        have w4 : IntKind.i64.wrap ((n : Int) + t * (n : Int)) = (n : Int) + t * (n : Int) := IntWalk.i64_in _ (by omega)
        have w5 : IntKind.i64.wrap ((n : Int) + t * (n : Int) + 1) = (n : Int) + t * (n : Int) + 1 := IntWalk.i64_in _ (by omega)
        have HW := Lib.hid (And.intro w3 (And.intro w4 w5))
        clear h5 hall w3 w4 w5 m2
        go_enter Try.func11, Try.ntmps11
        go_wp2_with fail
        refine (ris_any r _ HO.out).mono ?_
        rw [HB.out]
        rintro e W ⟨rfl, hb1⟩
        have F2 := (fresh_req w r _ rfl).below hb1
        have hB2 : Below w.heap.size w W := Below.step ((Below.refl _ _).alloc (Nat.le_refl _) _) hb1
        clear hb1
        obtain ⟨c0, c1, c2, c3, c4, c5, c6, c7, c8, c9, c10, c11⟩ := req_cells F2
        have HB2 := Lib.hid hB2
        clear F2 hB2
        go_wp2_with fail
        have g0 := fun d os => cell_regrown c0 d os
        have g1 := fun d os => cell_regrown c1 d os
        have g2 := fun d os => cell_regrown c2 d os
        have g3 := fun d os => cell_regrown c3 d os
        have g4 := fun d os => cell_regrown c4 d os
        have g5 := fun d os => cell_regrown c5 d os
        have g6 := fun d os => cell_regrown c6 d os
        have g7 := fun d os => cell_regrown c7 d os
        have g8 := fun d os => cell_regrown c8 d os
        have g9 := fun d os => cell_regrown c9 d os
        have g10 := fun d os => cell_regrown c10 d os
        have g11 := fun d os => cell_regrown c11 d os
        have w3 := HW.out.1
        have w4 := HW.out.2.1
        have w5 := HW.out.2.2
        refine wp_region_quiet_below (by kernel_rfl) (by kernel_rfl) ?_
        repeat (any_goals (first | go_big_quiet_step ((go_at_call 18; exact Calls.regrown_of ((rway_any r _ HO.out).mono fun e w' h => ⟨by rw [h.1, HN.out], h.2⟩))) | quiet_step (fail)))
        refine wpQuiet_nil ?_
        intro w5 hw5
        have hb5 : Below W.heap.size W w5 := by obtain ⟨p, rfl⟩ := hw5; exact below_regrown _ _ _
        clear hw5
        go_wp2_with fail
        go_ret
        exact ⟨ret_int (by rw [HQ.out]), Below.step HB2.out hb5⟩
    · have HQ : Hid (boundZ r t = 0) := by show _ = _; rw [HZ.out, if_neg (fun e => hT e.2)]
      rcases (show t < 0 ∨ (0 ≤ t ∧ 1099511627776 < t) from by omega) with h | ⟨h, h'⟩
      all_goals
        clear hT
        go_enter Try.func11, Try.ntmps11
        go_wp2_with fail
        refine (ris_any r _ HO.out).mono ?_
        rw [HB.out]
        rintro e w1 ⟨rfl, hb1⟩
        go_wp2_with fail
        go_ret
        exact ⟨ret_int (by rw [HQ.out]), Below.step ((Below.refl _ _).alloc (Nat.le_refl _) _) hb1⟩

end Go.Proofs.Ytjlfgmjcmicoaaa
