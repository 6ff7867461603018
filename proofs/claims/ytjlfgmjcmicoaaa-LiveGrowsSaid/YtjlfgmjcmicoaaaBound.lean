/- live.Bound. -/
import Derived.Test.YtjlfgmjcmicoaaaWay
import Derived.WalkSmall
namespace Go.Proofs.Ytjlfgmjcmicoaaa
open Go.RowKit
set_option maxRecDepth 100000

theorem req_cells {W : World} {p : Nat} {r : Req} {t : TypeId} (h : Fresh W p (Req.cells r) t) :
    W.cell? ⟨p, 0, none⟩ = some (.int .i64 r.d) ∧ W.cell? ⟨p, 1, none⟩ = some (.int .i64 r.ht) ∧ W.cell? ⟨p, 2, none⟩ = some (.int .u32 r.hg) ∧ W.cell? ⟨p, 3, none⟩ = some (.int .u8 r.hr) ∧
    W.cell? ⟨p, 4, none⟩ = some (.string r.key) ∧ W.cell? ⟨p, 5, none⟩ = some (.string r.val) ∧ W.cell? ⟨p, 6, none⟩ = some (.string r.old) ∧ W.cell? ⟨p, 7, none⟩ = some (.int .i64 r.lim) ∧
    W.cell? ⟨p, 8, none⟩ = some (.int .i64 r.ten) ∧ W.cell? ⟨p, 9, none⟩ = some (.int .u64 r.qk) ∧ W.cell? ⟨p, 10, none⟩ = some (.int .u64 r.qb) ∧ W.cell? ⟨p, 11, none⟩ = some (.int .u8 r.rts) :=
  ⟨h.cell 0, h.cell 1, h.cell 2, h.cell 3, h.cell 4, h.cell 5, h.cell 6, h.cell 7, h.cell 8, h.cell 9, h.cell 10, h.cell 11⟩

theorem furtherN_le (d : Int) : 3 ≤ furtherN d ∧ furtherN d ≤ 9 := by unfold furtherN; split <;> (try split) <;> (try split) <;> omega
theorem codeL_ge (s : ByteArray) : 2 ≤ (codeL s).length := by simp [codeL]
theorem wayN_le (r : Req) : wayN r ≤ 145 ∧ (isB r = true → 11 ≤ wayN r) := by
  unfold wayN
  by_cases h : isB r = true
  · rw [if_pos h]
    have h1 := furtherN_le r.d
    have h2 : innerN r ≤ 34 ∧ 2 ≤ innerN r := by
      unfold innerN
      have := codeL_le r.key ((isB_of r).1 h).2.2.1
      have := codeL_ge r.key
      split <;> omega
    omega
  · rw [if_neg h]; simp [h]

/-- P29.1: a bound for the picks. -/
def boundZ (r : Req) (t : Int) : Int := if isB r = true ∧ 0 ≤ t ∧ t ≤ 1099511627776 then (if r.d = 5 then (36 * r.lim + t) * (wayN r : Int) + 2 else (t + 1) * (wayN r : Int) + 1) else 0

theorem mul_range {a b A B : Int} (h0 : 0 ≤ a) (h1 : a ≤ A) (h2 : 0 ≤ b) (h3 : b ≤ B) : 0 ≤ a * b ∧ a * b ≤ A * B :=
  ⟨Int.mul_nonneg h0 h2, Int.mul_le_mul h1 h3 h2 (by omega)⟩

theorem fresh_req (W : World) (r : Req) (p : Nat) (hp : W.heap.size = p) : Fresh (W.alloc (.cells #[.int .i64 r.d, .int .i64 r.ht, .int .u32 r.hg, .int .u8 r.hr, .string r.key, .string r.val, .string r.old, .int .i64 r.lim, .int .i64 r.ten, .int .u64 r.qk, .int .u64 r.qb, .int .u8 r.rts] 31)) p (Req.cells r) 31 := Fresh.new W p (Req.cells r) _ hp

set_option maxHeartbeats 4000000 in
theorem bound_any (r : Req) (t : Int) (w : World) (h : r.Ok) : Calls Try.prog 14 #[reqV r, .int .i64 t] w fun e w' => e = .returned (.int .i64 (boundZ r t)) ∧ Below w.heap.size w w' := by
  have HO := Lib.hid h
  have HZ : Hid (boundZ r t = if isB r = true ∧ 0 ≤ t ∧ t ≤ 1099511627776 then (if r.d = 5 then (36 * r.lim + t) * (wayN r : Int) + 2 else (t + 1) * (wayN r : Int) + 1) else 0) := rfl
  obtain ⟨b, hb⟩ : ∃ b, isB r = b := ⟨_, rfl⟩
  have HB := Lib.hid hb
  have HL := Lib.hid (fun hb => ((isB_of r).1 hb))
  clear h hb
  cases b with
  | false =>
    go_enter Try.func14, Try.ntmps14
    go_wp2_with fail
    refine (is_any r _ HO.out).mono ?_
    rw [HB.out]
    rintro e w1 ⟨rfl, hb1⟩
    go_wp2_with fail
    go_ret
    exact ⟨ret_int (by rw [HZ.out, HB.out]; rfl), Below.step ((Below.refl _ _).alloc (Nat.le_refl _) _) hb1⟩
  | true =>
    by_cases hT : 0 ≤ t ∧ t ≤ 1099511627776
    · have HI : Hid (inB 1099511627776 [t] = true) := by show _ = _; rw [inB_one]; simpa using hT
      obtain ⟨t0, t1⟩ := hT
      have hall := HL.out HB.out
      obtain ⟨n, hn⟩ : ∃ n, wayN r = n := ⟨_, rfl⟩
      have hn1 := (wayN_le r).1
      rw [hn] at hn1
      have HN := Lib.hid hn
      clear hn
      by_cases h5 : r.d = 5
      · have hl := hall.2.1 h5
        have HQ : Hid (boundZ r t = (36 * r.lim + t) * (n : Int) + 2) := by show _ = _; rw [HZ.out, if_pos ⟨HB.out, t0, t1⟩, if_pos h5, HN.out]
        have q5 : (r.d == 5) = true := by simp [h5]
        obtain ⟨l0, l1⟩ := hl
        have m1 := mul_range (a := 36 * r.lim + t) (b := (n : Int)) (A := 1099511900000) (B := 145) (by omega) (by omega) (by omega) (by omega)
        have w1 : IntKind.i64.wrap (36 * r.lim) = 36 * r.lim := IntWalk.i64_in _ (by omega)
        have w2 : IntKind.i64.wrap (36 * r.lim + t) = 36 * r.lim + t := IntWalk.i64_in _ (by omega)
        have w3 : IntKind.i64.wrap ((36 * r.lim + t) * (n : Int)) = (36 * r.lim + t) * (n : Int) := IntWalk.i64_in _ (by omega)
        have w4 : IntKind.i64.wrap ((36 * r.lim + t) * (n : Int) + 2) = (36 * r.lim + t) * (n : Int) + 2 := IntWalk.i64_in _ (by omega)
        have HW := Lib.hid (And.intro w1 (And.intro w2 (And.intro w3 w4)))
        clear h5 hall w1 w2 w3 w4 m1
        go_enter Try.func14, Try.ntmps14
        go_wp2_with fail
        refine (is_any r _ HO.out).mono ?_
        rw [HB.out]
        rintro e w1 ⟨rfl, hb1⟩
        have F1 := (fresh_req w r _ rfl).below hb1
        have hB1 : Below w.heap.size w w1 := Below.step ((Below.refl _ _).alloc (Nat.le_refl _) _) hb1
        clear hb1
        go_wp2_with fail
        refine (within_any 1099511627776 [t] _ 1 _ (Fresh.new _ _ _ _ rfl) rfl (by omega)).mono ?_
        rw [HI.out]
        rintro e w2 ⟨rfl, rfl⟩
        have F2 := F1.alloc (.cells #[.int .i64 t] 3)
        have hB2 := Below.new hB1 (.cells #[.int .i64 t] 3)
        obtain ⟨c0, c1, c2, c3, c4, c5, c6, c7, c8, c9, c10, c11⟩ := req_cells F2
        have HC := Lib.hid F2
        have HB2 := Lib.hid hB2
        clear F1 F2 hB1 hB2
        go_wp2_with fail
        generalize w1.alloc (.cells #[.int .i64 t] 3) = W at *
        have g0 := fun d os => cell_regrown c0 d os
        have g1 := fun d os => cell_regrown c1 d os
        have g2 := fun d os => cell_regrown c2 d os
        have g3 := fun d os => cell_regrown c3 d os
        have g4 := fun d os => cell_regrown c4 d os
        have g5 := fun d os => cell_regrown c5 d os
        have g6 := fun d os => cell_regrown c6 d os
        have g7 := fun d os => cell_regrown c7 d os
        have g8 := fun d os => cell_regrown c8 d os
        have g9 := fun d os => cell_regrown c9 d os
        have g10 := fun d os => cell_regrown c10 d os
        have g11 := fun d os => cell_regrown c11 d os
        have w1 := HW.out.1
        have w2 := HW.out.2.1
        have w3 := HW.out.2.2.1
        have w4 := HW.out.2.2.2
        refine wp_region_quiet_below (by kernel_rfl) (by kernel_rfl) ?_
        repeat (any_goals (first | go_big_quiet_step ((go_at_call 13; exact Calls.regrown_of ((way_any r _ HO.out).mono fun e w' h => ⟨by rw [h.1, HN.out], h.2⟩))) | quiet_step (fail)))
        refine wpQuiet_nil ?_
        intro w5 hw5
        have hb5 : Below W.heap.size W w5 := by obtain ⟨p, rfl⟩ := hw5; exact below_regrown _ _ _
        clear hw5
        go_wp2_with fail
        go_ret
        exact ⟨ret_int (by rw [HQ.out]), Below.step HB2.out hb5⟩
      · have HQ : Hid (boundZ r t = (t + 1) * (n : Int) + 1) := by show _ = _; rw [HZ.out, if_pos ⟨HB.out, t0, t1⟩, if_neg h5, HN.out]
        have q5 : (r.d == 5) = false := by simp [h5]
        obtain ⟨m1, m2⟩ := mul_range (a := t + 1) (b := (n : Int)) (A := 1099511900000) (B := 145) (by omega) (by omega) (by omega) (by omega)
        clear h5 hall
        go_enter Try.func14, Try.ntmps14
        go_wp2_with fail
        refine (is_any r _ HO.out).mono ?_
        rw [HB.out]
        rintro e w1 ⟨rfl, hb1⟩
        have F1 := (fresh_req w r _ rfl).below hb1
        have hB1 : Below w.heap.size w w1 := Below.step ((Below.refl _ _).alloc (Nat.le_refl _) _) hb1
        clear hb1
        go_wp2_with fail
        refine (within_any 1099511627776 [t] _ 1 _ (Fresh.new _ _ _ _ rfl) rfl (by omega)).mono ?_
        rw [HI.out]
        rintro e w2 ⟨rfl, rfl⟩
        have F2 := F1.alloc (.cells #[.int .i64 t] 3)
        have hB2 := Below.new hB1 (.cells #[.int .i64 t] 3)
        obtain ⟨c0, c1, c2, c3, c4, c5, c6, c7, c8, c9, c10, c11⟩ := req_cells F2
        have HB2 := Lib.hid hB2
        clear F1 F2 hB1 hB2
        go_wp2_with fail
        refine (way_any r _ HO.out).mono ?_
        rw [HN.out]
        rintro e w5 ⟨rfl, hb5⟩
        go_wp2_with fail
        go_ret
        exact ⟨ret_int (by rw [HQ.out]), Below.step HB2.out hb5⟩
    · have HI : Hid (inB 1099511627776 [t] = false) := by show _ = _; rw [inB_one]; simpa using hT
      have HQ : Hid (boundZ r t = 0) := by show _ = _; rw [HZ.out, if_neg (fun e => hT e.2)]
      clear hT
      go_enter Try.func14, Try.ntmps14
      go_wp2_with fail
      refine (is_any r _ HO.out).mono ?_
      rw [HB.out]
      rintro e w1 ⟨rfl, hb1⟩
      go_wp2_with fail
      refine (within_any 1099511627776 [t] _ 1 _ (Fresh.new _ _ _ _ (by simp)) rfl (by omega)).mono ?_
      rw [HI.out]
      rintro e w2 ⟨rfl, rfl⟩
      go_wp2_with fail
      go_ret
      exact ⟨ret_int (by rw [HQ.out]), Below.new (Below.step ((Below.refl _ _).alloc (Nat.le_refl _) _) hb1) _⟩

end Go.Proofs.Ytjlfgmjcmicoaaa
