/- live.Fair. -/
import Derived.Test.YtjlfgmjcmicoaaaEnough
namespace Go.Proofs.Ytjlfgmjcmicoaaa
open Go.RowKit
set_option maxRecDepth 100000

/-- An effort: its cells. -/
structure Eff where
  p : Int
  t : Int
  k : Int
  m : Int
abbrev effV (x : Eff) : Value := .agg #[.int .i64 x.p, .int .i64 x.t, .int .i64 x.k, .int .i64 x.m]
def both (r : Req) (x : Eff) : Array Value := #[.int .i64 r.d, .int .i64 r.ht, .int .u32 r.hg, .int .u8 r.hr, .string r.key, .string r.val, .string r.old, .int .i64 r.lim, .int .i64 r.ten, .int .u64 r.qk, .int .u64 r.qb, .int .u8 r.rts, .int .i64 x.p, .int .i64 x.t, .int .i64 x.k, .int .i64 x.m]
def small (n : Int) : Prop := 0 ≤ n ∧ n ≤ 1099511627776

theorem both_cells {W : World} {p : Nat} {r : Req} {x : Eff} {t : TypeId} (h : Fresh W p (both r x) t) :
    (W.cell? ⟨p, 0, none⟩ = some (.int .i64 r.d) ∧ W.cell? ⟨p, 1, none⟩ = some (.int .i64 r.ht) ∧ W.cell? ⟨p, 2, none⟩ = some (.int .u32 r.hg) ∧ W.cell? ⟨p, 3, none⟩ = some (.int .u8 r.hr) ∧
    W.cell? ⟨p, 4, none⟩ = some (.string r.key) ∧ W.cell? ⟨p, 5, none⟩ = some (.string r.val) ∧ W.cell? ⟨p, 6, none⟩ = some (.string r.old) ∧ W.cell? ⟨p, 7, none⟩ = some (.int .i64 r.lim) ∧
    W.cell? ⟨p, 8, none⟩ = some (.int .i64 r.ten) ∧ W.cell? ⟨p, 9, none⟩ = some (.int .u64 r.qk) ∧ W.cell? ⟨p, 10, none⟩ = some (.int .u64 r.qb) ∧ W.cell? ⟨p, 11, none⟩ = some (.int .u8 r.rts)) ∧
    W.cell? ⟨p, 12, none⟩ = some (.int .i64 x.p) ∧ W.cell? ⟨p, 13, none⟩ = some (.int .i64 x.t) ∧ W.cell? ⟨p, 14, none⟩ = some (.int .i64 x.k) ∧ W.cell? ⟨p, 15, none⟩ = some (.int .i64 x.m) :=
  ⟨⟨h.cell 0, h.cell 1, h.cell 2, h.cell 3, h.cell 4, h.cell 5, h.cell 6, h.cell 7, h.cell 8, h.cell 9, h.cell 10, h.cell 11⟩, h.cell 12, h.cell 13, h.cell 14, h.cell 15⟩

set_option maxHeartbeats 4000000 in
theorem isFair_any (r : Req) (x : Eff) (w : World) (h : r.Ok) (hb : isB r = true) (h1 : small x.p) (h2 : small x.t) (h3 : small x.k) (h4 : small x.m) :
    Calls Try.prog 21 #[.agg #[.int .i64 r.d, .int .i64 r.ht, .int .u32 r.hg, .int .u8 r.hr, .string r.key, .string r.val, .string r.old, .int .i64 r.lim, .int .i64 r.ten, .int .u64 r.qk, .int .u64 r.qb, .int .u8 r.rts, .int .i64 x.p, .int .i64 x.t, .int .i64 x.k, .int .i64 x.m]] w
      fun e w' => e = .returned (.bool (decide (x.t ≤ x.k + 1) && decide (x.p ≤ boundZ r x.t + x.m))) ∧ Below w.heap.size w w' := by
  have HO := Lib.hid h
  have hbr := boundZ_range r x.t hb h2
  obtain ⟨p, t, k, m⟩ := x
  dsimp only at *
  obtain ⟨z, hz⟩ : ∃ z, boundZ r t = z := ⟨_, rfl⟩
  rw [hz] at hbr
  rw [hz]
  have HZ := Lib.hid hz
  clear hz h
  obtain ⟨z1, z2⟩ := hbr
  obtain ⟨p1, p2⟩ := h1
  obtain ⟨t1, t2⟩ := h2
  obtain ⟨k1, k2⟩ := h3
  obtain ⟨m1, m2⟩ := h4
  have HW := Lib.hid (And.intro (show IntKind.i64.wrap (k + 1) = k + 1 from IntWalk.i64_in _ (by omega)) (show IntKind.i64.wrap (z + m) = z + m from IntWalk.i64_in _ (by omega)))
  have FW : Fresh (w.alloc (.cells #[.int .i64 r.d, .int .i64 r.ht, .int .u32 r.hg, .int .u8 r.hr, .string r.key, .string r.val, .string r.old, .int .i64 r.lim, .int .i64 r.ten, .int .u64 r.qk, .int .u64 r.qb, .int .u8 r.rts, .int .i64 p, .int .i64 t, .int .i64 k, .int .i64 m] 49)) w.heap.size (both r ⟨p, t, k, m⟩) 49 := Fresh.new w w.heap.size (both r ⟨p, t, k, m⟩) 49 rfl
  have HFW := Lib.hid FW
  have HB : Hid (Below w.heap.size w (w.alloc (.cells #[.int .i64 r.d, .int .i64 r.ht, .int .u32 r.hg, .int .u8 r.hr, .string r.key, .string r.val, .string r.old, .int .i64 r.lim, .int .i64 r.ten, .int .u64 r.qk, .int .u64 r.qb, .int .u8 r.rts, .int .i64 p, .int .i64 t, .int .i64 k, .int .i64 m] 49))) := (Below.refl _ _).alloc (Nat.le_refl _) _
  clear FW
  by_cases hg : t ≤ k + 1
  · have HG : Hid (decide (t ≤ k + 1) = true) := by show _ = _; simpa using hg
    go_enter Try.func21, Try.ntmps21
    go_wp2_with fail
    generalize w.alloc (.cells #[.int .i64 r.d, .int .i64 r.ht, .int .u32 r.hg, .int .u8 r.hr, .string r.key, .string r.val, .string r.old, .int .i64 r.lim, .int .i64 r.ten, .int .u64 r.qk, .int .u64 r.qb, .int .u8 r.rts, .int .i64 p, .int .i64 t, .int .i64 k, .int .i64 m] 49) = W at *
    obtain ⟨⟨c0, c1, c2, c3, c4, c5, c6, c7, c8, c9, c10, c11⟩, c12, c13, c14, c15⟩ := both_cells HFW.out
    have g0 := fun d os => cell_regrown c0 d os
    have g1 := fun d os => cell_regrown c1 d os
    have g2 := fun d os => cell_regrown c2 d os
    have g3 := fun d os => cell_regrown c3 d os
    have g4 := fun d os => cell_regrown c4 d os
    have g5 := fun d os => cell_regrown c5 d os
    have g6 := fun d os => cell_regrown c6 d os
    have g7 := fun d os => cell_regrown c7 d os
    have g8 := fun d os => cell_regrown c8 d os
    have g9 := fun d os => cell_regrown c9 d os
    have g10 := fun d os => cell_regrown c10 d os
    have g11 := fun d os => cell_regrown c11 d os
    have g12 := fun d os => cell_regrown c12 d os
    have g13 := fun d os => cell_regrown c13 d os
    have g14 := fun d os => cell_regrown c14 d os
    have g15 := fun d os => cell_regrown c15 d os
    have w1 := HW.out.1
    have w2 := HW.out.2
    have q1 := HG.out
    refine wp_region_quiet_below (by kernel_rfl) (by kernel_rfl) ?_
    repeat (any_goals (first | go_big_quiet_step ((go_at_call 14; exact Calls.regrown_of ((bound_any r t _ HO.out).mono fun e w' h => ⟨by rw [h.1, HZ.out], h.2⟩))) | quiet_step (fail)))
    refine wpQuiet_nil ?_
    intro w5 hw5
    have hb5 : Below W.heap.size W w5 := by obtain ⟨p, rfl⟩ := hw5; exact below_regrown _ _ _
    clear hw5
    go_wp2_with fail
    go_ret
    exact ⟨ret_bool (by first | rfl | (rw [HG.out]; simp)), Below.step HB.out hb5⟩
  · have HG : Hid (decide (t ≤ k + 1) = false) := by show _ = _; simpa using hg
    go_enter Try.func21, Try.ntmps21
    go_wp2_with fail
    generalize w.alloc (.cells #[.int .i64 r.d, .int .i64 r.ht, .int .u32 r.hg, .int .u8 r.hr, .string r.key, .string r.val, .string r.old, .int .i64 r.lim, .int .i64 r.ten, .int .u64 r.qk, .int .u64 r.qb, .int .u8 r.rts, .int .i64 p, .int .i64 t, .int .i64 k, .int .i64 m] 49) = W at *
    obtain ⟨⟨c0, c1, c2, c3, c4, c5, c6, c7, c8, c9, c10, c11⟩, c12, c13, c14, c15⟩ := both_cells HFW.out
    have g0 := fun d os => cell_regrown c0 d os
    have g1 := fun d os => cell_regrown c1 d os
    have g2 := fun d os => cell_regrown c2 d os
    have g3 := fun d os => cell_regrown c3 d os
    have g4 := fun d os => cell_regrown c4 d os
    have g5 := fun d os => cell_regrown c5 d os
    have g6 := fun d os => cell_regrown c6 d os
    have g7 := fun d os => cell_regrown c7 d os
    have g8 := fun d os => cell_regrown c8 d os
    have g9 := fun d os => cell_regrown c9 d os
    have g10 := fun d os => cell_regrown c10 d os
    have g11 := fun d os => cell_regrown c11 d os
    have g12 := fun d os => cell_regrown c12 d os
    have g13 := fun d os => cell_regrown c13 d os
    have g14 := fun d os => cell_regrown c14 d os
    have g15 := fun d os => cell_regrown c15 d os
    have w1 := HW.out.1
    have w2 := HW.out.2
    have q1 := HG.out
    refine wp_region_quiet_below (by kernel_rfl) (by kernel_rfl) ?_
    repeat (any_goals (first | go_big_quiet_step ((go_at_call 14; exact Calls.regrown_of ((bound_any r t _ HO.out).mono fun e w' h => ⟨by rw [h.1, HZ.out], h.2⟩))) | quiet_step (fail)))
    refine wpQuiet_nil ?_
    intro w5 hw5
    have hb5 : Below W.heap.size W w5 := by obtain ⟨p, rfl⟩ := hw5; exact below_regrown _ _ _
    clear hw5
    go_wp2_with fail
    go_ret
    exact ⟨ret_bool (by first | rfl | (rw [HG.out]; simp)), Below.step HB.out hb5⟩

/-- P29.2. -/
def fairB (r : Req) (x : Eff) : Bool := isB r && inB 1099511627776 [x.p, x.t, x.k, x.m] && (decide (x.t ≤ x.k + 1) && decide (x.p ≤ boundZ r x.t + x.m))
theorem inB_four {x : Eff} (h : inB 1099511627776 [x.p, x.t, x.k, x.m] = true) : small x.p ∧ small x.t ∧ small x.k ∧ small x.m := by
  simpa [inB, small] using h

set_option maxHeartbeats 4000000 in
theorem fair_any (r : Req) (x : Eff) (w : World) (h : r.Ok) : Calls Try.prog 9 #[reqV r, effV x] w fun e w' => e = .returned (.bool (fairB r x)) ∧ Below w.heap.size w w' := by
  have HO := Lib.hid h
  have HZ : Hid (fairB r x = (isB r && inB 1099511627776 [x.p, x.t, x.k, x.m] && (decide (x.t ≤ x.k + 1) && decide (x.p ≤ boundZ r x.t + x.m)))) := rfl
  obtain ⟨b, hb⟩ : ∃ b, isB r = b := ⟨_, rfl⟩
  have HB := Lib.hid hb
  obtain ⟨c, hc⟩ : ∃ c, inB 1099511627776 [x.p, x.t, x.k, x.m] = c := ⟨_, rfl⟩
  have HI := Lib.hid hc
  clear h hb hc
  cases b with
  | false =>
    go_enter Try.func9, Try.ntmps9
    go_wp2_with fail
    refine (is_any r _ HO.out).mono ?_
    rw [HB.out]
    rintro e w1 ⟨rfl, hb1⟩
    go_wp2_with fail
    go_ret
    exact ⟨ret_bool (by rw [HZ.out, HB.out]; rfl), Below.step (Below.new ((Below.refl _ _).alloc (Nat.le_refl _) _) _) hb1⟩
  | true =>
    have HS := Lib.hid (fun h => inB_four (x := x) h)
    cases c
    all_goals
      go_enter Try.func9, Try.ntmps9
      go_wp2_with fail
      refine (is_any r _ HO.out).mono ?_
      rw [HB.out]
      rintro e w1 ⟨rfl, hb1⟩
      have F1 := ((fresh_req w r _ rfl).alloc (.cells #[.int .i64 x.p, .int .i64 x.t, .int .i64 x.k, .int .i64 x.m] 35)).below hb1
      have E1 := (Fresh.new (w.alloc (.cells #[.int .i64 r.d, .int .i64 r.ht, .int .u32 r.hg, .int .u8 r.hr, .string r.key, .string r.val, .string r.old, .int .i64 r.lim, .int .i64 r.ten, .int .u64 r.qk, .int .u64 r.qb, .int .u8 r.rts] 31)) (w.heap.size + 1) #[.int .i64 x.p, .int .i64 x.t, .int .i64 x.k, .int .i64 x.m] 35 (by simp)).below hb1
      have hB1 := Lib.hid (Below.step (Below.new ((Below.refl w.heap.size w).alloc (Nat.le_refl _) _) _) hb1)
      have e0 : w1.cell? ⟨w.heap.size + 1, 0, none⟩ = some (.int .i64 x.p) := E1.cell 0
      have e1 : w1.cell? ⟨w.heap.size + 1, 1, none⟩ = some (.int .i64 x.t) := E1.cell 1
      have e2 : w1.cell? ⟨w.heap.size + 1, 2, none⟩ = some (.int .i64 x.k) := E1.cell 2
      have e3 : w1.cell? ⟨w.heap.size + 1, 3, none⟩ = some (.int .i64 x.m) := E1.cell 3
      obtain ⟨c0, c1, c2, c3, c4, c5, c6, c7, c8, c9, c10, c11⟩ := req_cells F1
      have l0 : w.heap.size < w1.heap.size := F1.lt
      have l1 : w.heap.size + 1 < w1.heap.size := E1.lt
      clear F1 E1 hb1
      go_wp2_with fail
      refine (within_any 1099511627776 [x.p, x.t, x.k, x.m] _ 4 _ (Fresh.new _ _ _ _ rfl) rfl (by omega)).mono ?_
      rw [HI.out]
      rintro e w2 ⟨rfl, rfl⟩
      go_wp2_with fail
    · go_ret
      exact ⟨ret_bool (by rw [HZ.out, HB.out, HI.out]; rfl), Below.new hB1.out _⟩
    · obtain ⟨s1, s2, s3, s4⟩ := HS.out HI.out
      refine (isFair_any r x _ HO.out HB.out s1 s2 s3 s4).mono ?_
      rintro e w3 ⟨rfl, hb3⟩
      go_wp2_with fail
      go_ret
      exact ⟨ret_bool (by rw [HZ.out, HB.out, HI.out]; simp), Below.step (Below.new hB1.out _) hb3⟩

end Go.Proofs.Ytjlfgmjcmicoaaa
