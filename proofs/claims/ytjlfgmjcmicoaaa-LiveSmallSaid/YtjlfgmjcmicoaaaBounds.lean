/- The law LiveBounds: for any request and numbers the call returns true. -/
import Derived.Test.YtjlfgmjcmicoaaaRefEnough
import Derived.Test.YtjlfgmjcmicoaaaAwake
namespace Go.Proofs.Ytjlfgmjcmicoaaa
open Go.RowKit
set_option maxRecDepth 100000

set_option maxHeartbeats 8000000 in
theorem bounds_any (r : Req) (t m : Int) (w : World) (h : r.Ok) : Calls Try.prog 7 #[reqV r, .int .i64 t, .int .i64 m] w fun e w' => e = .returned (.bool true) ∧ Below w.heap.size w w' := by
  have HO := Lib.hid h
  obtain ⟨b, hb⟩ : ∃ b, isB r = b := ⟨_, rfl⟩
  have HB := Lib.hid hb
  obtain ⟨x, hx⟩ : ∃ x : Int, (wayN r : Int) = x := ⟨_, rfl⟩
  have HX := Lib.hid hx
  obtain ⟨y, hy⟩ : ∃ y, boundZ r t = y := ⟨_, rfl⟩
  have HY := Lib.hid hy
  obtain ⟨z, hz⟩ : ∃ z, enoughZ r t m = z := ⟨_, rfl⟩
  have HZ := Lib.hid hz
  clear h hb hx hy hz
  obtain ⟨W, hW⟩ : ∃ W, W = w.alloc (.cells #[.int .i64 r.d, .int .i64 r.ht, .int .u32 r.hg, .int .u8 r.hr, .string r.key, .string r.val, .string r.old, .int .i64 r.lim, .int .i64 r.ten, .int .u64 r.qk, .int .u64 r.qb, .int .u8 r.rts] 31) := ⟨_, rfl⟩
  have F1 : Fresh W w.heap.size (Req.cells r) 31 := by rw [hW]; exact fresh_req w r _ rfl
  have HBw : Hid (Below w.heap.size w W) := by show Below _ _ _; rw [hW]; exact (Below.refl _ _).alloc (Nat.le_refl _) _
  have HW := Lib.hid hW
  obtain ⟨c0, c1, c2, c3, c4, c5, c6, c7, c8, c9, c10, c11⟩ := req_cells F1
  clear F1 hW
  have k1 : ((x : Int) == x) = true := by simp
  have k2 : ((y : Int) == y) = true := by simp
  have k3 : ((z : Int) == z) = true := by simp
  cases b
  all_goals
    go_enter Try.func7, Try.ntmps7
    go_wp2_with fail
    rw [← HW.out]
    have g0 := fun d os => cell_regrown c0 d os
    have g1 := fun d os => cell_regrown c1 d os
    have g2 := fun d os => cell_regrown c2 d os
    have g3 := fun d os => cell_regrown c3 d os
    have g4 := fun d os => cell_regrown c4 d os
    have g5 := fun d os => cell_regrown c5 d os
    have g6 := fun d os => cell_regrown c6 d os
    have g7 := fun d os => cell_regrown c7 d os
    have g8 := fun d os => cell_regrown c8 d os
    have g9 := fun d os => cell_regrown c9 d os
    have g10 := fun d os => cell_regrown c10 d os
    have g11 := fun d os => cell_regrown c11 d os
    refine wp_region_quiet_below (by kernel_rfl) (by kernel_rfl) ?_
    repeat (any_goals (first | go_big_quiet_step (first
      | (go_at_call 12; exact Calls.regrown_of ((is_any r _ HO.out).mono fun e w' h => ⟨by rw [h.1, HB.out], h.2⟩))
      | (go_at_call 17; exact Calls.regrown_of ((ris_any r _ HO.out).mono fun e w' h => ⟨by rw [h.1, HB.out], h.2⟩))
      | (go_at_call 13; exact Calls.regrown_of ((way_any r _ HO.out).mono fun e w' h => ⟨by rw [h.1, HX.out], h.2⟩))
      | (go_at_call 18; exact Calls.regrown_of ((rway_any r _ HO.out).mono fun e w' h => ⟨by rw [h.1, HX.out], h.2⟩))
      | (go_at_call 14; exact Calls.regrown_of ((bound_any r t _ HO.out).mono fun e w' h => ⟨by rw [h.1, HY.out], h.2⟩))
      | (go_at_call 11; exact Calls.regrown_of ((rbound_any r t _ HO.out).mono fun e w' h => ⟨by rw [h.1, HY.out], h.2⟩))
      | (go_at_call 15; exact Calls.regrown_of ((enough_any r t m _ HO.out).mono fun e w' h => ⟨by rw [h.1, HZ.out], h.2⟩))
      | (go_at_call 19; exact Calls.regrown_of ((renough_any r t m _ HO.out).mono fun e w' h => ⟨by rw [h.1, HZ.out], h.2⟩))) | quiet_step (fail)))
    refine wpQuiet_nil ?_
    intro w5 hw5
    have hb5 : Below W.heap.size W w5 := by obtain ⟨p, rfl⟩ := hw5; exact below_regrown _ _ _
    clear hw5
    go_wp2_with fail
    go_ret
    exact ⟨rfl, Below.step HBw.out hb5⟩

theorem liveBounds_walk (r : Req) (t m : Int) (w : World) (h : r.Ok) (_ : (Lit.int .i64 t).wf = true) (_ : (Lit.int .i64 m).wf = true) :
    Calls Try.prog 3 #[reqV r, .int .i64 t, .int .i64 m] w fun e w' => e = .returned (.bool true) ∧ Below w.heap.size w w' := by
  have HO := Lib.hid h
  clear h
  go_enter Try.func3, Try.ntmps3
  go_wp2_with fail
  refine (bounds_any r t m _ HO.out).mono ?_
  rintro e w1 ⟨rfl, hb1⟩
  have hB1 := Lib.hid (Below.step ((Below.refl w.heap.size w).alloc (Nat.le_refl _) _) hb1)
  clear hb1
  go_wp2_with fail
  refine (awake_any _).mono ?_
  rintro e w2 ⟨rfl, hb2⟩
  go_wp2_with fail
  go_ret
  exact ⟨rfl, Below.step hB1.out hb2⟩

end Go.Proofs.Ytjlfgmjcmicoaaa
