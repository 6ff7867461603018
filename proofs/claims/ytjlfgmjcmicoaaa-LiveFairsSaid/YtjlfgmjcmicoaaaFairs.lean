/- The law LiveFairs: for any request and effort the call returns true. -/
import Derived.Test.YtjlfgmjcmicoaaaRefFair
import Derived.Test.YtjlfgmjcmicoaaaAwake
namespace Go.Proofs.Ytjlfgmjcmicoaaa
open Go.RowKit
set_option maxRecDepth 100000

set_option maxHeartbeats 4000000 in
theorem liveFairs_walk (r : Req) (x : Eff) (w : World) (h : r.Ok) : Calls Try.prog 4 #[reqV r, effV x] w fun e w' => e = .returned (.bool true) ∧ Below w.heap.size w w' := by
  have HO := Lib.hid h
  obtain ⟨b, hb⟩ : ∃ b, fairB r x = b := ⟨_, rfl⟩
  have HB := Lib.hid hb
  obtain ⟨p, t, k, m⟩ := x
  clear h hb
  obtain ⟨W, hW⟩ : ∃ W, W = (w.alloc (.cells #[.int .i64 r.d, .int .i64 r.ht, .int .u32 r.hg, .int .u8 r.hr, .string r.key, .string r.val, .string r.old, .int .i64 r.lim, .int .i64 r.ten, .int .u64 r.qk, .int .u64 r.qb, .int .u8 r.rts] 31)).alloc (.cells #[.int .i64 p, .int .i64 t, .int .i64 k, .int .i64 m] 35) := ⟨_, rfl⟩
  have F1 : Fresh W w.heap.size (Req.cells r) 31 := by rw [hW]; exact (fresh_req w r _ rfl).alloc _
  have E1 : Fresh W (w.heap.size + 1) #[.int .i64 p, .int .i64 t, .int .i64 k, .int .i64 m] 35 := by rw [hW]; exact Fresh.new _ _ _ _ (by simp)
  have HBw : Hid (Below w.heap.size w W) := by show Below _ _ _; rw [hW]; exact Below.new ((Below.refl _ _).alloc (Nat.le_refl _) _) _
  have HW := Lib.hid hW
  have e0 : W.cell? ⟨w.heap.size + 1, 0, none⟩ = some (.int .i64 p) := E1.cell 0
  have e1 : W.cell? ⟨w.heap.size + 1, 1, none⟩ = some (.int .i64 t) := E1.cell 1
  have e2 : W.cell? ⟨w.heap.size + 1, 2, none⟩ = some (.int .i64 k) := E1.cell 2
  have e3 : W.cell? ⟨w.heap.size + 1, 3, none⟩ = some (.int .i64 m) := E1.cell 3
  obtain ⟨c0, c1, c2, c3, c4, c5, c6, c7, c8, c9, c10, c11⟩ := req_cells F1
  clear F1 E1 hW
  cases b
  all_goals
    go_enter Try.func4, Try.ntmps4
    go_wp2_with fail
    rw [← HW.out]
    have g0 := fun d os => cell_regrown c0 d os
    have g1 := fun d os => cell_regrown c1 d os
    have g2 := fun d os => cell_regrown c2 d os
    have g3 := fun d os => cell_regrown c3 d os
    have g4 := fun d os => cell_regrown c4 d os
    have g5 := fun d os => cell_regrown c5 d os
    have g6 := fun d os => cell_regrown c6 d os
    have g7 := fun d os => cell_regrown c7 d os
    have g8 := fun d os => cell_regrown c8 d os
    have g9 := fun d os => cell_regrown c9 d os
    have g10 := fun d os => cell_regrown c10 d os
    have g11 := fun d os => cell_regrown c11 d os
    have h0 := fun d os => cell_regrown e0 d os
    have h1 := fun d os => cell_regrown e1 d os
    have h2 := fun d os => cell_regrown e2 d os
    have h3 := fun d os => cell_regrown e3 d os
    refine wp_region_quiet_below (by kernel_rfl) (by kernel_rfl) ?_
    repeat (any_goals (first | go_big_quiet_step (first | (go_at_call 9; exact Calls.regrown_of ((fair_any r ⟨p, t, k, m⟩ _ HO.out).mono fun e w' h => ⟨by rw [h.1, HB.out], h.2⟩)) | (go_at_call 10; exact Calls.regrown_of ((rfair_any r ⟨p, t, k, m⟩ _ HO.out).mono fun e w' h => ⟨by rw [h.1, HB.out], h.2⟩)) | (go_at_call 8; exact Calls.regrown_of (awake_any _))) | quiet_step (fail)))
    refine wpQuiet_nil ?_
    intro w5 hw5
    have hb5 : Below W.heap.size W w5 := by obtain ⟨p, rfl⟩ := hw5; exact below_regrown _ _ _
    clear hw5
    go_wp2_with fail
    go_ret
    exact ⟨rfl, Below.step HBw.out hb5⟩

theorem liveFairs_walkL (r : Req) (x : Eff) (w : World) (h : r.Ok) (_ : (Lit.int .i64 x.p).wf = true ∧ (Lit.int .i64 x.t).wf = true ∧ (Lit.int .i64 x.k).wf = true ∧ (Lit.int .i64 x.m).wf = true) :
    Calls Try.prog 4 #[reqV r, effV x] w fun e w' => e = .returned (.bool true) ∧ Below w.heap.size w w' := liveFairs_walk r x w h

end Go.Proofs.Ytjlfgmjcmicoaaa
