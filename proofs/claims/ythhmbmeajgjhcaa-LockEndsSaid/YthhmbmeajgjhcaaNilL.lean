/- A table of locks that does not exist. -/
import Derived.Test.YthhmbmeajgjhcaaDoesL
namespace Go.Proofs.Ythhmbmeajgjhcaa
open Go.RowKit
set_option maxRecDepth 100000
set_option maxHeartbeats 4000000

def NilL (W : World) (x : Option Addr) : Prop := x = none ∨ ∃ z, x = some ⟨z, 0, none⟩ ∧ Fresh W z #[.pointer none] 46
theorem NilL.below {W W' : World} {x : Option Addr} (h : NilL W x) (hb : Below W.heap.size W W') : NilL W' x := by
  rcases h with h | ⟨z, h1, h2⟩
  · exact .inl h
  · exact .inr ⟨z, h1, h2.below hb⟩
theorem nil_is {W : World} {x : Option Addr} (h : NilL W x) :
    Calls Try.prog 33 #[.pointer x] W fun e w' => e = .returned (.bool true) ∧ w' = W := by
  rcases h with rfl | ⟨z, rfl, h2⟩
  · go_enter Try.func33, Try.ntmps33
    go_wp2_with fail
    go_ret
    exact ⟨rfl, rfl⟩
  · have c : W.cell? ⟨z, 0, none⟩ = some (.pointer none) := h2.cell 0
    clear h2
    go_enter Try.func33, Try.ntmps33
    go_wp2_with fail
    go_ret
    exact ⟨rfl, rfl⟩
theorem nil_held {W : World} {x : Option Addr} (h : NilL W x) :
    Calls Try.prog 20 #[.pointer x] W fun e w' => e = .returned (.int .i64 0) ∧ Below W.heap.size W w' := by
  have HI := Lib.hid (nil_is h)
  have HB := Lib.hid (Below.refl W.heap.size W)
  clear h
  go_enter Try.func20, Try.ntmps20
  go_wp2_with fail
  refine HI.out.mono ?_
  rintro e w1 ⟨rfl, hw1⟩
  obtain rfl := hw1
  go_wp2_with fail
  go_ret
  exact ⟨rfl, HB.out⟩
theorem nil_taken {W : World} {x : Option Addr} (h : NilL W x) :
    Calls Try.prog 21 #[.pointer x] W fun e w' => e = .returned (.int .i64 0) ∧ Below W.heap.size W w' := by
  have HI := Lib.hid (nil_is h)
  have HB := Lib.hid (Below.refl W.heap.size W)
  clear h
  go_enter Try.func21, Try.ntmps21
  go_wp2_with fail
  refine HI.out.mono ?_
  rintro e w1 ⟨rfl, hw1⟩
  obtain rfl := hw1
  go_wp2_with fail
  go_ret
  exact ⟨rfl, HB.out⟩
theorem nil_len {W : World} {x : Option Addr} (h : NilL W x) :
    Calls Try.prog 22 #[.pointer x] W fun e w' => e = .returned (.int .i64 0) ∧ Below W.heap.size W w' := by
  have HI := Lib.hid (nil_is h)
  have HB := Lib.hid (Below.refl W.heap.size W)
  clear h
  go_enter Try.func22, Try.ntmps22
  go_wp2_with fail
  refine HI.out.mono ?_
  rintro e w1 ⟨rfl, hw1⟩
  obtain rfl := hw1
  go_wp2_with fail
  go_ret
  exact ⟨rfl, HB.out⟩
theorem nil_copy {W : World} {x : Option Addr} (h : NilL W x) :
    Calls Try.prog 23 #[.pointer x] W fun e w' => e = .returned (.pointer none) ∧ Below W.heap.size W w' := by
  have HI := Lib.hid (nil_is h)
  have HB := Lib.hid (Below.refl W.heap.size W)
  clear h
  go_enter Try.func23, Try.ntmps23
  go_wp2_with fail
  refine HI.out.mono ?_
  rintro e w1 ⟨rfl, hw1⟩
  obtain rfl := hw1
  go_wp2_with fail
  go_ret
  exact ⟨rfl, HB.out⟩
theorem nil_begin {W : World} {x : Option Addr} (s g : Int) (h : NilL W x) :
    Calls Try.prog 12 #[.pointer x, refV s g] W fun e w' => e = .returned (.tuple #[.int .u64 0, .int .i64 2]) ∧ Below W.heap.size W w' := by
  have B1 := Below.new (Below.refl W.heap.size W) (.cells #[.int .i64 s, .int .u32 g] 33)
  have F1 := Fresh.new W W.heap.size #[.int .i64 s, .int .u32 g] 33 rfl
  have A1 := h.below B1
  obtain ⟨W1, hW1⟩ : ∃ W1, W1 = W.alloc (.cells #[.int .i64 s, .int .u32 g] 33) := ⟨_, rfl⟩
  rw [← hW1] at B1 F1 A1
  have HB := Lib.hid B1
  have HA := Lib.hid A1
  have HW := Lib.hid hW1
  have HI := Lib.hid (nil_is A1)
  have r0 := F1.cell 0
  have r1 := F1.cell 1
  simp only [List.getElem?_toArray, List.getElem?_cons_zero, List.getElem?_cons_succ] at r0 r1
  clear h B1 F1 A1 hW1
  go_enter Try.func12, Try.ntmps12
  go_upto_region 1 with fail
  rw [← HW.out]
  go_wp2_with fail
  refine HI.out.mono ?_
  rintro e w1 ⟨rfl, hw1⟩
  obtain rfl := hw1
  go_wp2_with fail
  go_ret2
  exact ⟨rfl, HB.out⟩
theorem nil_add {W : World} {x : Option Addr} (s g : Int) (h : NilL W x) :
    Calls Try.prog 13 #[.pointer x, refV s g] W fun e w' => e = .returned (.int .i64 1) ∧ Below W.heap.size W w' := by
  have B1 := Below.new (Below.refl W.heap.size W) (.cells #[.int .i64 s, .int .u32 g] 33)
  have F1 := Fresh.new W W.heap.size #[.int .i64 s, .int .u32 g] 33 rfl
  have A1 := h.below B1
  obtain ⟨W1, hW1⟩ : ∃ W1, W1 = W.alloc (.cells #[.int .i64 s, .int .u32 g] 33) := ⟨_, rfl⟩
  rw [← hW1] at B1 F1 A1
  have HB := Lib.hid B1
  have HA := Lib.hid A1
  have HW := Lib.hid hW1
  have HI := Lib.hid (nil_is A1)
  have r0 := F1.cell 0
  have r1 := F1.cell 1
  simp only [List.getElem?_toArray, List.getElem?_cons_zero, List.getElem?_cons_succ] at r0 r1
  clear h B1 F1 A1 hW1
  go_enter Try.func13, Try.ntmps13
  go_upto_region 1 with fail
  rw [← HW.out]
  go_wp2_with fail
  refine HI.out.mono ?_
  rintro e w1 ⟨rfl, hw1⟩
  obtain rfl := hw1
  go_wp2_with fail
  go_ret
  exact ⟨rfl, HB.out⟩
theorem nil_gone {W : World} {x : Option Addr} (s g : Int) (h : NilL W x) :
    Calls Try.prog 14 #[.pointer x, refV s g] W fun e w' => e = .returned (.int .i64 1) ∧ Below W.heap.size W w' := by
  have B1 := Below.new (Below.refl W.heap.size W) (.cells #[.int .i64 s, .int .u32 g] 33)
  have F1 := Fresh.new W W.heap.size #[.int .i64 s, .int .u32 g] 33 rfl
  have A1 := h.below B1
  obtain ⟨W1, hW1⟩ : ∃ W1, W1 = W.alloc (.cells #[.int .i64 s, .int .u32 g] 33) := ⟨_, rfl⟩
  rw [← hW1] at B1 F1 A1
  have HB := Lib.hid B1
  have HA := Lib.hid A1
  have HW := Lib.hid hW1
  have HI := Lib.hid (nil_is A1)
  have r0 := F1.cell 0
  have r1 := F1.cell 1
  simp only [List.getElem?_toArray, List.getElem?_cons_zero, List.getElem?_cons_succ] at r0 r1
  clear h B1 F1 A1 hW1
  go_enter Try.func14, Try.ntmps14
  go_upto_region 1 with fail
  rw [← HW.out]
  go_wp2_with fail
  refine HI.out.mono ?_
  rintro e w1 ⟨rfl, hw1⟩
  obtain rfl := hw1
  go_wp2_with fail
  go_ret
  exact ⟨rfl, HB.out⟩
theorem nil_check {W : World} {x : Option Addr} (s g v : Int) (h : NilL W x) :
    Calls Try.prog 15 #[.pointer x, refV s g, .int .u64 v] W fun e w' => e = .returned (.bool false) ∧ Below W.heap.size W w' := by
  have B1 := Below.new (Below.refl W.heap.size W) (.cells #[.int .i64 s, .int .u32 g] 33)
  have F1 := Fresh.new W W.heap.size #[.int .i64 s, .int .u32 g] 33 rfl
  have A1 := h.below B1
  obtain ⟨W1, hW1⟩ : ∃ W1, W1 = W.alloc (.cells #[.int .i64 s, .int .u32 g] 33) := ⟨_, rfl⟩
  rw [← hW1] at B1 F1 A1
  have HB := Lib.hid B1
  have HA := Lib.hid A1
  have HW := Lib.hid hW1
  have HI := Lib.hid (nil_is A1)
  have r0 := F1.cell 0
  have r1 := F1.cell 1
  simp only [List.getElem?_toArray, List.getElem?_cons_zero, List.getElem?_cons_succ] at r0 r1
  clear h B1 F1 A1 hW1
  go_enter Try.func15, Try.ntmps15
  go_upto_region 1 with fail
  rw [← HW.out]
  go_wp2_with fail
  refine HI.out.mono ?_
  rintro e w1 ⟨rfl, hw1⟩
  obtain rfl := hw1
  go_wp2_with fail
  go_ret
  exact ⟨rfl, HB.out⟩
theorem nil_lock {W : World} {x : Option Addr} (s g v : Int) (h : NilL W x) :
    Calls Try.prog 16 #[.pointer x, refV s g, .int .u64 v] W fun e w' => e = .returned (.bool false) ∧ Below W.heap.size W w' := by
  have B1 := Below.new (Below.refl W.heap.size W) (.cells #[.int .i64 s, .int .u32 g] 33)
  have F1 := Fresh.new W W.heap.size #[.int .i64 s, .int .u32 g] 33 rfl
  have A1 := h.below B1
  obtain ⟨W1, hW1⟩ : ∃ W1, W1 = W.alloc (.cells #[.int .i64 s, .int .u32 g] 33) := ⟨_, rfl⟩
  rw [← hW1] at B1 F1 A1
  have HB := Lib.hid B1
  have HA := Lib.hid A1
  have HW := Lib.hid hW1
  have HI := Lib.hid (nil_is A1)
  have r0 := F1.cell 0
  have r1 := F1.cell 1
  simp only [List.getElem?_toArray, List.getElem?_cons_zero, List.getElem?_cons_succ] at r0 r1
  clear h B1 F1 A1 hW1
  have HC : Hid (∀ (d : Nat) (os : Array Obj), Calls Try.prog 15 #[.pointer x, refV s g, .int .u64 v] (Sort.grow (redrawn W1 d) os) fun e w' => e = .returned (.bool false) ∧ Below (Sort.grow (redrawn W1 d) os).heap.size (Sort.grow (redrawn W1 d) os) w') := fun d os => nil_check s g v (HA.out.below (below_regrown _ _ _))
  go_enter Try.func16, Try.ntmps16
  go_upto_region 1 with fail
  rw [← HW.out]
  have g0 := fun d os => cell_regrown r0 d os
  have g1 := fun d os => cell_regrown r1 d os
  refine wp_region_quiet_below (by kernel_rfl) (by kernel_rfl) ?_
  repeat (any_goals (first | go_big_quiet_step (first
    | (go_at_call 15; with_reducible exact Calls.regrown_of (HC.out _ _))) | quiet_step (fail)))
  all_goals
    refine wpQuiet_nil ?_
    intro w7 hw7
    have hb7 : Below W1.heap.size W1 w7 := by obtain ⟨p, rfl⟩ := hw7; exact below_regrown _ _ _
    have HB2 := Lib.hid hb7
    clear hw7 hb7 g0 g1 r0 r1
    go_wp2_with fail
    go_ret
    exact ⟨rfl, Below.step HB.out HB2.out⟩
theorem nil_unlock {W : World} {x : Option Addr} (s g : Int) (F : Value) (h : NilL W x) :
    Calls Try.prog 38 #[.pointer x, refV s g, F] W fun e w' => e = .returned (.int .i64 1) ∧ Below W.heap.size W w' := by
  have B1 := Below.new (Below.refl W.heap.size W) (.cells #[.int .i64 s, .int .u32 g] 33)
  have F1 := Fresh.new W W.heap.size #[.int .i64 s, .int .u32 g] 33 rfl
  have A1 := h.below B1
  obtain ⟨W1, hW1⟩ : ∃ W1, W1 = W.alloc (.cells #[.int .i64 s, .int .u32 g] 33) := ⟨_, rfl⟩
  rw [← hW1] at B1 F1 A1
  have HB := Lib.hid B1
  have HA := Lib.hid A1
  have HW := Lib.hid hW1
  have HI := Lib.hid (nil_is A1)
  have r0 := F1.cell 0
  have r1 := F1.cell 1
  simp only [List.getElem?_toArray, List.getElem?_cons_zero, List.getElem?_cons_succ] at r0 r1
  clear h B1 F1 A1 hW1
  go_enter Try.func38, Try.ntmps38
  go_upto_region 1 with fail
  rw [← HW.out]
  go_wp2_with fail
  refine HI.out.mono ?_
  rintro e w1 ⟨rfl, hw1⟩
  obtain rfl := hw1
  go_wp2_with fail
  go_ret
  exact ⟨rfl, HB.out⟩
theorem nil_drop {W : World} {x : Option Addr} (s g : Int) (h : NilL W x) :
    Calls Try.prog 17 #[.pointer x, refV s g] W fun e w' => e = .returned (.int .i64 1) ∧ Below W.heap.size W w' := by
  have B1 := Below.new (Below.refl W.heap.size W) (.cells #[.int .i64 s, .int .u32 g] 33)
  have F1 := Fresh.new W W.heap.size #[.int .i64 s, .int .u32 g] 33 rfl
  have A1 := h.below B1
  obtain ⟨W1, hW1⟩ : ∃ W1, W1 = W.alloc (.cells #[.int .i64 s, .int .u32 g] 33) := ⟨_, rfl⟩
  rw [← hW1] at B1 F1 A1
  have HB := Lib.hid B1
  have HA := Lib.hid A1
  have HW := Lib.hid hW1
  have HI := Lib.hid (nil_is A1)
  have r0 := F1.cell 0
  have r1 := F1.cell 1
  simp only [List.getElem?_toArray, List.getElem?_cons_zero, List.getElem?_cons_succ] at r0 r1
  clear h B1 F1 A1 hW1
  have HU := Lib.hid (fun F => nil_unlock s g F HA.out)
  go_enter Try.func17, Try.ntmps17
  go_upto_region 1 with fail
  rw [← HW.out]
  go_wp2_with fail
  refine (HU.out _).mono ?_
  rintro e w2 ⟨rfl, hb2⟩
  have H2 := Lib.hid (Below.step HB.out hb2)
  clear hb2 r0 r1
  go_wp2_with fail
  go_ret
  exact ⟨rfl, H2.out⟩
theorem nil_done {W : World} {x : Option Addr} (s g : Int) (h : NilL W x) :
    Calls Try.prog 18 #[.pointer x, refV s g] W fun e w' => e = .returned (.int .i64 1) ∧ Below W.heap.size W w' := by
  have B1 := Below.new (Below.refl W.heap.size W) (.cells #[.int .i64 s, .int .u32 g] 33)
  have F1 := Fresh.new W W.heap.size #[.int .i64 s, .int .u32 g] 33 rfl
  have A1 := h.below B1
  obtain ⟨W1, hW1⟩ : ∃ W1, W1 = W.alloc (.cells #[.int .i64 s, .int .u32 g] 33) := ⟨_, rfl⟩
  rw [← hW1] at B1 F1 A1
  have HB := Lib.hid B1
  have HA := Lib.hid A1
  have HW := Lib.hid hW1
  have HI := Lib.hid (nil_is A1)
  have r0 := F1.cell 0
  have r1 := F1.cell 1
  simp only [List.getElem?_toArray, List.getElem?_cons_zero, List.getElem?_cons_succ] at r0 r1
  clear h B1 F1 A1 hW1
  have HU := Lib.hid (fun F => nil_unlock s g F HA.out)
  go_enter Try.func18, Try.ntmps18
  go_upto_region 1 with fail
  rw [← HW.out]
  go_wp2_with fail
  refine (HU.out _).mono ?_
  rintro e w2 ⟨rfl, hb2⟩
  have H2 := Lib.hid (Below.step HB.out hb2)
  clear hb2 r0 r1
  go_wp2_with fail
  go_ret
  exact ⟨rfl, H2.out⟩
theorem nil_kill {W : World} {x : Option Addr} (s g : Int) (h : NilL W x) :
    Calls Try.prog 19 #[.pointer x, refV s g] W fun e w' => e = .returned (.int .i64 1) ∧ Below W.heap.size W w' := by
  have B1 := Below.new (Below.refl W.heap.size W) (.cells #[.int .i64 s, .int .u32 g] 33)
  have F1 := Fresh.new W W.heap.size #[.int .i64 s, .int .u32 g] 33 rfl
  have A1 := h.below B1
  obtain ⟨W1, hW1⟩ : ∃ W1, W1 = W.alloc (.cells #[.int .i64 s, .int .u32 g] 33) := ⟨_, rfl⟩
  rw [← hW1] at B1 F1 A1
  have HB := Lib.hid B1
  have HA := Lib.hid A1
  have HW := Lib.hid hW1
  have HI := Lib.hid (nil_is A1)
  have r0 := F1.cell 0
  have r1 := F1.cell 1
  simp only [List.getElem?_toArray, List.getElem?_cons_zero, List.getElem?_cons_succ] at r0 r1
  clear h B1 F1 A1 hW1
  have HU := Lib.hid (fun F => nil_unlock s g F HA.out)
  go_enter Try.func19, Try.ntmps19
  go_upto_region 1 with fail
  rw [← HW.out]
  go_wp2_with fail
  refine (HU.out _).mono ?_
  rintro e w2 ⟨rfl, hb2⟩
  have H2 := Lib.hid (Below.step HB.out hb2)
  clear hb2 r0 r1
  go_wp2_with fail
  go_ret
  exact ⟨rfl, H2.out⟩
end Go.Proofs.Ythhmbmeajgjhcaa
