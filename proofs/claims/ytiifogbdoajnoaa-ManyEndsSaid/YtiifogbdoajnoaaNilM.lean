/- A row that does not exist. -/
import Derived.Test.YtiifogbdoajnoaaNextWm
namespace Go.Proofs.Ytiifogbdoajnoaa
open Go.RowKit Go.Shelf
attribute [local go_sem] Oper.semAt_some
set_option maxRecDepth 100000
set_option maxHeartbeats 4000000

def NilF (W : World) (x : Option Addr) : Prop := x = none ∨ ∃ z, x = some ⟨z, 0, none⟩ ∧ W.cell? ⟨z, 0, none⟩ = some (.pointer none)
theorem NilF.below {W W' : World} {x : Option Addr} (h : NilF W x) (hb : Below W.heap.size W W') : NilF W' x := by
  rcases h with h | ⟨z, h1, h2⟩
  · exact .inl h
  · exact .inr ⟨z, h1, (hb.cell (p := ⟨z, 0, none⟩) (cell_lt h2)).trans h2⟩
theorem nil_is {W : World} {x : Option Addr} (h : NilF W x) :
    Calls Try.prog 29 #[.pointer x] W fun e w' => e = .returned (.bool true) ∧ w' = W := by
  rcases h with rfl | ⟨z, rfl, c⟩
  · go_enter Try.func29, Try.ntmps29
    go_wp2_with fail
    go_ret
    exact ⟨rfl, rfl⟩
  · go_enter Try.func29, Try.ntmps29
    go_wp2_with fail
    go_ret
    exact ⟨rfl, rfl⟩
theorem nil_len {W : World} {x : Option Addr} (h : NilF W x) :
    Calls Try.prog 18 #[.pointer x] W fun e w' => e = .returned (.int .i64 0) ∧ Below W.heap.size W w' := by
  have HI : Hid (∀ W', Below W.heap.size W W' → Calls Try.prog 29 #[.pointer x] W' fun e w' => e = .returned (.bool true) ∧ w' = W') := fun W' hb => nil_is (h.below hb)
  clear h
  go_enter Try.func18, Try.ntmps18
  go_wp2_with (go_at_call 29; refine (HI.out _ (by first | exact Below.refl _ _ | exact Below.new (Below.refl _ _) _ | exact Below.new (Below.new (Below.refl _ _) _) _)).mono ?_; rintro e w1 ⟨rfl, hw1⟩; replace hw1 := hw1.symm; subst hw1)
  go_ret
  exact ⟨rfl, by first | exact Below.refl _ _ | exact Below.new (Below.refl _ _) _ | exact Below.new (Below.new (Below.refl _ _) _) _⟩
theorem nil_room {W : World} {x : Option Addr} (h : NilF W x) :
    Calls Try.prog 19 #[.pointer x] W fun e w' => e = .returned (.int .i64 0) ∧ Below W.heap.size W w' := by
  have HI : Hid (∀ W', Below W.heap.size W W' → Calls Try.prog 29 #[.pointer x] W' fun e w' => e = .returned (.bool true) ∧ w' = W') := fun W' hb => nil_is (h.below hb)
  clear h
  go_enter Try.func19, Try.ntmps19
  go_wp2_with (go_at_call 29; refine (HI.out _ (by first | exact Below.refl _ _ | exact Below.new (Below.refl _ _) _ | exact Below.new (Below.new (Below.refl _ _) _) _)).mono ?_; rintro e w1 ⟨rfl, hw1⟩; replace hw1 := hw1.symm; subst hw1)
  go_ret
  exact ⟨rfl, by first | exact Below.refl _ _ | exact Below.new (Below.refl _ _) _ | exact Below.new (Below.new (Below.refl _ _) _) _⟩
theorem nil_copy {W : World} {x : Option Addr} (h : NilF W x) :
    Calls Try.prog 20 #[.pointer x] W fun e w' => e = .returned (.pointer none) ∧ Below W.heap.size W w' := by
  have HI : Hid (∀ W', Below W.heap.size W W' → Calls Try.prog 29 #[.pointer x] W' fun e w' => e = .returned (.bool true) ∧ w' = W') := fun W' hb => nil_is (h.below hb)
  clear h
  go_enter Try.func20, Try.ntmps20
  go_wp2_with (go_at_call 29; refine (HI.out _ (by first | exact Below.refl _ _ | exact Below.new (Below.refl _ _) _ | exact Below.new (Below.new (Below.refl _ _) _) _)).mono ?_; rintro e w1 ⟨rfl, hw1⟩; replace hw1 := hw1.symm; subst hw1)
  go_ret
  exact ⟨rfl, by first | exact Below.refl _ _ | exact Below.new (Below.refl _ _) _ | exact Below.new (Below.new (Below.refl _ _) _) _⟩
theorem nil_put {W : World} {x : Option Addr} (h : NilF W x) (b s g : Int) :
    Calls Try.prog 12 #[.pointer x, .int .u8 b, refV s g] W fun e w' => e = .returned (.int .i64 1) ∧ Below W.heap.size W w' := by
  have HI : Hid (∀ W', Below W.heap.size W W' → Calls Try.prog 29 #[.pointer x] W' fun e w' => e = .returned (.bool true) ∧ w' = W') := fun W' hb => nil_is (h.below hb)
  clear h
  go_enter Try.func12, Try.ntmps12
  go_wp2_with (go_at_call 29; refine (HI.out _ (by first | exact Below.refl _ _ | exact Below.new (Below.refl _ _) _ | exact Below.new (Below.new (Below.refl _ _) _) _)).mono ?_; rintro e w1 ⟨rfl, hw1⟩; replace hw1 := hw1.symm; subst hw1)
  go_ret
  exact ⟨rfl, by first | exact Below.refl _ _ | exact Below.new (Below.refl _ _) _ | exact Below.new (Below.new (Below.refl _ _) _) _⟩
theorem nil_turn {W : World} {x : Option Addr} (h : NilF W x) (b s g : Int) :
    Calls Try.prog 17 #[.pointer x, .int .u8 b, refV s g] W fun e w' => e = .returned (.int .i64 1) ∧ Below W.heap.size W w' := by
  have HI : Hid (∀ W', Below W.heap.size W W' → Calls Try.prog 29 #[.pointer x] W' fun e w' => e = .returned (.bool true) ∧ w' = W') := fun W' hb => nil_is (h.below hb)
  clear h
  go_enter Try.func17, Try.ntmps17
  go_wp2_with (go_at_call 29; refine (HI.out _ (by first | exact Below.refl _ _ | exact Below.new (Below.refl _ _) _ | exact Below.new (Below.new (Below.refl _ _) _) _)).mono ?_; rintro e w1 ⟨rfl, hw1⟩; replace hw1 := hw1.symm; subst hw1)
  go_ret
  exact ⟨rfl, by first | exact Below.refl _ _ | exact Below.new (Below.refl _ _) _ | exact Below.new (Below.new (Below.refl _ _) _) _⟩
theorem nil_find {W : World} {x : Option Addr} (h : NilF W x) (b : Int) :
    Calls Try.prog 15 #[.pointer x, .int .u8 b] W fun e w' => e = .returned (.tuple #[refV 0 0, .bool false]) ∧ Below W.heap.size W w' := by
  obtain ⟨W0, hW0⟩ : ∃ W0, W0 = W.alloc (.cells #[.int .i64 0, .int .u32 0] 35) := ⟨_, rfl⟩
  have low : Below W.heap.size W W0 := by rw [hW0]; first | exact Below.new (Below.refl _ _) _ | exact Below.new (Below.new (Below.refl _ _) _) _
  have br : Fresh W0 (W.heap.size) #[.int .i64 0, .int .u32 0] 35 := by rw [hW0]; exact Fresh.new _ _ _ _ (by simp)
  have HI := Lib.hid (nil_is (h.below low))
  obtain ⟨c0, c1, f0, f1⟩ := br.box2
  have HW0 := Lib.hid hW0
  have HL := Lib.hid low
  have HBR := Lib.hid br
  clear h hW0 low br
  go_enter Try.func15, Try.ntmps15
  go_wp2_with (rw [← HW0.out]; go_at_call 29; refine HI.out.mono ?_; rintro e w1 ⟨rfl, hw1⟩; replace hw1 := hw1.symm; subst hw1)
  obtain ⟨W3, hW3⟩ : ∃ W3, W3 = (W0.setCell ⟨W.heap.size, 0, none⟩ (.int .i64 0)).setCell ⟨W.heap.size, 1, none⟩ (.int .u32 0) := ⟨_, rfl⟩
  have F3 : Fresh W3 (W.heap.size) #[.int .i64 0, .int .u32 0] 35 := by rw [hW3]; exact (HBR.out.set 0 _).set 1 _
  obtain ⟨g0, g1', _, _⟩ := F3.box2
  have B3 : Hid (Below W.heap.size W W3) := by
    show Below _ _ _
    rw [hW3]; exact (HL.out.setCell (by show W.heap.size ≤ W.heap.size; omega) _).setCell (by show W.heap.size ≤ W.heap.size; omega) _
  rw [← hW3]
  clear hW3 F3
  refine bodyPost_ret (v := .tuple #[refV 0 0, .bool false]) ?_ rfl ⟨rfl, B3.out⟩
  rw [results_cell_tmp rfl]
  go_simp
theorem nil_take {W : World} {x : Option Addr} (h : NilF W x) (b : Int) :
    Calls Try.prog 14 #[.pointer x, .int .u8 b] W fun e w' => e = .returned (.tuple #[refV 0 0, .int .i64 1]) ∧ Below W.heap.size W w' := by
  obtain ⟨W0, hW0⟩ : ∃ W0, W0 = W.alloc (.cells #[.int .i64 0, .int .u32 0] 35) := ⟨_, rfl⟩
  have low : Below W.heap.size W W0 := by rw [hW0]; first | exact Below.new (Below.refl _ _) _ | exact Below.new (Below.new (Below.refl _ _) _) _
  have br : Fresh W0 (W.heap.size) #[.int .i64 0, .int .u32 0] 35 := by rw [hW0]; exact Fresh.new _ _ _ _ (by simp)
  have HI := Lib.hid (nil_is (h.below low))
  obtain ⟨c0, c1, f0, f1⟩ := br.box2
  have HW0 := Lib.hid hW0
  have HL := Lib.hid low
  have HBR := Lib.hid br
  clear h hW0 low br
  go_enter Try.func14, Try.ntmps14
  go_wp2_with (rw [← HW0.out]; go_at_call 29; refine HI.out.mono ?_; rintro e w1 ⟨rfl, hw1⟩; replace hw1 := hw1.symm; subst hw1)
  obtain ⟨W3, hW3⟩ : ∃ W3, W3 = (W0.setCell ⟨W.heap.size, 0, none⟩ (.int .i64 0)).setCell ⟨W.heap.size, 1, none⟩ (.int .u32 0) := ⟨_, rfl⟩
  have F3 : Fresh W3 (W.heap.size) #[.int .i64 0, .int .u32 0] 35 := by rw [hW3]; exact (HBR.out.set 0 _).set 1 _
  obtain ⟨g0, g1', _, _⟩ := F3.box2
  have B3 : Hid (Below W.heap.size W W3) := by
    show Below _ _ _
    rw [hW3]; exact (HL.out.setCell (by show W.heap.size ≤ W.heap.size; omega) _).setCell (by show W.heap.size ≤ W.heap.size; omega) _
  rw [← hW3]
  clear hW3 F3
  refine bodyPost_ret (v := .tuple #[refV 0 0, .int .i64 1]) ?_ rfl ⟨rfl, B3.out⟩
  rw [results_cell_tmp rfl]
  go_simp
theorem nil_next {W : World} {x : Option Addr} (h : NilF W x) (f : Int) :
    Calls Try.prog 16 #[.pointer x, .int .i64 f] W fun e w' => e = .returned (.tuple #[.int .u8 0, refV 0 0, .bool false]) ∧ Below W.heap.size W w' := by
  obtain ⟨W0, hW0⟩ : ∃ W0, W0 = (((W.alloc (.cells #[.pointer x] 24)).alloc (.cells #[.int .u8 0] 5)).alloc (.cells #[.int .i64 0, .int .u32 0] 35)).alloc (.cells #[.bool false] 4) := ⟨_, rfl⟩
  have B0 : Below W.heap.size W W0 := by rw [hW0]; exact Below.new (Below.new (Below.new (Below.new (Below.refl _ _) _) _) _) _
  have fp : Fresh W0 W.heap.size #[.pointer x] 24 := by rw [hW0]; exact (((Fresh.new _ _ _ _ rfl).alloc _).alloc _).alloc _
  have O0 : Out3 W0 W.heap.size 0 0 0 false := by
    rw [hW0]
    exact ⟨((Fresh.new _ _ _ _ (by simp)).alloc _).alloc _, (Fresh.new _ _ _ _ (by simp)).alloc _, Fresh.new _ _ _ _ (by simp)⟩
  have HI := Lib.hid (nil_is (h.below B0))
  have c0 := (fp.cell 0).trans rfl
  have o1 := (O0.b1.cell 0).trans rfl
  have o2 := (O0.b2.cell 0).trans rfl
  have o3 := (O0.b2.cell 1).trans rfl
  have o4 := (O0.b3.cell 0).trans rfl
  have t1 := O0.b1.thawed 0
  have t2 := O0.b2.thawed 0
  have t3 := O0.b2.thawed 1
  have t4 := O0.b3.thawed 0
  simp only [List.getElem?_toArray, List.getElem?_cons_zero, List.getElem?_cons_succ] at c0 o1 o2 o3 o4
  have HO := Lib.hid O0
  have HB0 := Lib.hid B0
  have HW0 := Lib.hid hW0
  clear h fp O0 B0 hW0
  refine (callsIn_wide (n := 10)).1 ?_
  refine callsIn_of_wp_marks Try.func16 rfl trivial ?_ rfl
  simp only [Try.ntmps16, List.size_toArray, List.length_cons, List.length_nil, Nat.reduceAdd, Nat.reduceSub, Array.replicate_succ, Array.replicate_zero, List.push_toArray, List.append_toArray, List.nil_append, List.cons_append]
  refine wpIn_wide.2 ?_
  refine wp_mono (Q := calmQ _) ?_ calmQ_out
  go_upto_region 1 with fail
  rw [← HW0.out]
  go_wp2_with (go_at_call 29; refine HI.out.mono ?_; rintro e' w2 ⟨rfl, hw2⟩; replace hw2 := hw2.symm; subst hw2)
  obtain ⟨W7, hW7⟩ : ∃ W7, W7 = (((W0.setCell ⟨W.heap.size + 1, 0, none⟩ (.int .u8 0)).setCell ⟨W.heap.size + 1 + 1, 0, none⟩ (.int .i64 0)).setCell ⟨W.heap.size + 1 + 1, 1, none⟩ (.int .u32 0)).setCell ⟨W.heap.size + 1 + 1 + 1, 0, none⟩ (.bool false) := ⟨_, rfl⟩
  rw [← hW7]
  have O7 : Out3 W7 W.heap.size 0 0 0 false := by
    obtain ⟨x1, x2, x3⟩ := HO.out
    rw [hW7]
    refine ⟨?_, ?_, ?_⟩
    · exact (((x1.set 0 (.int .u8 0)).other (q := W.heap.size + 1 + 1) (by omega) 0 (.int .i64 0)).other (q := W.heap.size + 1 + 1) (by omega) 1 (.int .u32 0)).other (q := W.heap.size + 1 + 1 + 1) (by omega) 0 (.bool false)
    · exact (((x2.other (q := W.heap.size + 1) (by omega) 0 (.int .u8 0)).set 0 (.int .i64 0)).set 1 (.int .u32 0)).other (q := W.heap.size + 1 + 1 + 1) (by omega) 0 (.bool false)
    · exact (((x3.other (q := W.heap.size + 1) (by omega) 0 (.int .u8 0)).other (q := W.heap.size + 1 + 1) (by omega) 0 (.int .i64 0)).other (q := W.heap.size + 1 + 1) (by omega) 1 (.int .u32 0)).set 0 (.bool false)
  have B7 : Below W.heap.size W W7 := by
    rw [hW7]
    exact (((HB0.out.setCell (p := ⟨W.heap.size + 1, 0, none⟩) (by show W.heap.size ≤ W.heap.size + 1; omega) _).setCell (p := ⟨W.heap.size + 1 + 1, 0, none⟩) (by show W.heap.size ≤ W.heap.size + 1 + 1; omega) _).setCell (p := ⟨W.heap.size + 1 + 1, 1, none⟩) (by show W.heap.size ≤ W.heap.size + 1 + 1; omega) _).setCell (p := ⟨W.heap.size + 1 + 1 + 1, 0, none⟩) (by show W.heap.size ≤ W.heap.size + 1 + 1 + 1; omega) _
  clear hW7
  have u1 := (O7.b1.cell 0).trans rfl
  have u2 := (O7.b2.cell 0).trans rfl
  have u3 := (O7.b2.cell 1).trans rfl
  have u4 := (O7.b3.cell 0).trans rfl
  simp only [List.getElem?_toArray, List.getElem?_cons_zero, List.getElem?_cons_succ] at u1 u2 u3 u4
  exact calm_ret (v := .tuple #[.int .u8 0, refV 0 0, .bool false]) rfl (by simp [results, Try.f16, go_sem, u1, u2, u3, u4]) ⟨rfl, B7⟩
theorem nil_all (x : Option Addr) (w : World) : Calls Try.prog 13 #[.pointer x] w fun e w' => e = .returned (.func (.func 32) #[] #[.pointer (some ⟨w.heap.size, 0, none⟩)]) ∧ w' = w.alloc (.cells #[.pointer x] 24) := by
  have hmf := @makeFunc_run Try.prog
  go_enter Try.func13, Try.ntmps13
  go_wp2
  go_ret
  exact ⟨rfl, rfl⟩
theorem nil_own (n : Nat) (hn : 3 ≤ n) (b : Nat) (w : World) (x : Option Addr) (h : NilF w x) (hb : w.cell? ⟨b, 0, none⟩ = some (.pointer x)) (encs : Unit → Array Value) :
    SeqOwn Fence.wide n Try.prog 32 #[.pointer (some ⟨b, 0, none⟩)] encs (fun _ _ => True) (fun ys => ys = []) (fun _ => False) (fun _ => False) w := by
  intro l J Jx W hW hsz hJ hJx hY h0
  have hbl := cell_lt hb
  have hN := h.below hW
  have hbW : W.cell? ⟨b, 0, none⟩ = some (.pointer x) := (hW.cell (p := ⟨b, 0, none⟩) hbl).trans hb
  have hbW' : b < W.heap.size := by
    have : b < w.heap.size := hbl
    have := hW.size
    omega
  have HI : Hid (∀ W', Below W.heap.size W W' → Calls Try.prog 29 #[.pointer x] W' fun e w' => e = .returned (.bool true) ∧ w' = W') := fun W' hb => nil_is (hN.below hb)
  have HJ : Hid (∀ o, J [] (W.alloc o)) := fun o => hJ.alloc o h0
  clear hW h hb hbl hsz hN hJ hJx hY h0
  refine callsIn_of_wp_marks Try.func32 rfl trivial ?_ rfl
  simp only [Try.ntmps32, List.size_toArray, List.length_cons, List.length_nil, Nat.reduceAdd, Nat.reduceSub, Array.replicate_succ, Array.replicate_zero, List.push_toArray, List.append_toArray, List.nil_append, List.cons_append]
  gi_wp2_with (refine ⟨trivial, fun _ => by omega, ?_⟩; gi_at_call 29; refine (callsIn_wide.2 (HI.out _ (Below.new (Below.refl _ _) _))).mono ?_; rintro e w2 ⟨rfl, hw2⟩; replace hw2 := hw2.symm; subst hw2)
  refine ⟨_, results_none rfl _ _ _, ⟨_, rfl⟩, .inl ⟨[], rfl, HJ.out _⟩⟩
end Go.Proofs.Ytiifogbdoajnoaa
