/- none: a slab that does not exist. -/
import Derived.Test.YtbbadkgmnfjfaaaNilS
import Derived.LoopN
import Derived.Deep.DeepCutAuto
namespace Go.Proofs.Ytbbadkgmnfjfaaa
open Go.RowKit
set_option maxRecDepth 100000
set_option maxHeartbeats 8000000

theorem calm_ret2 {F : Fence} {n : Nat} {P : Program} {fn : Func} {R : Ending → World → Prop} {a : Act} {w : World} {v : Value} {D E : Nat} (hd : a.defers = [{ target := .collected D, args := #[] }, { target := .collected E, args := #[] }]) (hD : w.heap[D]? = some (.deferred (some []))) (hE : w.heap[E]? = some (.deferred (some []))) (hne : E ≠ D)
    (hr : (results fn a.tmps).run P ((w.putObj D (.deferred none)).putObj E (.deferred none)) = .ok v ((w.putObj D (.deferred none)).putObj E (.deferred none))) (h : R (.returned v) ((w.putObj D (.deferred none)).putObj E (.deferred none))) : calmQ (bodyPostM F n P fn R) .ret a w := by
  show LeavesInM F n P fn a.tmps R a.defers .returning w
  rw [hd]
  exact ⟨by simp, .inl ⟨_, _, rfl, run_takeDeferred hD, by simp, .inl ⟨_, _, rfl, run_takeDeferred ((World.putObj_heap_other hne).trans hE), v, hr, h⟩⟩⟩
/-- What stays in the world while none runs. -/
structure NoneAt (b : Nat) (V : World) : Prop where
  f0 : Fresh V b #[.bool false] 4
  fz : Fresh V (b + 1) #[.pointer none] 67
  fg : Fresh V (b + 1 + 1) #[.pointer none, .pointer (some ⟨b + 1, 0, none⟩)] 24
theorem NoneAt.below {b : Nat} {V V' : World} (h : NoneAt b V) (hb : Below V.heap.size V V') : NoneAt b V' := ⟨h.f0.below hb, h.fz.below hb, h.fg.below hb⟩
theorem NoneAt.nil {b : Nat} {V : World} (h : NoneAt b V) : NilS V (some ⟨b + 1, 0, none⟩) := .inr ⟨_, rfl, h.fz⟩
theorem none_any (w : World) :
    Calls Try.prog 16 #[] w fun e w' => e = .returned (.bool true) ∧ Below w.heap.size w w' := by
  refine (callsIn_wide (n := 10)).1 ?_
  refine callsIn_of_wp_marks Try.func16 rfl trivial ?_ rfl
  simp only [Try.ntmps16, List.size_toArray, List.length_cons, List.length_nil, Nat.reduceAdd, Nat.reduceSub, Array.replicate_succ, Array.replicate_zero, List.push_toArray, List.append_toArray, List.nil_append, List.cons_append]
  refine wpIn_wide.2 ?_
  refine wp_mono (Q := calmQ _) ?_ calmQ_out
  go_wp2_with fail
  obtain ⟨V0, hV0⟩ : ∃ V, V = ((w.alloc (.cells #[.bool false] 4)).alloc (.cells #[.pointer none] 67)).alloc (.cells #[.pointer none, .pointer (some ⟨w.heap.size + 1, 0, none⟩)] 24) := ⟨_, rfl⟩
  have HB0 : Hid (Below w.heap.size w V0) := by show Below _ _ _; rw [hV0]; exact Below.new (Below.new (Below.new (Below.refl _ _) _) _) _
  have HN0 : Hid (NoneAt w.heap.size V0) := by
    show NoneAt _ _
    rw [hV0]
    exact ⟨((Fresh.new _ _ _ _ rfl).alloc _).alloc _, (Fresh.new _ _ _ _ (by simp)).alloc _, Fresh.new _ _ _ _ (by simp)⟩
  rw [← hV0]
  clear hV0
  have HZ0 : Hid (w.heap.size ≤ V0.heap.size) := HB0.out.size
  refine wp_loop_rounds 3 ?_
  rw [rounds_succ]
  have g00 := HN0.out.fg.cell 0
  simp only [List.getElem?_toArray, List.getElem?_cons_zero, List.getElem?_cons_succ] at g00
  go_wp2_with fail
  refine (nil_take 1 (Or.inl rfl : NilS _ none)).mono ?_
  rintro e v1 ⟨rfl, hb1⟩
  obtain ⟨u0, hu0⟩ : ∃ u, u = v1.alloc (.cells #[.int .i64 0, .int .u32 0] 36) := ⟨_, rfl⟩
  have HU0 := Lib.hid hu0
  have HBU0 : Hid (Below V0.heap.size V0 u0) := by show Below _ _ _; rw [hu0]; exact Below.new hb1 _
  have HFU0 : Hid (Fresh u0 v1.heap.size #[.int .i64 0, .int .u32 0] 36) := by show Fresh _ _ _ _; rw [hu0]; exact Fresh.new _ _ _ _ rfl
  clear hu0 hb1 g00
  go_wp2_with fail
  rw [← HU0.out]
  refine (nil_get 0 1 (Or.inl rfl : NilS _ none)).mono ?_
  rintro e v2 ⟨rfl, hb2⟩
  have HB2 := Lib.hid (Below.step HBU0.out hb2)
  have HBF2 := Lib.hid hb2
  clear hb2
  go_wp2_with (go_at_call 13; refine (all_ptr _ _).mono ?_; rintro e WL ⟨rfl, hWL⟩; have HWL := Lib.hid hWL; clear hWL)
  have BL : Below v2.heap.size v2 WL := by rw [HWL.out]; exact Below.new (Below.refl _ _) _
  have fs : Fresh WL v2.heap.size #[.pointer none] 24 := by rw [HWL.out]; exact Fresh.new _ _ _ _ rfl
  have BVL := Below.step HB2.out BL
  have szL : WL.heap.size = v2.heap.size + 1 := by rw [HWL.out]; simp
  refine (wpIn_wide (n := 10)).1 ?_
  refine range_box rfl (by omega) (gf := 35) (lb := #[.pointer (some ⟨v2.heap.size, 0, none⟩)]) rfl trivial (enters_of Try.func35 (by kernel_rfl) rfl)
    (nil_own 9 (by omega) v2.heap.size WL none (Or.inl rfl : NilS _ none) (fs.cell 0) (by omega) (fun _ => #[undef, undef]))
    (fun _ _ => trivial) (fun _ _ _ => trivial) (Below.refl _ _) (fun _ => rfl)
    (fun _ Wc => Below WL.heap.size WL Wc) (fun _ _ _ => False) (ownFrom_below (Nat.le_refl _) (Nat.le_refl _)) (fun _ _ _ _ _ h _ _ => h) (Below.refl _ _)
    (fun _ _ _ => False) (fun _ _ _ _ _ _ h _ _ => h) (fun _ _ _ _ _ hG => hG.elim) (fun _ _ _ _ _ hG => hG.elim) ?_ (fun _ _ _ _ _ h => h.elim)
  rintro D0 xs V5 hD0 _ hB5 hD5
  have HD0 : Hid (WL.heap.size ≤ D0 ∧ D0 < V5.heap.size) := ⟨hD0, (Array.getElem?_eq_some_iff.1 hD5).1⟩
  have HB5 := Lib.hid (Below.step BVL hB5)
  have HF5 := Lib.hid (HFU0.out.below (Below.step (Below.step HBF2.out BL) hB5))
  have HDD0 := Lib.hid hD5
  have HLW0 : Hid (V0.heap.size ≤ WL.heap.size) := BVL.size
  have c0 := HF5.out.cell 0
  have c1 := HF5.out.cell 1
  simp only [List.getElem?_toArray, List.getElem?_cons_zero, List.getElem?_cons_succ] at c0 c1
  clear BL fs BVL szL hD0 hB5 hD5
  go_wp2_with fail
  refine (nil_free 0 0 (Or.inl rfl : NilS _ none)).mono ?_
  rintro e v6 ⟨rfl, hb6⟩
  have HB6 := Lib.hid (Below.step HB5.out hb6)
  have HX6 := Lib.hid hb6
  have d0 := (HF5.out.below hb6).cell 0
  have d1 := (HF5.out.below hb6).cell 1
  simp only [List.getElem?_toArray, List.getElem?_cons_zero, List.getElem?_cons_succ] at d0 d1
  clear hb6 c0 c1
  go_wp2_with fail
  refine (nil_set 0 0 1 (Or.inl rfl : NilS _ none)).mono ?_
  rintro e v7 ⟨rfl, hb7⟩
  have HB7 := Lib.hid (Below.step HB6.out hb7)
  have HX7 := Lib.hid (Below.step HX6.out hb7)
  clear hb7 d0 d1
  go_wp2_with fail
  refine (nil_len (Or.inl rfl : NilS _ none)).mono ?_
  rintro e v8 ⟨rfl, hb8⟩
  have HB8 := Lib.hid (Below.step HB7.out hb8)
  have HX8 := Lib.hid (Below.step HX7.out hb8)
  clear hb8
  go_wp2_with fail
  refine (nil_left (Or.inl rfl : NilS _ none)).mono ?_
  rintro e v9 ⟨rfl, hb9⟩
  have HB9 := Lib.hid (Below.step HB8.out hb9)
  have HX9 := Lib.hid (Below.step HX8.out hb9)
  clear hb9
  go_wp2_with fail
  refine (nil_copy (Or.inl rfl : NilS _ none)).mono ?_
  rintro e V1 ⟨rfl, hb10⟩
  have HN1 := Lib.hid (HN0.out.below (Below.step HB9.out hb10))
  have HB1' := Lib.hid (HB0.out.trans ((Below.step HB9.out hb10).mono HB0.out.size))
  have HE0 : Hid (V1.heap[D0]? = some (.deferred (some [])) ∧ D0 < V1.heap.size) := ⟨((Below.step HX9.out hb10).block D0 HD0.out.2).trans HDD0.out, by have := (Below.step HX9.out hb10).size; have := HD0.out.2; omega⟩
  clear hb10 HB2 HBF2 HB5 HF5 HB6 HX6 HB7 HX7 HB8 HX8 HB9 HX9 HWL HU0 HBU0 HFU0 HB0
  have HB1 := HB1'
  clear HB1'
  go_wp2_with fail
  rw [rounds_succ]
  have g10 := HN1.out.fg.cell 1
  simp only [List.getElem?_toArray, List.getElem?_cons_zero, List.getElem?_cons_succ] at g10
  go_wp2_with fail
  refine (nil_take 1 (HN1.out.nil)).mono ?_
  rintro e v1 ⟨rfl, hb1⟩
  obtain ⟨u1, hu1⟩ : ∃ u, u = v1.alloc (.cells #[.int .i64 0, .int .u32 0] 36) := ⟨_, rfl⟩
  have HU1 := Lib.hid hu1
  have HBU1 : Hid (Below V1.heap.size V1 u1) := by show Below _ _ _; rw [hu1]; exact Below.new hb1 _
  have HFU1 : Hid (Fresh u1 v1.heap.size #[.int .i64 0, .int .u32 0] 36) := by show Fresh _ _ _ _; rw [hu1]; exact Fresh.new _ _ _ _ rfl
  clear hu1 hb1 g10
  go_wp2_with fail
  rw [← HU1.out]
  refine (nil_get 0 1 ((HN1.out.below HBU1.out).nil)).mono ?_
  rintro e v2 ⟨rfl, hb2⟩
  have HB2 := Lib.hid (Below.step HBU1.out hb2)
  have HBF2 := Lib.hid hb2
  clear hb2
  go_wp2_with (go_at_call 13; refine (all_ptr _ _).mono ?_; rintro e WL ⟨rfl, hWL⟩; have HWL := Lib.hid hWL; clear hWL)
  have BL : Below v2.heap.size v2 WL := by rw [HWL.out]; exact Below.new (Below.refl _ _) _
  have fs : Fresh WL v2.heap.size #[.pointer (some ⟨w.heap.size + 1, 0, none⟩)] 24 := by rw [HWL.out]; exact Fresh.new _ _ _ _ rfl
  have BVL := Below.step HB2.out BL
  have szL : WL.heap.size = v2.heap.size + 1 := by rw [HWL.out]; simp
  refine (wpIn_wide (n := 10)).1 ?_
  refine range_box rfl (by omega) (gf := 35) (lb := #[.pointer (some ⟨v2.heap.size, 0, none⟩)]) rfl trivial (enters_of Try.func35 (by kernel_rfl) rfl)
    (nil_own 9 (by omega) v2.heap.size WL (some ⟨w.heap.size + 1, 0, none⟩) ((HN1.out.below BVL).nil) (fs.cell 0) (by omega) (fun _ => #[undef, undef]))
    (fun _ _ => trivial) (fun _ _ _ => trivial) (Below.refl _ _) (fun _ => rfl)
    (fun _ Wc => Below WL.heap.size WL Wc) (fun _ _ _ => False) (ownFrom_below (Nat.le_refl _) (Nat.le_refl _)) (fun _ _ _ _ _ h _ _ => h) (Below.refl _ _)
    (fun _ _ _ => False) (fun _ _ _ _ _ _ h _ _ => h) (fun _ _ _ _ _ hG => hG.elim) (fun _ _ _ _ _ hG => hG.elim) ?_ (fun _ _ _ _ _ h => h.elim)
  rintro D1 xs V5 hD1 _ hB5 hD5
  have HD1 : Hid (WL.heap.size ≤ D1 ∧ D1 < V5.heap.size) := ⟨hD1, (Array.getElem?_eq_some_iff.1 hD5).1⟩
  have HB5 := Lib.hid (Below.step BVL hB5)
  have HF5 := Lib.hid (HFU1.out.below (Below.step (Below.step HBF2.out BL) hB5))
  have HDD1 := Lib.hid hD5
  have HLW1 : Hid (V1.heap.size ≤ WL.heap.size) := BVL.size
  have c0 := HF5.out.cell 0
  have c1 := HF5.out.cell 1
  simp only [List.getElem?_toArray, List.getElem?_cons_zero, List.getElem?_cons_succ] at c0 c1
  clear BL fs BVL szL hD1 hB5 hD5
  go_wp2_with fail
  refine (nil_free 0 0 ((HN1.out.below HB5.out).nil)).mono ?_
  rintro e v6 ⟨rfl, hb6⟩
  have HB6 := Lib.hid (Below.step HB5.out hb6)
  have HX6 := Lib.hid hb6
  have d0 := (HF5.out.below hb6).cell 0
  have d1 := (HF5.out.below hb6).cell 1
  simp only [List.getElem?_toArray, List.getElem?_cons_zero, List.getElem?_cons_succ] at d0 d1
  clear hb6 c0 c1
  go_wp2_with fail
  refine (nil_set 0 0 1 ((HN1.out.below HB6.out).nil)).mono ?_
  rintro e v7 ⟨rfl, hb7⟩
  have HB7 := Lib.hid (Below.step HB6.out hb7)
  have HX7 := Lib.hid (Below.step HX6.out hb7)
  clear hb7 d0 d1
  go_wp2_with fail
  refine (nil_len ((HN1.out.below HB7.out).nil)).mono ?_
  rintro e v8 ⟨rfl, hb8⟩
  have HB8 := Lib.hid (Below.step HB7.out hb8)
  have HX8 := Lib.hid (Below.step HX7.out hb8)
  clear hb8
  go_wp2_with fail
  refine (nil_left ((HN1.out.below HB8.out).nil)).mono ?_
  rintro e v9 ⟨rfl, hb9⟩
  have HB9 := Lib.hid (Below.step HB8.out hb9)
  have HX9 := Lib.hid (Below.step HX8.out hb9)
  clear hb9
  go_wp2_with fail
  refine (nil_copy ((HN1.out.below HB9.out).nil)).mono ?_
  rintro e V2 ⟨rfl, hb10⟩
  have HN2 := Lib.hid (HN1.out.below (Below.step HB9.out hb10))
  have HB2' := Lib.hid (HB1.out.trans ((Below.step HB9.out hb10).mono HB1.out.size))
  have HE1 : Hid (V2.heap[D1]? = some (.deferred (some [])) ∧ D1 < V2.heap.size) := ⟨((Below.step HX9.out hb10).block D1 HD1.out.2).trans HDD1.out, by have := (Below.step HX9.out hb10).size; have := HD1.out.2; omega⟩
  have HE0b : Hid (V2.heap[D0]? = some (.deferred (some []))) := ((Below.step HB9.out hb10).block D0 HE0.out.2).trans HE0.out.1
  clear hb10 HB2 HBF2 HB5 HF5 HB6 HX6 HB7 HX7 HB8 HX8 HB9 HX9 HWL HU1 HBU1 HFU1 HB1
  have HB2 := HB2'
  clear HB2'
  go_wp2_with fail
  rw [rounds_succ]
  have g20 := HN2.out.f0.cell 0
  have g2f := HN2.out.f0.thawed 0
  simp only [List.getElem?_toArray, List.getElem?_cons_zero, List.getElem?_cons_succ] at g20
  go_wp2_with fail
  obtain ⟨V3, hV3⟩ : ∃ V, V = V2.setCell ⟨w.heap.size, 0, none⟩ (.bool true) := ⟨_, rfl⟩
  rw [← hV3]
  have k3 : KeepsOthers V2 V3 := by rw [hV3]; exact KeepsOthers.setCell _ _ _
  have f3 : Fresh V3 w.heap.size #[.bool true] 4 := by rw [hV3]; have := HN2.out.f0.set 0 (.bool true); simpa using this
  have b3 : Below w.heap.size w V3 := by rw [hV3]; exact HB2.out.setCell (Nat.le_refl _) _
  clear hV3
  have e1 : V3.heap[D1]? = some (.deferred (some [])) := k3.same _ _ HE1.out.1 rfl
  have e0 : V3.heap[D0]? = some (.deferred (some [])) := k3.same _ _ HE0b.out rfl
  have z1 := HD1.out.1
  have z2 := HLW1.out
  have z3 := HE0.out.2
  have z4 := HD0.out.1
  have z5 := HLW0.out
  have z6 := HZ0.out
  have hg1 := grownBy_putObj' V3 D1 (.deferred none)
  have e0' : (V3.putObj D1 (.deferred none)).heap[D0]? = some (.deferred (some [])) := (World.putObj_heap_other (by omega)).trans e0
  have hg2 := grownBy_putObj' (V3.putObj D1 (.deferred none)) D0 (.deferred none)
  have f4 := (f3.kept hg1 (fun r e => by cases e; exact ⟨_, e1, rfl⟩)).kept hg2 (fun r e => by cases e; exact ⟨_, e0', rfl⟩)
  have u0 := f4.cell 0
  simp only [List.getElem?_toArray, List.getElem?_cons_zero] at u0
  have b4 := (b3.grown hg1 (by have := b3.size; exact this) (fun r e => by cases e; omega)).grown hg2 (by have := b3.size; simp; exact this) (fun r e => by cases e; omega)
  exact calm_ret2 (v := .bool true) rfl e1 e0 (by omega) (by simp [results, Try.f16, go_sem, u0]) ⟨rfl, b4⟩
end Go.Proofs.Ytbbadkgmnfjfaaa
