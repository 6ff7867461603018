/- A table of locks: the contracts of Add and New. -/
import Derived.Test.YthhmbmeajgjhcaaOps
import Derived.Test.YthhmbmeajgjhcaaBegin
namespace Go.Proofs.Ythhmbmeajgjhcaa
open Go.RowKit
set_option maxRecDepth 100000
set_option maxHeartbeats 4000000

theorem Turned.ofDrew {S : List Nat} {W W' : World} (h : Turned S W.drew W') : Turned S W W' := ⟨h.os, h.tape, h.output, h.size, h.block⟩
theorem At.drew {W : World} {p a m : Nat} {s : Lk} (h : At W p a m s) : At W.drew p a m s := ⟨h.hp.drew, h.ha.drew, by obtain ⟨es, c, hb, hi⟩ := h.hm; exact ⟨es, c, hb, hi⟩, h.uniq⟩
theorem At.pa {W : World} {p a m : Nat} {s : Lk} (h : At W p a m s) : p ≠ a := by
  rintro rfl
  have h1 := h.hp
  have h2 := h.ha
  unfold Fresh at h1 h2
  rw [h1] at h2
  simp at h2
/-- The map is changed. -/
theorem At.put {W : World} {p a m : Nat} {s : Lk} (h : At W p a m s) (x g w : Int) (hr : RefOk x g) : ∃ o, (Instr.mapUpdate 59 (.map (some m)) (refV x g) (.int .u64 w)).run Try.prog W = .ok () (setObj W m o) ∧ At (setObj W m o) p a m { s with l := putW s.l x g w } := by
  obtain ⟨es, c, hb, hi⟩ := h.hm
  obtain ⟨es', cl', hi', hput⟩ := run_put hi h.uniq hb x g w hr
  exact ⟨.map es' cl', hput, h.hp.setObj (h.hm.ne h.hp) _, h.ha.setObj (h.hm.ne h.ha) _, ⟨es', cl', setObj_at h.hm.lt _, hi'⟩, uniq_put h.uniq _ _ _⟩
theorem At.del {W : World} {p a m : Nat} {s : Lk} (h : At W p a m s) (x g : Int) (hr : RefOk x g) : ∃ o, (∀ ty : TypeId, (Builtin.delete_ #[59, 33] ty #[.map (some m), refV x g]).run Try.prog W = .ok (.tuple #[]) (setObj W m o)) ∧ At (setObj W m o) p a m { s with l := delW s.l x g } := by
  obtain ⟨es, c, hb, hi⟩ := h.hm
  obtain ⟨es', hi', hdel⟩ := run_del hi h.uniq hb x g hr
  exact ⟨.map es' c, hdel, h.hp.setObj (h.hm.ne h.hp) _, h.ha.setObj (h.hm.ne h.ha) _, ⟨es', c, setObj_at h.hm.lt _, hi'⟩, uniq_del h.uniq _ _⟩

theorem run_makeMap {P : Program} (t : TypeId) (w : World) : (Instr.makeMap t none).run P w = .ok (.map (some w.heap.size)) (w.alloc (.map #[] 0)) := rfl
theorem new_any (w : World) :
    Calls Try.prog 8 #[] w fun e w' => ∃ p a m, w.heap.size ≤ p ∧ w.heap.size ≤ a ∧ w.heap.size ≤ m ∧ e = .returned (.pointer (some ⟨p, 0, none⟩)) ∧ Below w.heap.size w w' ∧ At w' p a m ⟨0, 0, []⟩ := by
  have hmm := @run_makeMap Try.prog
  go_enter Try.func8, Try.ntmps8
  go_wp2_with fail
  go_ret
  refine ⟨w.heap.size + 1 + 1, w.heap.size + 1, w.heap.size, by omega, by omega, by omega, rfl, Below.new (Below.new (Below.new (Below.refl _ _) _) _) _, ?_, ?_, ?_, ?_⟩
  · exact Fresh.new _ _ _ _ (by simp)
  · exact (Fresh.new _ _ _ _ (by simp)).alloc _
  · refine ⟨#[], 0, ?_, rfl, by simp⟩
    have h1 := heap_alloc_new w (.map #[] 0)
    have B := Below.new (Below.new (Below.refl (w.alloc (.map #[] 0)).heap.size (w.alloc (.map #[] 0))) (.cells #[.map (some w.heap.size), .int .i64 0, .int .i64 0] 61)) (.cells #[.pointer (some ⟨w.heap.size + 1, 0, none⟩)] 46)
    exact (B.block _ (by simp)).trans h1
  · exact List.Pairwise.nil

/-- The reference of a call is boxed. -/
structure Boxed (W W1 : World) (p a m : Nat) (s : Lk) (x g : Int) : Prop where
  is : W1 = W.alloc (.cells #[.int .i64 x, .int .u32 g] 33)
  at' : At W1 p a m s
  box : Fresh W1 W.heap.size #[.int .i64 x, .int .u32 g] 33
  low : Below W.heap.size W W1
theorem At.boxed {W : World} {p a m : Nat} {s : Lk} (h : At W p a m s) (x g : Int) : ∃ W1, Boxed W W1 p a m s x g := by
  refine ⟨_, rfl, h.below ?_, Fresh.new _ _ _ _ rfl, ?_⟩ <;> exact Below.new (Below.refl _ _) _
theorem Boxed.ref {W W1 : World} {p a m : Nat} {s : Lk} {x g : Int} (h : Boxed W W1 p a m s x g) : W1.cell? ⟨W.heap.size, 0, none⟩ = some (.int .i64 x) ∧ W1.cell? ⟨W.heap.size, 1, none⟩ = some (.int .u32 g) := ⟨h.box.cell 0, h.box.cell 1⟩

theorem add_arg {W : World} {p a m : Nat} {s : Lk} (h : At W p a m s) (x g : Int) (hr : ¬ (0 ≤ x ∧ x < 4096 ∧ 1 ≤ g)) :
    Calls Try.prog 13 #[.pointer (some ⟨p, 0, none⟩), refV x g] W fun e w' => e = .returned (.int .i64 2) ∧ Turned [a, m] W w' ∧ At w' p a m s := by
  obtain ⟨W1, hx⟩ := h.boxed x g
  have HX := Lib.hid hx
  have HI := Lib.hid (isNil_any hx.at')
  have HW := Lib.hid hx.is
  obtain ⟨r0, r1⟩ := hx.ref
  obtain ⟨c, c0, c1, c2⟩ := hx.at'.cells
  clear h hx
  have hc : decide (x < 0) = true ∨ (decide (x < 0) = false ∧ decide (4096 ≤ x) = true) ∨ (decide (x < 0) = false ∧ decide (4096 ≤ x) = false ∧ decide (g < 1) = true) := by
    simp only [decide_eq_true_eq, decide_eq_false_iff_not]; omega
  clear hr
  rcases hc with q1 | ⟨q1, q2⟩ | ⟨q1, q2, q3⟩
  all_goals
    go_enter Try.func13, Try.ntmps13
    go_upto_region 1 with fail
    rw [← HW.out]
    go_wp2_with fail
    refine HI.out.mono ?_
    rintro e w1 ⟨rfl, hw1⟩
    obtain rfl := hw1
    go_wp2_with fail
    go_ret
    exact ⟨rfl, .of_below HX.out.low, HX.out.at'⟩

theorem add_twice {W : World} {p a m : Nat} {s : Lk} (h : At W p a m s) (x g : Int) (hr : RefOk x g) (h1 : 0 ≤ x ∧ x < 4096 ∧ 1 ≤ g) (t : Wd) (hg : getW s.l x g = some t) :
    Calls Try.prog 13 #[.pointer (some ⟨p, 0, none⟩), refV x g] W fun e w' => e = .returned (.int .i64 8) ∧ Turned [a, m] W w' ∧ At w' p a m s := by
  obtain ⟨W1, hx⟩ := h.boxed x g
  have HX := Lib.hid hx
  have HI := Lib.hid (isNil_any hx.at')
  have HW := Lib.hid hx.is
  obtain ⟨r0, r1⟩ := hx.ref
  obtain ⟨c, c0, c1, c2⟩ := hx.at'.cells
  have q1 : decide (x < 0) = false := decide_eq_false (by omega)
  have q2 : decide (4096 ≤ x) = false := decide_eq_false (by omega)
  have q3 : decide (g < 1) = false := decide_eq_false (by omega)
  have l0 := hx.at'.look x g hr
  have l1 := hx.at'.drew.look x g hr
  rw [hg] at l0 l1
  simp only [Option.isSome_some] at l0 l1
  obtain ⟨z, hz⟩ : ∃ z, zeroW (some t) = z := ⟨_, rfl⟩
  rw [hz] at l0 l1
  clear h hx h1 hr hg hz
  go_enter Try.func13, Try.ntmps13
  go_upto_region 1 with fail
  rw [← HW.out]
  go_wp2_with fail
  refine HI.out.mono ?_
  rintro e w1 ⟨rfl, hw1⟩
  obtain rfl := hw1
  go_wp2_with fail
  go_region
  go_wp2_with fail
  go_ret
  exact ⟨rfl, .of_below HX.out.low.drew, HX.out.at'.drew⟩

theorem add_yes {W : World} {p a m : Nat} {s : Lk} (h : At W p a m s) (x g : Int) (hr : RefOk x g) (h1 : 0 ≤ x ∧ x < 4096 ∧ 1 ≤ g) (hg : getW s.l x g = none) :
    Calls Try.prog 13 #[.pointer (some ⟨p, 0, none⟩), refV x g] W fun e w' => e = .returned (.int .i64 0) ∧ Turned [a, m] W w' ∧ At w' p a m { s with l := putW s.l x g 0 } := by
  obtain ⟨W1, hx⟩ := h.boxed x g
  have HX := Lib.hid hx
  have HI := Lib.hid (isNil_any hx.at')
  have HW := Lib.hid hx.is
  obtain ⟨r0, r1⟩ := hx.ref
  obtain ⟨c, c0, c1, c2⟩ := hx.at'.cells
  have q1 : decide (x < 0) = false := decide_eq_false (by omega)
  have q2 : decide (4096 ≤ x) = false := decide_eq_false (by omega)
  have q3 : decide (g < 1) = false := decide_eq_false (by omega)
  have l0 := hx.at'.look x g hr
  have l1 := hx.at'.drew.look x g hr
  rw [hg] at l0 l1
  simp only [Option.isSome_none, zeroW] at l0 l1
  obtain ⟨o, hput, hA⟩ := hx.at'.drew.drew.put x g 0 hr
  obtain ⟨W4, hW4⟩ : ∃ W4, W4 = setObj W1.drew.drew m o := ⟨_, rfl⟩
  rw [← hW4] at hput hA
  have HT : Hid (Turned [a, m] W W4) := by show Turned _ _ _; rw [hW4]; exact (Turned.of_below hx.low).drew.drew.setObj (by simp) _
  have HA := Lib.hid hA
  clear h hx h1 hr hg hA hW4
  go_enter Try.func13, Try.ntmps13
  go_upto_region 1 with fail
  rw [← HW.out]
  go_wp2_with fail
  refine HI.out.mono ?_
  rintro e w1 ⟨rfl, hw1⟩
  obtain rfl := hw1
  go_wp2_with fail
  go_region
  go_wp2_with fail
  go_region
  all_goals
    go_wp2_with fail
    go_ret
    exact ⟨rfl, HT.out, HA.out⟩
end Go.Proofs.Ythhmbmeajgjhcaa
