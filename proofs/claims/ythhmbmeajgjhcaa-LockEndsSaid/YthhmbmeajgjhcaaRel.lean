/- A table of locks: the contracts of Lock, Drop, Done and Kill. -/
import Derived.Test.YthhmbmeajgjhcaaGone
namespace Go.Proofs.Ythhmbmeajgjhcaa
open Go.RowKit
set_option maxRecDepth 100000
set_option maxHeartbeats 4000000

theorem Fresh.turned {S : List Nat} {W W' : World} {p : Nat} {cs : Array Value} {t : TypeId} (h : Fresh W p cs t) (ht : Turned S W W') (hn : p ∉ S) : Fresh W' p cs t := ht.other h hn
theorem Boxed.ne {W W1 : World} {p a m : Nat} {s : Lk} {x g : Int} (h : Boxed W W1 p a m s x g) : W.heap.size ∉ [a, m] := by
  have h1 := h.box
  have h2 := h.at'.ha
  have h3 := h.at'.hm.ne h.box
  intro e
  simp at e
  rcases e with e | e
  · unfold Fresh at h1 h2
    rw [e, h2] at h1
    simp at h1
  · exact h3 e

theorem cell_regrown {W : World} {a : Nat} {i : Nat} {v : Value} (h : W.cell? ⟨a, i, none⟩ = some v) (d : Nat) (os : Array Obj) : (Sort.grow (redrawn W d) os).cell? ⟨a, i, none⟩ = some v := by
  have hl := World.block_lt_of_cell? W _ h
  rw [(below_regrown W d os).cell (p := ⟨a, i, none⟩) hl]
  exact h
theorem lock_false {W : World} {p a m : Nat} {s : Lk} (h : At W p a m s) (x g w : Int) (hr : RefOk x g) (hc : ((getW s.l x g).isSome && (zeroW (getW s.l x g) == w)) = false) :
    Calls Try.prog 16 #[.pointer (some ⟨p, 0, none⟩), refV x g, .int .u64 w] W fun e w' => e = .returned (.bool false) ∧ Turned [a, m] W w' ∧ At w' p a m s := by
  obtain ⟨W1, hx⟩ := h.boxed x g
  have HX := Lib.hid hx
  have HW := Lib.hid hx.is
  obtain ⟨r0, r1⟩ := hx.ref
  obtain ⟨c, c0, c1, c2⟩ := hx.at'.cells
  have HC : Hid (∀ W', Below W1.heap.size W1 W' → Calls Try.prog 15 #[.pointer (some ⟨p, 0, none⟩), refV x g, .int .u64 w] W' fun e w' => e = .returned (.bool false) ∧ Below W'.heap.size W' w') := fun W' hb => by
    have := check_any (hx.at'.below hb) x g w hr
    rw [hc] at this
    exact this
  clear h hx hr hc
  go_enter Try.func16, Try.ntmps16
  go_upto_region 1 with fail
  rw [← HW.out]
  have KC : Hid (∀ (d : Nat) (os : Array Obj), Calls Try.prog 15 #[.pointer (some ⟨p, 0, none⟩), refV x g, .int .u64 w] (Sort.grow (redrawn W1 d) os) fun e w' => e = .returned (.bool false) ∧ Below (Sort.grow (redrawn W1 d) os).heap.size (Sort.grow (redrawn W1 d) os) w') := fun d os => HC.out _ (below_regrown _ _ _)
  have g0 := fun d os => cell_regrown r0 d os
  have g1 := fun d os => cell_regrown r1 d os
  have g2 := fun d os => cell_regrown c d os
  refine wp_region_quiet_below (by kernel_rfl) (by kernel_rfl) ?_
  repeat (any_goals (first | go_big_quiet_step (first
    | (go_at_call 15; exact Calls.regrown_of (KC.out _ _))) | quiet_step (fail)))
  all_goals
    refine wpQuiet_nil ?_
    intro w7 hw7
    have hb7 : Below W1.heap.size W1 w7 := by obtain ⟨p, rfl⟩ := hw7; exact below_regrown _ _ _
    have HB2 := Lib.hid hb7
    clear hw7 hb7 g0 g1 g2 r0 r1 c c0 c1 c2
    go_wp2_with fail
    go_ret
    exact ⟨rfl, .of_below (Below.step HX.out.low HB2.out), HX.out.at'.below HB2.out⟩

theorem lock_true {W : World} {p a m : Nat} {s s' : Lk} (h : At W p a m s) (x g w : Int) (hr : RefOk x g) (hc : ((getW s.l x g).isSome && (zeroW (getW s.l x g) == w)) = true) (b : Bool)
    (hl : ∀ W, At W p a m s → Calls Try.prog 37 #[.pointer (some ⟨a, 0, none⟩), refV x g] W fun e w' => e = .returned (.bool b) ∧ Turned [a, m] W w' ∧ At w' p a m s') :
    Calls Try.prog 16 #[.pointer (some ⟨p, 0, none⟩), refV x g, .int .u64 w] W fun e w' => e = .returned (.bool b) ∧ Turned [a, m] W w' ∧ At w' p a m s' := by
  obtain ⟨W1, hx⟩ := h.boxed x g
  have HX := Lib.hid hx
  have HW := Lib.hid hx.is
  obtain ⟨r0, r1⟩ := hx.ref
  obtain ⟨c, c0, c1, c2⟩ := hx.at'.cells
  have HC := check_any hx.at'.drew x g w hr
  rw [hc] at HC
  have HC := Lib.hid HC
  have HL := Lib.hid hl
  clear h hx hr hc hl
  go_enter Try.func16, Try.ntmps16
  go_upto_region 1 with fail
  rw [← HW.out]
  go_region_held3 (fun W' => W'.cell? ⟨p, 0, none⟩ = some (.pointer (some ⟨a, 0, none⟩)) ∧ W'.cell? ⟨W.heap.size, 0, none⟩ = some (.int .i64 x) ∧ W'.cell? ⟨W.heap.size, 1, none⟩ = some (.int .u32 g))
    (first | go_keep | exact ⟨(HX.out.at'.below hq2).cells.1, (HX.out.box.below hq2).cell 0, (HX.out.box.below hq2).cell 1⟩ | exact ⟨(ht3.other (HX.out.at'.below hq2).hp HNP.out).cell 0, (ht3.other (HX.out.box.below hq2) HX.out.ne).cell 0, (ht3.other (HX.out.box.below hq2) HX.out.ne).cell 1⟩)
    (first
      | (go_at_call 15
         refine HC.out.mono ?_
         rintro e w2 ⟨rfl, hb2⟩
         have hq2 : Below W1.heap.size W1 w2 := Below.step (Below.refl _ _).drew hb2)
      | (go_at_call 37
         refine (HL.out _ (HX.out.at'.below hq2)).mono ?_
         rintro e w3 ⟨rfl, ht3, ha3⟩
         have HNP := Lib.hid (show p ∉ [a, m] from by have h1 := HX.out.at'.pa; have h2 := HX.out.at'.hm.ne HX.out.at'.hp; simp; exact ⟨h1, h2⟩)))
  all_goals
    have HB2 := Lib.hid hq2
    have HT3 := Lib.hid ht3
    have HA3 := Lib.hid ha3
    clear hb2 hq2 ht3 ha3 r0 r1 c c0 c1 c2
    go_wp2_with fail
    go_ret
    exact ⟨rfl, (Turned.of_below (Below.step HX.out.low HB2.out)).trans HT3.out, HA3.out⟩
end Go.Proofs.Ythhmbmeajgjhcaa
