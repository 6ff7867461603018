/- A table of locks: what a change of a held word makes of it. -/
import Derived.Test.YthhmbmeajgjhcaaRel
namespace Go.Proofs.Ythhmbmeajgjhcaa
open Go.RowKit
set_option maxRecDepth 100000
set_option maxHeartbeats 4000000

theorem release_any (a F : Nat) (W : World) :
    Calls Try.prog 54 #[.pointer (some ⟨a, 0, none⟩), .func (.func F) #[] #[]] W fun e w' => e = .returned (.func (.func 65) #[] #[.pointer (some ⟨W.heap.size, 0, none⟩), .pointer (some ⟨W.heap.size + 1, 0, none⟩)]) ∧ Below W.heap.size W w' ∧ Fresh w' W.heap.size #[.pointer (some ⟨a, 0, none⟩)] 44 ∧ Fresh w' (W.heap.size + 1) #[.func (.func F) #[] #[]] 70 := by
  have hmf := @makeFunc_run Try.prog
  go_enter Try.func54, Try.ntmps54
  go_wp2_with fail
  go_ret
  exact ⟨rfl, Below.new (Below.new (Below.refl _ _) _) _, (Fresh.new _ _ _ _ rfl).alloc _, Fresh.new _ _ _ _ (by simp)⟩

/-- The boxes of a change. -/
structure Caps (W : World) (a F b1 b2 : Nat) : Prop where
  h1 : Fresh W b1 #[.pointer (some ⟨a, 0, none⟩)] 44
  h2 : Fresh W b2 #[.func (.func F) #[] #[]] 70
theorem Caps.below {W W' : World} {a F b1 b2 : Nat} (h : Caps W a F b1 b2) (hb : Below W.heap.size W W') : Caps W' a F b1 b2 := ⟨h.1.below hb, h.2.below hb⟩
theorem Caps.drew {W : World} {a F b1 b2 : Nat} (h : Caps W a F b1 b2) : Caps W.drew a F b1 b2 := ⟨h.1.drew, h.2.drew⟩

theorem rel_none {W : World} {p a m F b1 b2 : Nat} {s : Lk} (h : At W p a m s) (hc : Caps W a F b1 b2) (x g : Int) (hr : RefOk x g) (hg : getW s.l x g = none) :
    Calls Try.prog 65 #[refV x g, .pointer (some ⟨b1, 0, none⟩), .pointer (some ⟨b2, 0, none⟩)] W fun e w' => e = .returned (.int .i64 5) ∧ Turned [a, m] W w' ∧ At w' p a m s := by
  obtain ⟨W1, hx⟩ := h.boxed x g
  have HX := Lib.hid hx
  have HW := Lib.hid hx.is
  obtain ⟨r0, r1⟩ := hx.ref
  obtain ⟨c, c0, c1, c2⟩ := hx.at'.cells
  have k1 := ((hc.below hx.low).h1).cell 0
  have k2 := ((hc.below hx.low).h2).cell 0
  simp only [List.getElem?_toArray, List.getElem?_cons_zero] at k1 k2
  have l0 := hx.at'.look x g hr
  have l1 := hx.at'.drew.look x g hr
  rw [hg] at l0 l1
  simp only [Option.isSome_none, zeroW] at l0 l1
  clear h hx hr hg hc
  go_enter Try.func65, Try.ntmps65
  go_upto_region 1 with fail
  rw [← HW.out]
  go_region
  go_wp2_with fail
  go_ret
  exact ⟨rfl, .of_below HX.out.low.drew, HX.out.at'.drew⟩

theorem rel_state {W : World} {p a m F b1 b2 : Nat} {s : Lk} (h : At W p a m s) (hc : Caps W a F b1 b2) (hF : F = 39 ∨ F = 40 ∨ F = 41) (x g : Int) (hr : RefOk x g) (t : Wd) (hg : getW s.l x g = some t)
    (hf : ∀ w, Calls Try.prog F #[.int .u64 t.w] w fun e w' => e = .returned (.tuple #[.int .u64 t.w, .bool false]) ∧ Below w.heap.size w w') :
    Calls Try.prog 65 #[refV x g, .pointer (some ⟨b1, 0, none⟩), .pointer (some ⟨b2, 0, none⟩)] W fun e w' => e = .returned (.int .i64 15) ∧ Turned [a, m] W w' ∧ At w' p a m s := by
  obtain ⟨W1, hx⟩ := h.boxed x g
  have HX := Lib.hid hx
  have HW := Lib.hid hx.is
  obtain ⟨r0, r1⟩ := hx.ref
  obtain ⟨c, c0, c1, c2⟩ := hx.at'.cells
  have k1 := ((hc.below hx.low).h1).cell 0
  have k2 := ((hc.below hx.low).h2).cell 0
  simp only [List.getElem?_toArray, List.getElem?_cons_zero] at k1 k2
  have l0 := hx.at'.look x g hr
  have l1 := hx.at'.drew.look x g hr
  rw [hg] at l0 l1
  simp only [Option.isSome_some, zeroW] at l0 l1
  have HF := Lib.hid hf
  obtain ⟨n, hn⟩ : ∃ n, t.w = n := ⟨_, rfl⟩
  rw [hn] at l0 l1 HF
  clear h hx hr hg hc hf hn
  rcases hF with rfl | rfl | rfl
  all_goals
    go_enter Try.func65, Try.ntmps65
    go_upto_region 1 with fail
    rw [← HW.out]
    go_region
    go_wp2_with fail
    refine (HF.out _).mono ?_
    rintro e w2 ⟨rfl, hb2⟩
    have HB2 := Lib.hid (show Below W1.heap.size W1 w2 from Below.step (Below.refl _ _).drew hb2)
    clear hb2 r0 r1 c c0 c1 c2 l0 l1 k1 k2
    go_wp2_with fail
    go_ret
    exact ⟨rfl, .of_below (Below.step HX.out.low HB2.out), HX.out.at'.below HB2.out⟩

theorem rel_ok1 {W : World} {p a m F b1 b2 : Nat} {s : Lk} (h : At W p a m s) (hc : Caps W a F b1 b2) (hF : F = 39 ∨ F = 40 ∨ F = 41) (x g : Int) (hr : RefOk x g) (t : Wd) (hg : getW s.l x g = some t) (n' : Int) (hh : -1000000000 ≤ s.held ∧ s.held ≤ 1000000000)
    (hf : ∀ w, Calls Try.prog F #[.int .u64 t.w] w fun e w' => e = .returned (.tuple #[.int .u64 n', .bool true]) ∧ Below w.heap.size w w') :
    Calls Try.prog 65 #[refV x g, .pointer (some ⟨b1, 0, none⟩), .pointer (some ⟨b2, 0, none⟩)] W fun e w' => e = .returned (.int .i64 0) ∧ Turned [a, m] W w' ∧ At w' p a m { s with held := s.held - 1, l := putW s.l x g n' } := by
  obtain ⟨W1, hx⟩ := h.boxed x g
  have HX := Lib.hid hx
  have HW := Lib.hid hx.is
  have HR := Lib.hid hr
  obtain ⟨r0, r1⟩ := hx.ref
  obtain ⟨c, c0, c1, c2⟩ := hx.at'.cells
  have HK := Lib.hid (hc.below hx.low)
  have k1 := ((hc.below hx.low).h1).cell 0
  have k2 := ((hc.below hx.low).h2).cell 0
  simp only [List.getElem?_toArray, List.getElem?_cons_zero] at k1 k2
  have l0 := hx.at'.look x g hr
  have l1 := hx.at'.drew.look x g hr
  rw [hg] at l0 l1
  simp only [Option.isSome_some, zeroW] at l0 l1
  have HF := Lib.hid hf
  have kw : IntKind.i64.wrap (s.held - 1) = s.held - 1 := IntWalk.i64_in _ (by omega)
  obtain ⟨n, hn⟩ : ∃ n, t.w = n := ⟨_, rfl⟩
  rw [hn] at l0 l1 HF
  clear h hx hr hg hc hf hn hh
  rcases hF with rfl | rfl | rfl
  all_goals
    go_enter Try.func65, Try.ntmps65
    go_upto_region 1 with fail
    rw [← HW.out]
    go_region
    go_wp2_with fail
    refine (HF.out _).mono ?_
    rintro e w2 ⟨rfl, hb2⟩
    have hb2' : Below W1.heap.size W1 w2 := Below.step (Below.refl _ _).drew hb2
    have HA2 := Lib.hid (HX.out.at'.below hb2')
    have HF2 := Lib.hid (HX.out.box.below hb2')
    have HK2 := Lib.hid (HK.out.below hb2')
    have HB2 := Lib.hid (Below.step HX.out.low hb2')
    clear hb2 hb2' r0 r1 c c0 c1 c2 l0 l1 k1 k2
    obtain ⟨c, c0, c1, c2⟩ := HA2.out.cells
    have r0 := HF2.out.cell 0
    have r1 := HF2.out.cell 1
    have k1 := HK2.out.h1.cell 0
    simp only [List.getElem?_toArray, List.getElem?_cons_zero, List.getElem?_cons_succ] at r0 r1 k1
    obtain ⟨o, hput, hA⟩ := HA2.out.drew.put x g n' HR.out
    have hne : b1 ∉ [a, m] := by
      have h1 := HK2.out.h1
      have h2 := HA2.out.ha
      have h3 := HA2.out.hm.ne HK2.out.h1
      intro e
      simp at e
      rcases e with e | e
      · unfold Fresh at h1 h2
        rw [e, h2] at h1
        simp at h1
      · exact h3 e
    obtain ⟨W4, hW4⟩ : ∃ W4, W4 = setObj w2.drew m o := ⟨_, rfl⟩
    rw [← hW4] at hput hA
    have HT : Hid (Turned [a, m] W W4) := by show Turned _ _ _; rw [hW4]; exact (Turned.of_below HB2.out).drew.setObj (by simp) _
    have HK4 : Hid (Fresh W4 b1 #[.pointer (some ⟨a, 0, none⟩)] 44) := by show Fresh _ _ _ _; rw [hW4]; exact HK2.out.h1.drew.setObj (by intro e; exact hne (by simp [e])) _
    have HA := Lib.hid hA
    clear hA hW4 hne
    go_wp2_with fail
    go_region
    all_goals
      clear c c0 c1 c2 r0 r1 hput k1
      obtain ⟨c, c0, c1, c2⟩ := HA.out.cells
      have z1 := HA.out.ha.thawed 1
      have k1 := HK4.out.cell 0
      simp only [List.getElem?_toArray, List.getElem?_cons_zero] at k1
      go_wp2_with fail
      go_ret
      exact ⟨rfl, HT.out.setCell (.inl (by simp)) 1 _, HA.out.set1 _⟩

theorem unlock_any {W : World} {p a m F : Nat} {s s' : Lk} {r : Int} (h : At W p a m s) (x g : Int)
    (hl : ∀ W b1 b2, At W p a m s → Caps W a F b1 b2 → Calls Try.prog 65 #[refV x g, .pointer (some ⟨b1, 0, none⟩), .pointer (some ⟨b2, 0, none⟩)] W fun e w' => e = .returned (.int .i64 r) ∧ Turned [a, m] W w' ∧ At w' p a m s') :
    Calls Try.prog 38 #[.pointer (some ⟨p, 0, none⟩), refV x g, .func (.func F) #[] #[]] W fun e w' => e = .returned (.int .i64 r) ∧ Turned [a, m] W w' ∧ At w' p a m s' := by
  obtain ⟨W1, hx⟩ := h.boxed x g
  have HX := Lib.hid hx
  have HI := Lib.hid (isNil_any hx.at')
  have HW := Lib.hid hx.is
  obtain ⟨r0, r1⟩ := hx.ref
  obtain ⟨c, c0, c1, c2⟩ := hx.at'.cells
  have HL := Lib.hid hl
  clear h hx hl
  go_enter Try.func38, Try.ntmps38
  go_upto_region 1 with fail
  rw [← HW.out]
  go_wp2_with fail
  refine HI.out.mono ?_
  rintro e w1 ⟨rfl, hw1⟩
  obtain rfl := hw1
  go_wp2_with fail
  go_region_held3 (fun W' => W'.cell? ⟨p, 0, none⟩ = some (.pointer (some ⟨a, 0, none⟩)) ∧ W'.cell? ⟨W.heap.size, 0, none⟩ = some (.int .i64 x) ∧ W'.cell? ⟨W.heap.size, 1, none⟩ = some (.int .u32 g))
    (first | go_keep | exact ⟨(HX.out.at'.below hq2).cells.1, (HX.out.box.below hq2).cell 0, (HX.out.box.below hq2).cell 1⟩ | exact ⟨(ht3.other (HX.out.at'.below hq2).hp HNP.out).cell 0, (ht3.other (HX.out.box.below hq2) HX.out.ne).cell 0, (ht3.other (HX.out.box.below hq2) HX.out.ne).cell 1⟩)
    (first
      | (go_at_call 54
         refine (release_any _ _ _).mono ?_
         rintro e w2 ⟨rfl, hb2, hc1, hc2⟩
         have hq2 : Below w1.heap.size w1 w2 := Below.step (Below.refl _ _).drew hb2)
      | (go_at_call 65
         refine (HL.out _ _ _ (HX.out.at'.below hq2) ⟨hc1, hc2⟩).mono ?_
         rintro e w3 ⟨rfl, ht3, ha3⟩
         have HNP := Lib.hid (show p ∉ [a, m] from by have h1 := HX.out.at'.pa; have h2 := HX.out.at'.hm.ne HX.out.at'.hp; simp; exact ⟨h1, h2⟩)))
  all_goals
    have HB2 := Lib.hid hq2
    have HT3 := Lib.hid ht3
    have HA3 := Lib.hid ha3
    clear hb2 hq2 ht3 ha3 r0 r1 c c0 c1 c2 hc1 hc2
    go_wp2_with fail
    go_ret
    exact ⟨rfl, (Turned.of_below (Below.step HX.out.low HB2.out)).trans HT3.out, HA3.out⟩
end Go.Proofs.Ythhmbmeajgjhcaa
