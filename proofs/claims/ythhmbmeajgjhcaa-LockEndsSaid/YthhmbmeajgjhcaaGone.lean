/- A table of locks: the contracts of Gone and of the table's lock. -/
import Derived.Test.YthhmbmeajgjhcaaAddG
namespace Go.Proofs.Ythhmbmeajgjhcaa
open Go.RowKit
set_option maxRecDepth 100000
set_option maxHeartbeats 4000000

theorem isHeld_any (n : Int) (w : World) (h : W64 n) :
    Calls Try.prog 52 #[.int .u64 n] w fun e w' => e = .returned (.bool (n % 4 == 1)) ∧ Below w.heap.size w w' := by
  have HL := Lib.hid (fun w => locked_any n w h)
  have HD := Lib.hid (fun w => dead_any n w h)
  obtain ⟨l, hl⟩ : ∃ l, (n % 2 != 0) = l := ⟨_, rfl⟩
  obtain ⟨d, hd⟩ : ∃ d, (n / 2 % 2 != 0) = d := ⟨_, rfl⟩
  rw [hl] at HL
  rw [hd] at HD
  have HR : Hid ((n % 4 == 1) = (l && !d)) := by
    show _ = _
    subst hl hd
    rw [Bool.eq_iff_iff]
    simp
    omega
  rw [HR.out]
  clear hl hd h HR
  cases l <;> cases d
  all_goals
    go_enter Try.func52, Try.ntmps52
    go_wp2_with fail
    refine (HL.out _).mono ?_
    rintro e w1 ⟨rfl, hb1⟩
    have HB1 := Lib.hid hb1
    clear hb1
    go_wp2_with fail
    first
      | (go_ret; exact ⟨rfl, HB1.out⟩)
      | (refine (HD.out _).mono ?_
         rintro e w2 ⟨rfl, hb2⟩
         have HB2 := Lib.hid (Below.step HB1.out hb2)
         clear hb2
         go_wp2_with fail
         go_ret
         exact ⟨rfl, HB2.out⟩)

theorem At.set1 {W : World} {p a m : Nat} {s : Lk} (h : At W p a m s) (n : Int) : At (W.setCell ⟨a, 1, none⟩ (.int .i64 n)) p a m { s with held := n } :=
  ⟨h.hp.other h.pa 1 _, h.ha.set 1 _, h.hm.turned (S := [a]) ((Turned.refl [a] W).setCell (.inl (by simp)) 1 _) (by simpa using (h.hm.ne h.ha).symm), h.uniq⟩
theorem At.set2 {W : World} {p a m : Nat} {s : Lk} (h : At W p a m s) (n : Int) : At (W.setCell ⟨a, 2, none⟩ (.int .i64 n)) p a m { s with taken := n } :=
  ⟨h.hp.other h.pa 2 _, h.ha.set 2 _, h.hm.turned (S := [a]) ((Turned.refl [a] W).setCell (.inl (by simp)) 2 _) (by simpa using (h.hm.ne h.ha).symm), h.uniq⟩
theorem At.look0 {W : World} {p a m : Nat} {s : Lk} (h : At W p a m s) (x g : Int) (hr : RefOk x g) :
    (Instr.lookup 59 (.map (some m)) (refV x g) false).run Try.prog W = .ok (.int .u64 (zeroW (getW s.l x g))) W := by
  obtain ⟨es, c, hb, hi⟩ := h.hm
  exact run_look hi h.uniq hb x g hr false

theorem remove_any {W : World} {p a m : Nat} {s : Lk} (h : At W p a m s) (x g : Int) (hr : RefOk x g) (t : Wd) (hg : getW s.l x g = some t) (hw : W64 t.w) (hh : -1000000000 ≤ s.held ∧ s.held ≤ 1000000000) :
    Calls Try.prog 36 #[.pointer (some ⟨a, 0, none⟩), refV x g] W fun e w' => e = .returned (.tuple #[]) ∧ Turned [a, m] W w' ∧ At w' p a m { s with held := s.held - heldN t.w, l := delW s.l x g } := by
  obtain ⟨W1, hx⟩ := h.boxed x g
  have HX := Lib.hid hx
  have HW := Lib.hid hx.is
  obtain ⟨r0, r1⟩ := hx.ref
  obtain ⟨c, c0, c1, c2⟩ := hx.at'.cells
  have l0 := hx.at'.look0 x g hr
  have l1 := hx.at'.drew.look0 x g hr
  rw [hg] at l0 l1
  simp only [zeroW] at l0 l1
  obtain ⟨n, hn⟩ : ∃ n, t.w = n := ⟨_, rfl⟩
  rw [hn] at l0 l1 hw ⊢
  have HH := Lib.hid (fun w => isHeld_any n w hw)
  have HR := Lib.hid hr
  have HN : Hid (heldN n = if (n % 4 == 1) = true then 1 else 0) := by show _ = _; unfold heldN; simp
  obtain ⟨b, hb⟩ : ∃ b, (n % 4 == 1) = b := ⟨_, rfl⟩
  rw [hb] at HH HN
  rw [HN.out]
  clear h hx hr hg hw hn hb HN
  cases b
  · go_enter Try.func36, Try.ntmps36
    go_upto_region 1 with fail
    rw [← HW.out]
    go_region_with
      (first
        | (go_at_call 52
           refine (HH.out _).mono ?_
           rintro e w2 ⟨rfl, hb2⟩))
    all_goals
      have hb2' : Below W1.heap.size W1 w2 := Below.step (Below.refl _ _).drew hb2
      have HA2 := Lib.hid (HX.out.at'.below hb2')
      have HF2 := Lib.hid (HX.out.box.below hb2')
      have HB2 := Lib.hid (Below.step HX.out.low hb2')
      clear hb2 hb2' r0 r1 c c0 c1 c2 l0 l1
      obtain ⟨c, c0, c1, c2⟩ := HA2.out.cells
      have r0 := HF2.out.cell 0
      have r1 := HF2.out.cell 1
      simp only [List.getElem?_toArray, List.getElem?_cons_zero, List.getElem?_cons_succ] at r0 r1
      go_wp2_with fail
      obtain ⟨o, hdel, hA⟩ := HA2.out.drew.del x g HR.out
      obtain ⟨W4, hW4⟩ : ∃ W4, W4 = setObj w2.drew m o := ⟨_, rfl⟩
      rw [← hW4] at hdel hA
      have HT : Hid (Turned [a, m] W W4) := by show Turned _ _ _; rw [hW4]; exact (Turned.of_below HB2.out).drew.setObj (by simp) _
      have HA := Lib.hid hA
      clear hA hW4
      go_region
      all_goals
        go_wp2_with fail
        go_end0
        refine ⟨rfl, HT.out, ?_⟩
        exact HA.out
  · have kw : IntKind.i64.wrap (s.held - 1) = s.held - 1 := IntWalk.i64_in _ (by omega)
    clear hh
    go_enter Try.func36, Try.ntmps36
    go_upto_region 1 with fail
    rw [← HW.out]
    go_region_with
      (first
        | (go_at_call 52
           refine (HH.out _).mono ?_
           rintro e w2 ⟨rfl, hb2⟩))
    all_goals
      have hb2' : Below W1.heap.size W1 w2 := Below.step (Below.refl _ _).drew hb2
      have HA2 := Lib.hid (HX.out.at'.below hb2')
      have HF2 := Lib.hid (HX.out.box.below hb2')
      have HB2 := Lib.hid (Below.step HX.out.low hb2')
      have HNE : Hid (W.heap.size ≠ a) := by
        intro e
        have h1 := HF2.out
        have h2 := HA2.out.ha
        unfold Fresh at h1 h2
        rw [e, h2] at h1
        simp at h1
      clear hb2 hb2' r0 r1 c c0 c1 c2 l0 l1
      obtain ⟨c, c0, c1, c2⟩ := HA2.out.cells
      have z1 := HA2.out.ha.thawed 1
      have r0 := HF2.out.cell 0
      have r1 := HF2.out.cell 1
      simp only [List.getElem?_toArray, List.getElem?_cons_zero, List.getElem?_cons_succ] at r0 r1
      go_upto_region 3 with fail
      obtain ⟨W3, hW3⟩ : ∃ W3, W3 = w2.setCell ⟨a, 1, none⟩ (.int .i64 (s.held - 1)) := ⟨_, rfl⟩
      rw [← hW3]
      have HA3 : Hid (At W3 p a m { s with held := s.held - 1 }) := by show At _ _ _ _ _; rw [hW3]; exact HA2.out.set1 _
      have HF3 : Hid (Fresh W3 W.heap.size #[.int .i64 x, .int .u32 g] 33) := by show Fresh _ _ _ _; rw [hW3]; exact HF2.out.other HNE.out 1 _
      have HT3 : Hid (Turned [a, m] W W3) := by show Turned _ _ _; rw [hW3]; exact (Turned.of_below HB2.out).setCell (.inl (by simp)) 1 _
      clear hW3 r0 r1 c c0 c1 c2 z1
      obtain ⟨c, c0, c1, c2⟩ := HA3.out.cells
      have r0 := HF3.out.cell 0
      have r1 := HF3.out.cell 1
      simp only [List.getElem?_toArray, List.getElem?_cons_zero, List.getElem?_cons_succ] at r0 r1
      obtain ⟨o, hdel, hA⟩ := HA3.out.drew.del x g HR.out
      obtain ⟨W4, hW4⟩ : ∃ W4, W4 = setObj W3.drew m o := ⟨_, rfl⟩
      rw [← hW4] at hdel hA
      have HT : Hid (Turned [a, m] W W4) := by show Turned _ _ _; rw [hW4]; exact HT3.out.drew.setObj (by simp) _
      have HA := Lib.hid hA
      clear hA hW4
      go_region
      all_goals
        go_wp2_with fail
        go_end0
        exact ⟨rfl, HT.out, HA.out⟩

theorem gone_none {W : World} {p a m : Nat} {s : Lk} (h : At W p a m s) (x g : Int) (hr : RefOk x g) (hg : getW s.l x g = none) :
    Calls Try.prog 14 #[.pointer (some ⟨p, 0, none⟩), refV x g] W fun e w' => e = .returned (.int .i64 5) ∧ Turned [a, m] W w' ∧ At w' p a m s := by
  obtain ⟨W1, hx⟩ := h.boxed x g
  have HX := Lib.hid hx
  have HI := Lib.hid (isNil_any hx.at')
  have HW := Lib.hid hx.is
  obtain ⟨r0, r1⟩ := hx.ref
  obtain ⟨c, c0, c1, c2⟩ := hx.at'.cells
  have l0 := hx.at'.look x g hr
  have l1 := hx.at'.drew.look x g hr
  rw [hg] at l0 l1
  simp only [Option.isSome_none, zeroW] at l0 l1
  clear h hx hr hg
  go_enter Try.func14, Try.ntmps14
  go_upto_region 1 with fail
  rw [← HW.out]
  go_wp2_with fail
  refine HI.out.mono ?_
  rintro e w1 ⟨rfl, hw1⟩
  obtain rfl := hw1
  go_wp2_with fail
  go_region
  go_wp2_with fail
  go_ret
  exact ⟨rfl, .of_below HX.out.low.drew, HX.out.at'.drew⟩

theorem gone_some {W : World} {p a m : Nat} {s : Lk} (h : At W p a m s) (x g : Int) (hr : RefOk x g) (t : Wd) (hg : getW s.l x g = some t) (hw : W64 t.w) (hh : -1000000000 ≤ s.held ∧ s.held ≤ 1000000000) :
    Calls Try.prog 14 #[.pointer (some ⟨p, 0, none⟩), refV x g] W fun e w' => e = .returned (.int .i64 0) ∧ Turned [a, m] W w' ∧ At w' p a m { s with held := s.held - heldN t.w, l := delW s.l x g } := by
  obtain ⟨W1, hx⟩ := h.boxed x g
  have HX := Lib.hid hx
  have HI := Lib.hid (isNil_any hx.at')
  have HW := Lib.hid hx.is
  have HM := Lib.hid (remove_any hx.at'.drew.drew x g hr t hg hw hh)
  obtain ⟨r0, r1⟩ := hx.ref
  obtain ⟨c, c0, c1, c2⟩ := hx.at'.cells
  have l0 := hx.at'.look x g hr
  have l1 := hx.at'.drew.look x g hr
  rw [hg] at l0 l1
  simp only [Option.isSome_some] at l0 l1
  obtain ⟨z, hz⟩ : ∃ z, zeroW (some t) = z := ⟨_, rfl⟩
  rw [hz] at l0 l1
  clear h hx hr hg hw hh hz
  go_enter Try.func14, Try.ntmps14
  go_upto_region 1 with fail
  rw [← HW.out]
  go_wp2_with fail
  refine HI.out.mono ?_
  rintro e w1 ⟨rfl, hw1⟩
  obtain rfl := hw1
  go_wp2_with fail
  go_region
  go_wp2_with fail
  go_region_with
    (first
      | (go_at_call 36
         refine HM.out.mono ?_
         rintro e w2 ⟨rfl, ht2, ha2⟩))
  all_goals
    have HT := Lib.hid ((Turned.of_below HX.out.low).trans ht2.ofDrew.ofDrew)
    have HA := Lib.hid ha2
    clear ht2 ha2 r0 r1 c c0 c1 c2 l0 l1
    go_wp2_with fail
    go_ret
    exact ⟨rfl, HT.out, HA.out⟩

theorem locklock_no {W : World} {p a m : Nat} {s : Lk} (h : At W p a m s) (x g : Int) (hr : RefOk x g) (t : Wd) (hg : getW s.l x g = some t) (hw : W64 t.w) (h4 : ¬ t.w % 4 = 0) :
    Calls Try.prog 37 #[.pointer (some ⟨a, 0, none⟩), refV x g] W fun e w' => e = .returned (.bool false) ∧ Turned [a, m] W w' ∧ At w' p a m s := by
  obtain ⟨W1, hx⟩ := h.boxed x g
  have HX := Lib.hid hx
  have HW := Lib.hid hx.is
  obtain ⟨r0, r1⟩ := hx.ref
  obtain ⟨c, c0, c1, c2⟩ := hx.at'.cells
  have l0 := hx.at'.look0 x g hr
  have l1 := hx.at'.drew.look0 x g hr
  rw [hg] at l0 l1
  simp only [zeroW] at l0 l1
  obtain ⟨n, hn⟩ : ∃ n, t.w = n := ⟨_, rfl⟩
  rw [hn] at l0 l1 hw h4
  have HH := Lib.hid (fun w => lock_no n w hw h4)
  clear h hx hr hg hw hn h4
  go_enter Try.func37, Try.ntmps37
  go_upto_region 1 with fail
  rw [← HW.out]
  go_region_with
    (first
      | (go_at_call 53
         refine (HH.out _).mono ?_
         rintro e w2 ⟨rfl, hb2⟩))
  all_goals
    have HB2 := Lib.hid (show Below W1.heap.size W1 w2 from Below.step (Below.refl _ _).drew hb2)
    clear hb2 r0 r1 c c0 c1 c2 l0 l1
    go_wp2_with fail
    go_ret
    exact ⟨rfl, .of_below (Below.step HX.out.low HB2.out), HX.out.at'.below HB2.out⟩

theorem locklock_yes {W : World} {p a m : Nat} {s : Lk} (h : At W p a m s) (x g : Int) (hr : RefOk x g) (t : Wd) (hg : getW s.l x g = some t) (hw : W64 t.w) (h4 : t.w % 4 = 0) (hh : -1000000000 ≤ s.held ∧ s.held ≤ 1000000000) (ht : -1000000000 ≤ s.taken ∧ s.taken ≤ 1000000000) :
    Calls Try.prog 37 #[.pointer (some ⟨a, 0, none⟩), refV x g] W fun e w' => e = .returned (.bool true) ∧ Turned [a, m] W w' ∧ At w' p a m { held := s.held + 1, taken := s.taken + 1, l := putW s.l x g (t.w + 1) } := by
  obtain ⟨W1, hx⟩ := h.boxed x g
  have HX := Lib.hid hx
  have HW := Lib.hid hx.is
  have HR := Lib.hid hr
  obtain ⟨r0, r1⟩ := hx.ref
  obtain ⟨c, c0, c1, c2⟩ := hx.at'.cells
  have l0 := hx.at'.look0 x g hr
  have l1 := hx.at'.drew.look0 x g hr
  rw [hg] at l0 l1
  simp only [zeroW] at l0 l1
  obtain ⟨n, hn⟩ : ∃ n, t.w = n := ⟨_, rfl⟩
  rw [hn] at l0 l1 hw h4 ⊢
  have HH := Lib.hid (fun w => lock_yes n w hw h4)
  have k1 : IntKind.i64.wrap (s.held + 1) = s.held + 1 := IntWalk.i64_in _ (by omega)
  have k2 : IntKind.i64.wrap (s.taken + 1) = s.taken + 1 := IntWalk.i64_in _ (by omega)
  clear h hx hr hg hw hn h4 hh ht
  go_enter Try.func37, Try.ntmps37
  go_upto_region 1 with fail
  rw [← HW.out]
  go_region_with
    (first
      | (go_at_call 53
         refine (HH.out _).mono ?_
         rintro e w2 ⟨rfl, hb2⟩))
  all_goals
    have hb2' : Below W1.heap.size W1 w2 := Below.step (Below.refl _ _).drew hb2
    have HA2 := Lib.hid (HX.out.at'.below hb2')
    have HF2 := Lib.hid (HX.out.box.below hb2')
    have HB2 := Lib.hid (Below.step HX.out.low hb2')
    clear hb2 hb2' r0 r1 c c0 c1 c2 l0 l1
    obtain ⟨c, c0, c1, c2⟩ := HA2.out.cells
    have r0 := HF2.out.cell 0
    have r1 := HF2.out.cell 1
    simp only [List.getElem?_toArray, List.getElem?_cons_zero, List.getElem?_cons_succ] at r0 r1
    obtain ⟨o, hput, hA⟩ := HA2.out.drew.put x g (n + 1) HR.out
    obtain ⟨W4, hW4⟩ : ∃ W4, W4 = setObj w2.drew m o := ⟨_, rfl⟩
    rw [← hW4] at hput hA
    have HT : Hid (Turned [a, m] W W4) := by show Turned _ _ _; rw [hW4]; exact (Turned.of_below HB2.out).drew.setObj (by simp) _
    have HA := Lib.hid hA
    clear hA hW4
    go_wp2_with fail
    go_region
    all_goals
      clear c c0 c1 c2 r0 r1 hput
      obtain ⟨c, c0, c1, c2⟩ := HA.out.cells
      have z1 := HA.out.ha.thawed 1
      have z2 := HA.out.ha.thawed 2
      go_wp2_with fail
      go_ret
      exact ⟨rfl, (HT.out.setCell (.inl (by simp)) 1 _).setCell (.inl (by simp)) 2 _, (HA.out.set1 _).set2 _⟩
end Go.Proofs.Ythhmbmeajgjhcaa
