/- A purse: New and Reserve. -/
import Derived.Test.YtpnddccanelcnaaEnd
namespace Go.Proofs.Ytpnddccanelcnaa
open Go.RowKit
set_option maxRecDepth 100000
set_option maxHeartbeats 4000000

def resP (s : Pu) (x y : Int) : Pu := { s with bk := s.bk + x, bb := s.bb + y, last := s.last + 1, tk := s.tk ++ [⟨s.last + 1, x, y⟩] }

theorem new_any (k b : Int) (w : World) :
    Calls Try.prog 10 #[lim k b] w fun e w' => ∃ p a m, w.heap.size ≤ p ∧ w.heap.size ≤ a ∧ w.heap.size ≤ m ∧ e = .returned (.pointer (some ⟨p, 0, none⟩)) ∧ Below w.heap.size w w' ∧ At w' p a m ⟨k, b, 0, 0, 0, 0, 0, []⟩ := by
  have hmm := @run_makeMap Try.prog
  go_enter Try.func10, Try.ntmps10
  go_wp2_with fail
  go_ret
  refine ⟨w.heap.size + 1 + 1 + 1, w.heap.size + 1 + 1, w.heap.size + 1, by omega, by omega, by omega, rfl, Below.new (Below.new (Below.new (Below.new (Below.refl _ _) _) _) _) _, ?_, ?_, ?_⟩
  · exact Fresh.new _ _ _ _ (by simp)
  · exact (Fresh.new _ _ _ _ (by simp)).alloc _
  · refine ⟨#[], 0, ?_, rfl⟩
    have h1 := heap_alloc_new (w.alloc (.cells #[.int .u64 k, .int .u64 b] 24)) (.map #[] 0)
    have e : (w.alloc (.cells #[.int .u64 k, .int .u64 b] 24)).heap.size = w.heap.size + 1 := by simp
    rw [e] at h1
    have hlt := (Array.getElem?_eq_some_iff.1 h1).1
    have B := Below.new (Below.new (Below.refl ((w.alloc (.cells #[.int .u64 k, .int .u64 b] 24)).alloc (.map #[] 0)).heap.size ((w.alloc (.cells #[.int .u64 k, .int .u64 b] 24)).alloc (.map #[] 0))) (.cells #[.int .u64 k, .int .u64 b, .int .u64 0, .int .u64 0, .int .u64 0, .int .u64 0, .map (some (w.heap.size + 1)), .int .i64 0] 60)) (.cells #[.pointer (some ⟨w.heap.size + 1 + 1, 0, none⟩)] 44)
    exact (B.block _ hlt).trans h1

theorem preserve_no {W : World} {p a m : Nat} {s : Pu} (x y : Int) (h : At W p a m s) (hs : s.Fit) (hx : U x) (hy : U y) (hf : fitB s x y = false) :
    Calls Try.prog 14 #[.pointer (some ⟨p, 0, none⟩), .int .u64 x, .int .u64 y] W fun e w' => e = .returned (.tuple #[.int .i64 0, .int .i64 10]) ∧ Turned [a, m] W w' ∧ At w' p a m s := by
  have HFF := Lib.hid hf
  have HI := Lib.hid (isNil_any h)
  have HRv := Lib.hid (fun w h => reserve_any s a m x y w h hs hx hy)
  have B0 := (Below.refl W.heap.size W).alloc (Nat.le_refl _) (.cells #[.int .u64 x, .int .u64 y] 24)
  have A0 := h.below B0
  have R := Fresh.new W W.heap.size #[.int .u64 x, .int .u64 y] 24 rfl
  obtain ⟨W1, hW⟩ : ∃ W1, W1 = W.alloc (.cells #[.int .u64 x, .int .u64 y] 24) := ⟨_, rfl⟩
  have hpl := h.hp.lt
  rw [← hW] at B0 A0 R
  have HA := Lib.hid A0
  have HR := Lib.hid R
  have HB := Lib.hid B0
  have HW := Lib.hid hW
  have c := A0.cells
  have r0 := R.cell 0
  have r1 := R.cell 1
  simp only [List.getElem?_toArray, List.getElem?_cons_zero, List.getElem?_cons_succ] at r0 r1
  clear hf h hs hx hy B0 A0 R hW hpl
  go_enter Try.func14, Try.ntmps14
  go_wp2_with fail
  refine HI.out.mono ?_
  rintro e w1 ⟨rfl, hw1⟩
  obtain rfl := hw1
  go_wp2_with fail
  rw [← HW.out]
  go_region_with
    (first
      | (go_at_call 35
         refine (HRv.out _ (HA.out.ha.drew)).mono ?_
         rw [HFF.out]
         rintro e wz ⟨rfl, htz, hfz⟩))
  all_goals
    have HT1 := Lib.hid htz.ofDrew
    have HA1 := Lib.hid (HA.out.turned htz.ofDrew hfz (tookIf_tk s x y))
    clear htz hfz c r0 r1
    go_wp2_with fail
    go_ret2
    exact ⟨rfl, (Turned.of_below HB.out).trans (HT1.out.more (by simp)), by have h := HA1.out; rw [tookIf_no HFF.out] at h; exact h⟩

theorem preserve_yes {W : World} {p a m : Nat} {s : Pu} (x y : Int) (h : At W p a m s) (hs : s.Fit) (hx : U x) (hy : U y) (hf : fitB s x y = true) (hu : Uniq s.tk) (hn : getT s.tk (s.last + 1) = none) (hl1 : 0 ≤ s.last) (hl2 : s.last ≤ 1000000000) :
    Calls Try.prog 14 #[.pointer (some ⟨p, 0, none⟩), .int .u64 x, .int .u64 y] W fun e w' => e = .returned (.tuple #[.int .i64 (s.last + 1), .int .i64 0]) ∧ Turned [a, m] W w' ∧ At w' p a m (resP s x y) := by
  have HFF := Lib.hid hf
  have HI := Lib.hid (isNil_any h)
  have HRv := Lib.hid (fun w h => reserve_any s a m x y w h hs hx hy)
  have HUN := Lib.hid (And.intro hu hn)
  have B0 := (Below.refl W.heap.size W).alloc (Nat.le_refl _) (.cells #[.int .u64 x, .int .u64 y] 24)
  have A0 := h.below B0
  have R := Fresh.new W W.heap.size #[.int .u64 x, .int .u64 y] 24 rfl
  obtain ⟨W1, hW⟩ : ∃ W1, W1 = W.alloc (.cells #[.int .u64 x, .int .u64 y] 24) := ⟨_, rfl⟩
  have hpl := h.hp.lt
  have hal := h.ha.lt
  have hml := h.hm.lt
  have HNE := Lib.hid (And.intro (show W.heap.size ∉ [a] from by simp; omega) (And.intro (show W.heap.size ≠ m from by omega) (And.intro (show W.heap.size ≠ a from by omega) (And.intro (show p ≠ m from h.hm.ne h.hp) (And.intro (show a ≠ m from h.hm.ne h.ha) (show p ≠ a from h.pa))))))
  rw [← hW] at B0 A0 R
  have HA := Lib.hid A0
  have HR := Lib.hid R
  have HB := Lib.hid B0
  have HW := Lib.hid hW
  have c := A0.cells
  have r0 := R.cell 0
  have r1 := R.cell 1
  simp only [List.getElem?_toArray, List.getElem?_cons_zero, List.getElem?_cons_succ] at r0 r1
  have kw : IntKind.i64.wrap (s.last + 1) = s.last + 1 := IntWalk.i64_in _ (by omega)
  clear hf h hs hx hy B0 A0 R hW hpl hal hml hu hn
  go_enter Try.func14, Try.ntmps14
  go_wp2_with fail
  refine HI.out.mono ?_
  rintro e w1 ⟨rfl, hw1⟩
  obtain rfl := hw1
  go_wp2_with fail
  rw [← HW.out]
  go_region_with
    (first
      | (go_at_call 35
         refine (HRv.out _ (HA.out.ha.drew)).mono ?_
         rw [HFF.out]
         rintro e wz ⟨rfl, htz, hfz⟩))
  all_goals
    have HT1 := Lib.hid htz.ofDrew
    have A1 := HA.out.turned htz.ofDrew hfz (tookIf_tk s x y)
    rw [tookIf_yes HFF.out] at A1
    have HA1 := Lib.hid A1
    have HR1 := Lib.hid (htz.ofDrew.other HR.out HNE.out.1)
    clear htz hfz c r0 r1
    have c := A1.cells
    have c7 : wz.cell? ⟨a, 7, none⟩ = some (.int .i64 s.last) := (acc_cells A1.ha).2.2.2.2.2.2.2
    have z7 := A1.ha.thawed 7
    clear A1
    go_wp2_with fail
    obtain ⟨W3, hW3⟩ : ∃ W3, W3 = wz.setCell ⟨a, 7, none⟩ (.int .i64 (s.last + 1)) := ⟨_, rfl⟩
    rw [← hW3]
    have HA3 : Hid (Fresh W3 a (accCells { took s x y with last := s.last + 1 } m) 60) := by show Fresh _ _ _ _; rw [hW3]; exact HA1.out.ha.set 7 _
    have HP3 : Hid (Fresh W3 p #[.pointer (some ⟨a, 0, none⟩)] 44) := by show Fresh _ _ _ _; rw [hW3]; exact HA1.out.hp.other HNE.out.2.2.2.2.2 7 _
    have HR3 : Hid (Fresh W3 w1.heap.size #[.int .u64 x, .int .u64 y] 24) := by show Fresh _ _ _ _; rw [hW3]; exact HR1.out.other HNE.out.2.2.1 7 _
    have HT3 : Hid (Turned [a, m] w1 W3) := by show Turned _ _ _; rw [hW3]; exact ((Turned.of_below HB.out).trans (HT1.out.more (by simp))).setCell (.inl (by simp)) _ _
    have HM3 : Hid (MapAt W3 m s.tk) := by
      obtain ⟨es, cc, h1, h2⟩ := HA1.out.hm
      refine ⟨es, cc, ?_, h2⟩
      rw [hW3, Below.heap_setCell _ ⟨a, 7, none⟩ _ m HNE.out.2.2.2.2.1.symm]
      exact h1
    clear hW3 c c7 z7
    obtain ⟨es, cc, hb, hi⟩ := HM3.out
    have hml := HM3.out.lt
    obtain ⟨es', hi', hput⟩ := run_put (W := W3.drew) hi HUN.out.1 hb (s.last + 1) x y HUN.out.2
    obtain ⟨W4, hW4⟩ : ∃ W4, W4 = setObj W3.drew m (.map es' (cc + 1)) := ⟨_, rfl⟩
    rw [← hW4] at hput
    have HA4 : Hid (Fresh W4 a (accCells { took s x y with last := s.last + 1 } m) 60) := by show Fresh _ _ _ _; rw [hW4]; exact HA3.out.drew.setObj HNE.out.2.2.2.2.1 _
    have HP4 : Hid (Fresh W4 p #[.pointer (some ⟨a, 0, none⟩)] 44) := by show Fresh _ _ _ _; rw [hW4]; exact HP3.out.drew.setObj HNE.out.2.2.2.1 _
    have HT4 : Hid (Turned [a, m] w1 W4) := by show Turned _ _ _; rw [hW4]; exact (HT3.out.drew).setObj (by simp) _
    have HM4 : Hid (MapAt W4 m (s.tk ++ [⟨s.last + 1, x, y⟩])) := ⟨es', cc + 1, by rw [hW4]; exact setObj_at (W := W3.drew) hml _, hi'⟩
    have c := HP3.out.cell 0
    have c6 := HA3.out.cell 6
    have c7 := HA3.out.cell 7
    have r0 := HR3.out.cell 0
    have r1 := HR3.out.cell 1
    have d := HP4.out.cell 0
    have d7 := HA4.out.cell 7
    simp only [accCells, List.getElem?_toArray, List.getElem?_cons_zero, List.getElem?_cons_succ] at c c6 c7 r0 r1 d d7
    clear hb hi hi' hW4 hml
    go_region
    all_goals
      go_wp2_with fail
      go_ret2
      exact ⟨rfl, HT4.out, HP4.out, HA4.out, HM4.out⟩

end Go.Proofs.Ytpnddccanelcnaa
