/- A purse: paying, closing a ticket, what it tells. -/
import Derived.Test.YtpnddccanelcnaaPu
namespace Go.Proofs.Ytpnddccanelcnaa
open Go.RowKit
set_option maxRecDepth 100000
set_option maxHeartbeats 4000000

def payB (s : Pu) (x y : Int) : Bool := decide (x ≤ s.hk) && decide (y ≤ s.hb)
def paid (s : Pu) (x y : Int) : Pu := { s with hk := s.hk - x, hb := s.hb - y, bk := s.bk - x, bb := s.bb - y }
def payIf (s : Pu) (x y : Int) : Pu := if payB s x y = true then paid s x y else s
theorem payIf_yes {s : Pu} {x y : Int} (h : payB s x y = true) : payIf s x y = paid s x y := by unfold payIf; rw [if_pos h]
theorem payIf_no {s : Pu} {x y : Int} (h : payB s x y = false) : payIf s x y = s := by unfold payIf; rw [if_neg (by rw [h]; decide)]

theorem pay_any (s : Pu) (a m : Nat) (x y : Int) (w : World) (h : Fresh w a (accCells s m) 60) (hs : s.Fit) (hx : U x) (hy : U y) :
    Calls Try.prog 39 #[.pointer (some ⟨a, 0, none⟩), lim x y] w fun e w' => e = .returned (.bool (payB s x y)) ∧ Turned [a] w w' ∧ Fresh w' a (accCells (payIf s x y) m) 60 := by
  obtain ⟨f, hf⟩ : ∃ f, payB s x y = f := ⟨_, rfl⟩
  have HS := Lib.hid hs
  have HXY := Lib.hid (And.intro hx hy)
  have HFF := Lib.hid hf
  have hl := h.lt
  have HF := Lib.hid (h.alloc (.cells #[.int .u64 x, .int .u64 y] 24))
  have HR := Lib.hid (Fresh.new w w.heap.size #[.int .u64 x, .int .u64 y] 24 rfl)
  obtain ⟨W, hW⟩ : ∃ W, W = w.alloc (.cells #[.int .u64 x, .int .u64 y] 24) := ⟨_, rfl⟩
  have HB : Hid (Below w.heap.size w W) := by show Below _ _ _; rw [hW]; exact Below.new (Below.refl _ _) _
  have HW := Lib.hid hW
  rw [← hW] at HF HR
  have c2 := (acc_cells h).2.2.1
  have c3 := (acc_cells h).2.2.2.1
  clear h hW hs hx hy hf
  go_enter Try.func39, Try.ntmps39
  go_wp2_with fail
  rw [← HW.out]
  clear c2 c3 hl
  refine (within_any _ _ _).mono ?_
  rintro e w2 ⟨rfl, hw2⟩
  have HB2 : Hid (Below W.heap.size W w2) := by show Below _ _ _; rw [hw2]; exact Below.new (Below.refl _ _) _
  have HQ2 : Hid (Fresh w2 W.heap.size #[.int .u64 s.hk, .int .u64 s.hb] 24) := by show Fresh _ _ _ _; rw [hw2]; exact Fresh.new _ _ _ _ rfl
  have R2 := HR.out.below HB2.out
  have r0 := R2.cell 0
  have r1 := R2.cell 1
  simp only [List.getElem?_toArray, List.getElem?_cons_zero, List.getElem?_cons_succ] at r0 r1
  clear R2 hw2
  go_wp2_with fail
  refine (within1_any x y _ _ _ _ HQ2.out).mono ?_
  rw [show (decide (x ≤ s.hk) && decide (y ≤ s.hb)) = f from HFF.out]
  rintro e WB ⟨rfl, hb3⟩
  have HBB := Lib.hid (Below.step HB.out (Below.step HB2.out hb3))
  have HFB := Lib.hid ((HF.out.below HB2.out).below hb3)
  have HRB := Lib.hid ((HR.out.below HB2.out).below hb3)
  have BD : Hid (Below WB.heap.size WB WB.drew) := (Below.refl _ _).drew
  clear hb3 r0 r1
  cases f
  · go_wp2_with fail
    go_ret
    exact ⟨ret_bool (a := false) HFF.out.symm, .of_below HBB.out, by rw [payIf_no HFF.out]; exact HFB.out⟩
  · have hfit : x ≤ s.hk ∧ y ≤ s.hb := by
      have h := HFF.out
      unfold payB at h
      simpa using h
    have hfs := HS.out
    have HM := Lib.hid (fun w => minus_any s.hk s.hb x y HXY.out.1.1 hfit.1 (by have := hfs.lk; have := hfs.bk1; have := hfs.hk1; omega) HXY.out.2.1 hfit.2 (by have := hfs.lb; have := hfs.bb1; have := hfs.hb1; omega) w)
    have HX2 := Lib.hid hfit
    clear hfit hfs
    have cI := (acc_cells HFB.out).2.2.1
    have cJ := (acc_cells HFB.out).2.2.2.1
    have r0 := HRB.out.cell 0
    have r1 := HRB.out.cell 1
    simp only [List.getElem?_toArray, List.getElem?_cons_zero, List.getElem?_cons_succ] at r0 r1
    go_wp2_with fail
    go_region_with
      (first
        | (go_at_call 48
           refine (HM.out _).mono ?_
           rintro e wz ⟨rfl, hbz⟩
           have hqz : Below WB.heap.size WB wz := Below.step BD.out hbz
           have Fz := HFB.out.below hqz
           have Rz := HRB.out.below hqz
           have cI := (acc_cells Fz).2.2.1
           have cJ := (acc_cells Fz).2.2.2.1
           have r0 := Rz.cell 0
           have r1 := Rz.cell 1
           simp only [List.getElem?_toArray, List.getElem?_cons_zero, List.getElem?_cons_succ] at r0 r1
           have zI := Fz.thawed 2
           have zJ := Fz.thawed 3))
    all_goals
      obtain ⟨W9, hW9⟩ : ∃ W9, W9 = ((wz.setCell ⟨a, 2, none⟩ (.int .u64 (s.hk - x))).setCell ⟨a, 3, none⟩ (.int .u64 (s.hb - y))) := ⟨_, rfl⟩
      rw [← hW9]
      have HF9 : Hid (Fresh W9 a (accCells { s with hk := s.hk - x, hb := s.hb - y } m) 60) := by show Fresh _ _ _ _; rw [hW9]; exact (Fz.set 2 _).set 3 _
      have hne : w.heap.size ≠ a := by
        intro e
        have h1 := HR.out
        have h2 := HF.out
        unfold Fresh at h1 h2
        rw [e, h2] at h1
        simp [accCells] at h1
      have HR9 : Hid (Fresh W9 w.heap.size #[.int .u64 x, .int .u64 y] 24) := by show Fresh _ _ _ _; rw [hW9]; exact (Rz.other hne 2 _).other hne 3 _
      have HT9 : Hid (Turned [a] w W9) := by show Turned _ _ _; rw [hW9]; exact ((Turned.of_below (Below.step HBB.out hqz)).setCell (.inl (by simp)) _ _).setCell (.inl (by simp)) _ _
      clear hW9 cI cJ r0 r1 zI zJ hbz hne Fz Rz hqz
      have r0 := HR9.out.cell 0
      have r1 := HR9.out.cell 1
      simp only [List.getElem?_toArray, List.getElem?_cons_zero, List.getElem?_cons_succ] at r0 r1
      go_wp2_with fail
      refine (free_any { s with hk := s.hk - x, hb := s.hb - y } a m x y _ HF9.out HXY.out.1.1 (by show x ≤ s.bk; have := HX2.out.1; have := HS.out.hk1; omega) (by show s.bk < _; have := HS.out.bk1; have := HS.out.lk; omega) HXY.out.2.1 (by show y ≤ s.bb; have := HX2.out.2; have := HS.out.hb1; omega) (by show s.bb < _; have := HS.out.bb1; have := HS.out.lb; omega)).mono ?_
      rintro e W10 ⟨rfl, ht10, hf10⟩
      have HT10 := Lib.hid (HT9.out.trans (W' := W9) ⟨ht10.os, ht10.tape, ht10.output, ht10.size, ht10.block⟩)
      have HF10 : Hid (Fresh W10 a (accCells (paid s x y) m) 60) := hf10
      clear ht10 hf10 r0 r1
      go_wp2_with fail
      go_ret
      exact ⟨ret_bool (a := true) HFF.out.symm, HT10.out, by rw [payIf_yes HFF.out]; exact HF10.out⟩

end Go.Proofs.Ytpnddccanelcnaa
