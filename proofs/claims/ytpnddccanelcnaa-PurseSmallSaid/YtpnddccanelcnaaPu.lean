/- A purse: its state, and what its account's functions make of it. -/
import Derived.Test.YtpnddccanelcnaaAmt
namespace Go.Proofs.Ytpnddccanelcnaa
open Go.RowKit
set_option maxRecDepth 100000
set_option maxHeartbeats 4000000

structure Pu where
  lk : Int
  lb : Int
  hk : Int
  hb : Int
  bk : Int
  bb : Int
  last : Int
  tk : List Tk
def accCells (s : Pu) (m : Nat) : Array Value := #[.int .u64 s.lk, .int .u64 s.lb, .int .u64 s.hk, .int .u64 s.hb, .int .u64 s.bk, .int .u64 s.bb, .map (some m), .int .i64 s.last]
def U (x : Int) : Prop := 0 ≤ x ∧ x < 18446744073709551616

theorem acc_cells {W : World} {a m : Nat} {s : Pu} {t : TypeId} (h : Fresh W a (accCells s m) t) :
    W.cell? ⟨a, 0, none⟩ = some (.int .u64 s.lk) ∧ W.cell? ⟨a, 1, none⟩ = some (.int .u64 s.lb) ∧ W.cell? ⟨a, 2, none⟩ = some (.int .u64 s.hk) ∧ W.cell? ⟨a, 3, none⟩ = some (.int .u64 s.hb) ∧
    W.cell? ⟨a, 4, none⟩ = some (.int .u64 s.bk) ∧ W.cell? ⟨a, 5, none⟩ = some (.int .u64 s.bb) ∧ W.cell? ⟨a, 6, none⟩ = some (.map (some m)) ∧ W.cell? ⟨a, 7, none⟩ = some (.int .i64 s.last) :=
  ⟨h.cell 0, h.cell 1, h.cell 2, h.cell 3, h.cell 4, h.cell 5, h.cell 6, h.cell 7⟩

theorem left_any (s : Pu) (a m : Nat) (w : World) (h : Fresh w a (accCells s m) 60) (h1 : 0 ≤ s.bk) (h2 : s.bk ≤ s.lk) (h3 : s.lk < 18446744073709551616) (h4 : 0 ≤ s.bb) (h5 : s.bb ≤ s.lb) (h6 : s.lb < 18446744073709551616) :
    Calls Try.prog 40 #[.pointer (some ⟨a, 0, none⟩)] w fun e w' => e = .returned (lim (s.lk - s.bk) (s.lb - s.bb)) ∧ Below w.heap.size w w' := by
  have HM := Lib.hid (fun w => minus_any s.lk s.lb s.bk s.bb h1 h2 h3 h4 h5 h6 w)
  have hl := h.lt
  have HF := Lib.hid (h.alloc (.cells #[.int .u64 0, .int .u64 0] 24))
  have HR := Lib.hid (Fresh.new w w.heap.size #[.int .u64 0, .int .u64 0] 24 rfl)
  obtain ⟨W, hW⟩ : ∃ W, W = w.alloc (.cells #[.int .u64 0, .int .u64 0] 24) := ⟨_, rfl⟩
  have HB : Hid (Below w.heap.size w W) := by show Below _ _ _; rw [hW]; exact Below.new (Below.refl _ _) _
  have HW := Lib.hid hW
  rw [← hW] at HF HR
  obtain ⟨c0, c1, c2, c3, c4, c5, c6, c7⟩ := acc_cells HF.out
  have ne1 : a ≠ w.heap.size := by omega
  have ne2 : w.heap.size ≠ a := by omega
  have KS : Hid (∀ W', Below W.heap.size W W' → (W'.cell? ⟨a, 0, none⟩ = some (.int .u64 s.lk) ∧ W'.cell? ⟨a, 1, none⟩ = some (.int .u64 s.lb) ∧ W'.cell? ⟨a, 4, none⟩ = some (.int .u64 s.bk) ∧ W'.cell? ⟨a, 5, none⟩ = some (.int .u64 s.bb))) := fun W' hb => by
    have F := HF.out.below hb
    exact ⟨F.cell 0, F.cell 1, F.cell 4, F.cell 5⟩
  have BD : Hid (Below W.heap.size W W.drew) := (Below.refl _ _).drew
  clear h hl hW h1 h2 h3 h4 h5 h6
  go_enter Try.func40, Try.ntmps40
  go_wp2_with fail
  rw [← HW.out]
  go_region_held3 (fun W' => W'.cell? ⟨a, 0, none⟩ = some (.int .u64 s.lk) ∧ W'.cell? ⟨a, 1, none⟩ = some (.int .u64 s.lb) ∧ W'.cell? ⟨a, 4, none⟩ = some (.int .u64 s.bk) ∧ W'.cell? ⟨a, 5, none⟩ = some (.int .u64 s.bb))
    (first | go_keep | exact KS.out _ hq1)
    (first
      | (go_at_call 48
         refine (HM.out _).mono ?_
         rintro e w1 ⟨rfl, hb1⟩
         have hq1 : Below W.heap.size W w1 := Below.step BD.out hb1
         have R1 := HR.out.below hq1
         have r0 := R1.cell 0
         have r1 := R1.cell 1
         simp only [List.getElem?_toArray, List.getElem?_cons_zero, List.getElem?_cons_succ] at r0 r1
         have z0 := R1.thawed 0
         have z1 := R1.thawed 1))
  all_goals
    obtain ⟨W9, hW9⟩ : ∃ W9, W9 = ((w1.setCell ⟨w.heap.size, 0, none⟩ (.int .u64 (s.lk - s.bk))).setCell ⟨w.heap.size, 1, none⟩ (.int .u64 (s.lb - s.bb))) := ⟨_, rfl⟩
    rw [← hW9]
    have R9 : Fresh W9 w.heap.size #[.int .u64 (s.lk - s.bk), .int .u64 (s.lb - s.bb)] 24 := by rw [hW9]; exact (R1.set 0 _).set 1 _
    have B9 : Below w.heap.size w W9 := by rw [hW9]; exact Below.setCell (Below.setCell (Below.step HB.out hq1) (Nat.le_refl _) _) (Nat.le_refl _) _
    clear hW9 r0 r1 z0 z1 hb1
    have d0 := R9.cell 0
    have d1 := R9.cell 1
    simp only [List.getElem?_toArray, List.getElem?_cons_zero, List.getElem?_cons_succ] at d0 d1
    go_wp2_with fail
    refine bodyPost_ret (v := lim (s.lk - s.bk) (s.lb - s.bb)) ?_ rfl ⟨rfl, B9⟩
    simp [results, Try.results40, go_sem, d0, d1]

theorem use_any (s : Pu) (a m : Nat) (x y : Int) (w : World) (h : Fresh w a (accCells s m) 60) (h1 : 0 ≤ s.hk) (h2 : 0 ≤ x) (h3 : s.hk + x < 18446744073709551616) (h4 : 0 ≤ s.hb) (h5 : 0 ≤ y) (h6 : s.hb + y < 18446744073709551616) :
    Calls Try.prog 37 #[.pointer (some ⟨a, 0, none⟩), lim x y] w fun e w' => e = .returned (.tuple #[]) ∧ Turned [a] w w' ∧ Fresh w' a (accCells { s with hk := s.hk + x, hb := s.hb + y } m) 60 := by
  have HM := Lib.hid (fun w => plus_any s.hk s.hb x y h1 h2 h3 h4 h5 h6 w)
  have hl := h.lt
  have HF := Lib.hid (h.alloc (.cells #[.int .u64 x, .int .u64 y] 24))
  have HR := Lib.hid (Fresh.new w w.heap.size #[.int .u64 x, .int .u64 y] 24 rfl)
  obtain ⟨W, hW⟩ : ∃ W, W = w.alloc (.cells #[.int .u64 x, .int .u64 y] 24) := ⟨_, rfl⟩
  have HB : Hid (Below w.heap.size w W) := by show Below _ _ _; rw [hW]; exact Below.new (Below.refl _ _) _
  have HW := Lib.hid hW
  rw [← hW] at HF HR
  have c2 := (acc_cells HF.out).2.2.1
  have c3 := (acc_cells HF.out).2.2.2.1
  have r0 := HR.out.cell 0
  have r1 := HR.out.cell 1
  simp only [List.getElem?_toArray, List.getElem?_cons_zero, List.getElem?_cons_succ] at r0 r1
  have BD : Hid (Below W.heap.size W W.drew) := (Below.refl _ _).drew
  clear h hl hW h1 h2 h3 h4 h5 h6
  go_enter Try.func37, Try.ntmps37
  go_wp2_with fail
  rw [← HW.out]
  go_region_with
    (first
      | (go_at_call 46
         refine (HM.out _).mono ?_
         rintro e w1 ⟨rfl, hb1⟩
         have hq1 : Below W.heap.size W w1 := Below.step BD.out hb1
         have F1 := HF.out.below hq1
         have R1 := HR.out.below hq1
         have c2 := (acc_cells F1).2.2.1
         have c3 := (acc_cells F1).2.2.2.1
         have r0 := R1.cell 0
         have r1 := R1.cell 1
         simp only [List.getElem?_toArray, List.getElem?_cons_zero, List.getElem?_cons_succ] at r0 r1
         have z2 := F1.thawed 2
         have z3 := F1.thawed 3))
  all_goals
    obtain ⟨W9, hW9⟩ : ∃ W9, W9 = ((w1.setCell ⟨a, 2, none⟩ (.int .u64 (s.hk + x))).setCell ⟨a, 3, none⟩ (.int .u64 (s.hb + y))) := ⟨_, rfl⟩
    rw [← hW9]
    have F9 : Fresh W9 a (accCells { s with hk := s.hk + x, hb := s.hb + y } m) 60 := by rw [hW9]; exact (F1.set 2 _).set 3 _
    have T9 : Turned [a] w W9 := by rw [hW9]; exact ((Turned.of_below (Below.step HB.out hq1)).setCell (.inl (by simp)) _ _).setCell (.inl (by simp)) _ _
    clear hW9 c2 c3 r0 r1 z2 z3 hb1
    go_end0
    exact ⟨rfl, T9, F9⟩

theorem free_any (s : Pu) (a m : Nat) (x y : Int) (w : World) (h : Fresh w a (accCells s m) 60) (h1 : 0 ≤ x) (h2 : x ≤ s.bk) (h3 : s.bk < 18446744073709551616) (h4 : 0 ≤ y) (h5 : y ≤ s.bb) (h6 : s.bb < 18446744073709551616) :
    Calls Try.prog 38 #[.pointer (some ⟨a, 0, none⟩), lim x y] w fun e w' => e = .returned (.tuple #[]) ∧ Turned [a] w w' ∧ Fresh w' a (accCells { s with bk := s.bk - x, bb := s.bb - y } m) 60 := by
  have HM := Lib.hid (fun w => minus_any s.bk s.bb x y h1 h2 h3 h4 h5 h6 w)
  have hl := h.lt
  have HF := Lib.hid (h.alloc (.cells #[.int .u64 x, .int .u64 y] 24))
  have HR := Lib.hid (Fresh.new w w.heap.size #[.int .u64 x, .int .u64 y] 24 rfl)
  obtain ⟨W, hW⟩ : ∃ W, W = w.alloc (.cells #[.int .u64 x, .int .u64 y] 24) := ⟨_, rfl⟩
  have HB : Hid (Below w.heap.size w W) := by show Below _ _ _; rw [hW]; exact Below.new (Below.refl _ _) _
  have HW := Lib.hid hW
  rw [← hW] at HF HR
  have c2 := (acc_cells HF.out).2.2.2.2.1
  have c3 := (acc_cells HF.out).2.2.2.2.2.1
  have r0 := HR.out.cell 0
  have r1 := HR.out.cell 1
  simp only [List.getElem?_toArray, List.getElem?_cons_zero, List.getElem?_cons_succ] at r0 r1
  have BD : Hid (Below W.heap.size W W.drew) := (Below.refl _ _).drew
  clear h hl hW h1 h2 h3 h4 h5 h6
  go_enter Try.func38, Try.ntmps38
  go_wp2_with fail
  rw [← HW.out]
  go_region_with
    (first
      | (go_at_call 48
         refine (HM.out _).mono ?_
         rintro e w1 ⟨rfl, hb1⟩
         have hq1 : Below W.heap.size W w1 := Below.step BD.out hb1
         have F1 := HF.out.below hq1
         have R1 := HR.out.below hq1
         have c2 := (acc_cells F1).2.2.2.2.1
         have c3 := (acc_cells F1).2.2.2.2.2.1
         have r0 := R1.cell 0
         have r1 := R1.cell 1
         simp only [List.getElem?_toArray, List.getElem?_cons_zero, List.getElem?_cons_succ] at r0 r1
         have z2 := F1.thawed 4
         have z3 := F1.thawed 5))
  all_goals
    obtain ⟨W9, hW9⟩ : ∃ W9, W9 = ((w1.setCell ⟨a, 4, none⟩ (.int .u64 (s.bk - x))).setCell ⟨a, 5, none⟩ (.int .u64 (s.bb - y))) := ⟨_, rfl⟩
    rw [← hW9]
    have F9 : Fresh W9 a (accCells { s with bk := s.bk - x, bb := s.bb - y } m) 60 := by rw [hW9]; exact (F1.set 4 _).set 5 _
    have T9 : Turned [a] w W9 := by rw [hW9]; exact ((Turned.of_below (Below.step HB.out hq1)).setCell (.inl (by simp)) _ _).setCell (.inl (by simp)) _ _
    clear hW9 c2 c3 r0 r1 z2 z3 hb1
    go_end0
    exact ⟨rfl, T9, F9⟩

def fitB (s : Pu) (x y : Int) : Bool := decide (x ≤ s.lk - s.bk) && decide (y ≤ s.lb - s.bb)
def took (s : Pu) (x y : Int) : Pu := { s with bk := s.bk + x, bb := s.bb + y }
def tookIf (s : Pu) (x y : Int) : Pu := if fitB s x y = true then took s x y else s
theorem tookIf_yes {s : Pu} {x y : Int} (h : fitB s x y = true) : tookIf s x y = took s x y := by unfold tookIf; rw [if_pos h]
theorem tookIf_no {s : Pu} {x y : Int} (h : fitB s x y = false) : tookIf s x y = s := by unfold tookIf; rw [if_neg (by rw [h]; decide)]
structure Pu.Fit (s : Pu) : Prop where
  bk0 : 0 ≤ s.bk
  bk1 : s.bk ≤ s.lk
  lk : s.lk < 18446744073709551616
  bb0 : 0 ≤ s.bb
  bb1 : s.bb ≤ s.lb
  lb : s.lb < 18446744073709551616
  hk0 : 0 ≤ s.hk
  hk1 : s.hk ≤ s.bk
  hb0 : 0 ≤ s.hb
  hb1 : s.hb ≤ s.bb

theorem reserve_any (s : Pu) (a m : Nat) (x y : Int) (w : World) (h : Fresh w a (accCells s m) 60) (hs : s.Fit) (hx : U x) (hy : U y) :
    Calls Try.prog 35 #[.pointer (some ⟨a, 0, none⟩), lim x y] w fun e w' => e = .returned (.bool (fitB s x y)) ∧ Turned [a] w w' ∧ Fresh w' a (accCells (tookIf s x y) m) 60 := by
  obtain ⟨f, hf⟩ : ∃ f, fitB s x y = f := ⟨_, rfl⟩
  have HS := Lib.hid hs
  have HXY := Lib.hid (And.intro hx hy)
  have HFF := Lib.hid hf
  have hl := h.lt
  have HF := Lib.hid (h.alloc (.cells #[.int .u64 x, .int .u64 y] 24))
  have HR := Lib.hid (Fresh.new w w.heap.size #[.int .u64 x, .int .u64 y] 24 rfl)
  obtain ⟨W, hW⟩ : ∃ W, W = w.alloc (.cells #[.int .u64 x, .int .u64 y] 24) := ⟨_, rfl⟩
  have HB : Hid (Below w.heap.size w W) := by show Below _ _ _; rw [hW]; exact Below.new (Below.refl _ _) _
  have HW := Lib.hid hW
  rw [← hW] at HF HR
  clear h hl hW hs hx hy hf
  go_enter Try.func35, Try.ntmps35
  go_wp2_with fail
  rw [← HW.out]
  refine (left_any s a m _ HF.out HS.out.bk0 HS.out.bk1 HS.out.lk HS.out.bb0 HS.out.bb1 HS.out.lb).mono ?_
  rintro e w1 ⟨rfl, hb1⟩
  go_wp2_with fail
  refine (within_any _ _ _).mono ?_
  rintro e w2 ⟨rfl, hw2⟩
  have HB2 : Hid (Below W.heap.size W w2) := by show Below _ _ _; rw [hw2]; exact Below.new hb1 _
  have HQ2 : Hid (Fresh w2 w1.heap.size #[.int .u64 (s.lk - s.bk), .int .u64 (s.lb - s.bb)] 24) := by show Fresh _ _ _ _; rw [hw2]; exact Fresh.new _ _ _ _ rfl
  have R2 := HR.out.below HB2.out
  have r0 := R2.cell 0
  have r1 := R2.cell 1
  simp only [List.getElem?_toArray, List.getElem?_cons_zero, List.getElem?_cons_succ] at r0 r1
  clear R2 hw2 hb1
  go_wp2_with fail
  refine (within1_any x y _ _ _ _ HQ2.out).mono ?_
  rw [show (decide (x ≤ s.lk - s.bk) && decide (y ≤ s.lb - s.bb)) = f from HFF.out]
  rintro e WB ⟨rfl, hb3⟩
  have HBB := Lib.hid (Below.step HB.out (Below.step HB2.out hb3))
  have HFB := Lib.hid ((HF.out.below HB2.out).below hb3)
  have HRB := Lib.hid ((HR.out.below HB2.out).below hb3)
  have BD : Hid (Below WB.heap.size WB WB.drew) := (Below.refl _ _).drew
  clear hb3 r0 r1
  cases f
  · go_wp2_with fail
    go_ret
    exact ⟨ret_bool (a := false) HFF.out.symm, .of_below HBB.out, by rw [tookIf_no HFF.out]; exact HFB.out⟩
  · have hfit : x ≤ s.lk - s.bk ∧ y ≤ s.lb - s.bb := by
      have h := HFF.out
      unfold fitB at h
      simpa using h
    have HM := Lib.hid (fun w => plus_any s.bk s.bb x y HS.out.bk0 HXY.out.1.1 (by have := HS.out.lk; omega) HS.out.bb0 HXY.out.2.1 (by have := HS.out.lb; omega) w)
    clear hfit
    have cI := (acc_cells HFB.out).2.2.2.2.1
    have cJ := (acc_cells HFB.out).2.2.2.2.2.1
    have r0 := HRB.out.cell 0
    have r1 := HRB.out.cell 1
    simp only [List.getElem?_toArray, List.getElem?_cons_zero, List.getElem?_cons_succ] at r0 r1
    go_wp2_with fail
    go_region_with
      (first
        | (go_at_call 46
           refine (HM.out _).mono ?_
           rintro e wz ⟨rfl, hbz⟩
           have hqz : Below WB.heap.size WB wz := Below.step BD.out hbz
           have Fz := HFB.out.below hqz
           have Rz := HRB.out.below hqz
           have cI := (acc_cells Fz).2.2.2.2.1
           have cJ := (acc_cells Fz).2.2.2.2.2.1
           have r0 := Rz.cell 0
           have r1 := Rz.cell 1
           simp only [List.getElem?_toArray, List.getElem?_cons_zero, List.getElem?_cons_succ] at r0 r1
           have zI := Fz.thawed 4
           have zJ := Fz.thawed 5))
    all_goals
      obtain ⟨W9, hW9⟩ : ∃ W9, W9 = ((wz.setCell ⟨a, 4, none⟩ (.int .u64 (s.bk + x))).setCell ⟨a, 5, none⟩ (.int .u64 (s.bb + y))) := ⟨_, rfl⟩
      rw [← hW9]
      have F9 : Fresh W9 a (accCells (took s x y) m) 60 := by rw [hW9]; exact (Fz.set 4 _).set 5 _
      have T9 : Turned [a] w W9 := by rw [hW9]; exact ((Turned.of_below (Below.step HBB.out hqz)).setCell (.inl (by simp)) _ _).setCell (.inl (by simp)) _ _
      clear hW9 cI cJ r0 r1 zI zJ hbz
      go_wp2_with fail
      go_ret
      exact ⟨ret_bool (a := true) HFF.out.symm, T9, by rw [tookIf_yes HFF.out]; exact F9⟩

end Go.Proofs.Ytpnddccanelcnaa
