/- A purse: what its methods tell. -/
import Derived.Test.YtpnddccanelcnaaAcc
import Derived.Test.YtpnddccanelcnaaClosed
namespace Go.Proofs.Ytpnddccanelcnaa
open Go.RowKit
set_option maxRecDepth 100000
set_option maxHeartbeats 4000000

structure At (W : World) (p a m : Nat) (s : Pu) : Prop where
  hp : Fresh W p #[.pointer (some ⟨a, 0, none⟩)] 44
  ha : Fresh W a (accCells s m) 60
  hm : MapAt W m s.tk
theorem At.pa {W : World} {p a m : Nat} {s : Pu} (h : At W p a m s) : p ≠ a := by
  rintro rfl
  have h1 := h.hp
  have h2 := h.ha
  unfold Fresh at h1 h2
  rw [h1] at h2
  simp [accCells] at h2
theorem At.below {W W' : World} {p a m : Nat} {s : Pu} (h : At W p a m s) (hb : Below W.heap.size W W') : At W' p a m s :=
  ⟨h.hp.below hb, h.ha.below hb, h.hm.turned (S := []) (.of_below hb) (by simp)⟩
theorem At.cells {W : World} {p a m : Nat} {s : Pu} (h : At W p a m s) : W.cell? ⟨p, 0, none⟩ = some (.pointer (some ⟨a, 0, none⟩)) := h.hp.cell 0

theorem isNil_any {W : World} {p a m : Nat} {s : Pu} (h : At W p a m s) :
    Calls Try.prog 33 #[.pointer (some ⟨p, 0, none⟩)] W fun e w' => e = .returned (.bool false) ∧ w' = W := by
  have c := h.cells
  clear h
  go_enter Try.func33, Try.ntmps33
  go_wp2_with fail
  go_ret
  exact ⟨rfl, rfl⟩

theorem open_any {W : World} {p a m : Nat} {s : Pu} (h : At W p a m s) :
    Calls Try.prog 22 #[.pointer (some ⟨p, 0, none⟩)] W fun e w' => e = .returned (.int .i64 (s.tk.length : Int)) ∧ w' = W := by
  have HI := Lib.hid (isNil_any h)
  have c := h.cells
  have c6 := (acc_cells h.ha).2.2.2.2.2.2.1
  obtain ⟨es, cc, hb, hi⟩ := h.hm
  have hlen := fun ty => run_mlen hi hb ty
  clear h hb hi
  go_enter Try.func22, Try.ntmps22
  go_wp2_with fail
  refine HI.out.mono ?_
  rintro e w1 ⟨rfl, rfl⟩
  go_wp2_with fail
  go_ret
  exact ⟨rfl, rfl⟩

theorem has_any {W : World} {p a m : Nat} {s : Pu} (h : At W p a m s) :
    Calls Try.prog 19 #[.pointer (some ⟨p, 0, none⟩)] W fun e w' => e = .returned (lim s.hk s.hb) ∧ Below W.heap.size W w' := by
  have B0 := (Below.refl W.heap.size W).alloc (Nat.le_refl _) (.cells #[.int .u64 0, .int .u64 0] 24)
  have HI := Lib.hid (isNil_any (h.below B0))
  have c := (h.below B0).cells
  have c2 := (acc_cells (h.below B0).ha).2.2.1
  have c3 := (acc_cells (h.below B0).ha).2.2.2.1
  have R := Fresh.new W W.heap.size #[.int .u64 0, .int .u64 0] 24 rfl
  obtain ⟨W1, hW⟩ : ∃ W1, W1 = W.alloc (.cells #[.int .u64 0, .int .u64 0] 24) := ⟨_, rfl⟩
  rw [← hW] at B0 HI c c2 c3 R
  have HR := Lib.hid R
  have HB := Lib.hid B0
  have HW := Lib.hid hW
  have r0 := R.cell 0
  have r1 := R.cell 1
  simp only [List.getElem?_toArray, List.getElem?_cons_zero, List.getElem?_cons_succ] at r0 r1
  have z0 := R.thawed 0
  have z1 := R.thawed 1
  clear h B0 R hW
  go_enter Try.func19, Try.ntmps19
  go_wp2_with fail
  rw [← HW.out]
  refine HI.out.mono ?_
  rintro e w1 ⟨rfl, hw1⟩
  obtain rfl := hw1
  go_wp2_with fail
  obtain ⟨W9, hW9⟩ : ∃ W9, W9 = ((w1.setCell ⟨W.heap.size, 0, none⟩ (.int .u64 (s.hk))).setCell ⟨W.heap.size, 1, none⟩ (.int .u64 (s.hb))) := ⟨_, rfl⟩
  rw [← hW9]
  have R9 : Fresh W9 W.heap.size #[.int .u64 (s.hk), .int .u64 (s.hb)] 24 := by rw [hW9]; exact (HR.out.set 0 _).set 1 _
  have B9 : Below W.heap.size W W9 := by rw [hW9]; exact Below.setCell (Below.setCell HB.out (Nat.le_refl _) _) (Nat.le_refl _) _
  clear hW9
  have d0 := R9.cell 0
  have d1 := R9.cell 1
  simp only [List.getElem?_toArray, List.getElem?_cons_zero, List.getElem?_cons_succ] at d0 d1
  refine bodyPost_ret (v := lim (s.hk) (s.hb)) ?_ rfl ⟨rfl, B9⟩
  simp [results, Try.results19, go_sem, d0, d1]

theorem bound_any {W : World} {p a m : Nat} {s : Pu} (h : At W p a m s) :
    Calls Try.prog 20 #[.pointer (some ⟨p, 0, none⟩)] W fun e w' => e = .returned (lim s.bk s.bb) ∧ Below W.heap.size W w' := by
  have B0 := (Below.refl W.heap.size W).alloc (Nat.le_refl _) (.cells #[.int .u64 0, .int .u64 0] 24)
  have HI := Lib.hid (isNil_any (h.below B0))
  have c := (h.below B0).cells
  have c2 := (acc_cells (h.below B0).ha).2.2.2.2.1
  have c3 := (acc_cells (h.below B0).ha).2.2.2.2.2.1
  have R := Fresh.new W W.heap.size #[.int .u64 0, .int .u64 0] 24 rfl
  obtain ⟨W1, hW⟩ : ∃ W1, W1 = W.alloc (.cells #[.int .u64 0, .int .u64 0] 24) := ⟨_, rfl⟩
  rw [← hW] at B0 HI c c2 c3 R
  have HR := Lib.hid R
  have HB := Lib.hid B0
  have HW := Lib.hid hW
  have r0 := R.cell 0
  have r1 := R.cell 1
  simp only [List.getElem?_toArray, List.getElem?_cons_zero, List.getElem?_cons_succ] at r0 r1
  have z0 := R.thawed 0
  have z1 := R.thawed 1
  clear h B0 R hW
  go_enter Try.func20, Try.ntmps20
  go_wp2_with fail
  rw [← HW.out]
  refine HI.out.mono ?_
  rintro e w1 ⟨rfl, hw1⟩
  obtain rfl := hw1
  go_wp2_with fail
  obtain ⟨W9, hW9⟩ : ∃ W9, W9 = ((w1.setCell ⟨W.heap.size, 0, none⟩ (.int .u64 (s.bk))).setCell ⟨W.heap.size, 1, none⟩ (.int .u64 (s.bb))) := ⟨_, rfl⟩
  rw [← hW9]
  have R9 : Fresh W9 W.heap.size #[.int .u64 (s.bk), .int .u64 (s.bb)] 24 := by rw [hW9]; exact (HR.out.set 0 _).set 1 _
  have B9 : Below W.heap.size W W9 := by rw [hW9]; exact Below.setCell (Below.setCell HB.out (Nat.le_refl _) _) (Nat.le_refl _) _
  clear hW9
  have d0 := R9.cell 0
  have d1 := R9.cell 1
  simp only [List.getElem?_toArray, List.getElem?_cons_zero, List.getElem?_cons_succ] at d0 d1
  refine bodyPost_ret (v := lim (s.bk) (s.bb)) ?_ rfl ⟨rfl, B9⟩
  simp [results, Try.results20, go_sem, d0, d1]

theorem pleft_any {W : World} {p a m : Nat} {s : Pu} (h : At W p a m s) (hs : s.Fit) :
    Calls Try.prog 21 #[.pointer (some ⟨p, 0, none⟩)] W fun e w' => e = .returned (lim (s.lk - s.bk) (s.lb - s.bb)) ∧ Below W.heap.size W w' := by
  have B0 := (Below.refl W.heap.size W).alloc (Nat.le_refl _) (.cells #[.int .u64 0, .int .u64 0] 24)
  have HI := Lib.hid (isNil_any (h.below B0))
  have c := (h.below B0).cells
  have A0 := (h.below B0).ha
  have R := Fresh.new W W.heap.size #[.int .u64 0, .int .u64 0] 24 rfl
  obtain ⟨W1, hW⟩ : ∃ W1, W1 = W.alloc (.cells #[.int .u64 0, .int .u64 0] 24) := ⟨_, rfl⟩
  rw [← hW] at B0 HI c A0 R
  have HL := Lib.hid (left_any s a m _ A0 hs.bk0 hs.bk1 hs.lk hs.bb0 hs.bb1 hs.lb)
  have HR := Lib.hid R
  have HB := Lib.hid B0
  have HW := Lib.hid hW
  clear h B0 R hW A0 hs
  go_enter Try.func21, Try.ntmps21
  go_wp2_with fail
  rw [← HW.out]
  refine HI.out.mono ?_
  rintro e w1 ⟨rfl, hw1⟩
  obtain rfl := hw1
  go_wp2_with fail
  refine HL.out.mono ?_
  rintro e w2 ⟨rfl, hb2⟩
  have HR2 := Lib.hid (HR.out.below hb2)
  have HB2 := Lib.hid (Below.step HB.out hb2)
  clear hb2 c
  have r0 := HR2.out.cell 0
  have r1 := HR2.out.cell 1
  simp only [List.getElem?_toArray, List.getElem?_cons_zero, List.getElem?_cons_succ] at r0 r1
  have z0 := HR2.out.thawed 0
  have z1 := HR2.out.thawed 1
  go_wp2_with fail
  obtain ⟨W9, hW9⟩ : ∃ W9, W9 = ((w2.setCell ⟨W.heap.size, 0, none⟩ (.int .u64 (s.lk - s.bk))).setCell ⟨W.heap.size, 1, none⟩ (.int .u64 (s.lb - s.bb))) := ⟨_, rfl⟩
  rw [← hW9]
  have R9 : Fresh W9 W.heap.size #[.int .u64 (s.lk - s.bk), .int .u64 (s.lb - s.bb)] 24 := by rw [hW9]; exact (HR2.out.set 0 _).set 1 _
  have B9 : Below W.heap.size W W9 := by rw [hW9]; exact Below.setCell (Below.setCell HB2.out (Nat.le_refl _) _) (Nat.le_refl _) _
  clear hW9
  have d0 := R9.cell 0
  have d1 := R9.cell 1
  simp only [List.getElem?_toArray, List.getElem?_cons_zero, List.getElem?_cons_succ] at d0 d1
  refine bodyPost_ret (v := lim (s.lk - s.bk) (s.lb - s.bb)) ?_ rfl ⟨rfl, B9⟩
  simp [results, Try.results21, go_sem, d0, d1]

def codeOf (b : Bool) : Int := if b = true then 0 else 10
theorem Turned.more {S T : List Nat} {W W' : World} (h : Turned S W W') (hs : ∀ k ∈ S, k ∈ T) : Turned T W W' := ⟨h.os, h.tape, h.output, h.size, fun k hk hn => h.block k hk (fun e => hn (hs k e))⟩
theorem At.turned {W W' : World} {p a m : Nat} {s s' : Pu} (h : At W p a m s) (ht : Turned [a] W W') (hf : Fresh W' a (accCells s' m) 60) (hk : s'.tk = s.tk) : At W' p a m s' :=
  ⟨ht.other h.hp (by simpa using h.pa), hf, by rw [hk]; exact h.hm.turned ht (by simpa using (h.hm.ne h.ha).symm)⟩

theorem ppay_any {W : World} {p a m : Nat} {s : Pu} (x y : Int) (h : At W p a m s) (hs : s.Fit) (hx : U x) (hy : U y) :
    Calls Try.prog 18 #[.pointer (some ⟨p, 0, none⟩), .int .u64 x, .int .u64 y] W fun e w' => e = .returned (.int .i64 (codeOf (payB s x y))) ∧ Turned [a, m] W w' ∧ At w' p a m (payIf s x y) := by
  obtain ⟨f, hf⟩ : ∃ f, payB s x y = f := ⟨_, rfl⟩
  have HFF := Lib.hid hf
  have HI := Lib.hid (isNil_any h)
  have HA := Lib.hid h
  have HP := Lib.hid (pay_any s a m x y W h.ha hs hx hy)
  have c := h.cells
  clear hf h hs hx hy
  go_enter Try.func18, Try.ntmps18
  go_wp2_with fail
  refine HI.out.mono ?_
  rintro e w1 ⟨rfl, hw1⟩
  obtain rfl := hw1
  go_wp2_with fail
  refine HP.out.mono ?_
  rw [HFF.out]
  rintro e w2 ⟨rfl, ht, hf2⟩
  have HT := Lib.hid (ht.more (T := [a, m]) (by simp))
  have HA2 := Lib.hid (HA.out.turned ht hf2 (by unfold payIf; split <;> rfl))
  clear ht hf2 c
  cases f
  · go_wp2_with fail
    go_ret
    exact ⟨by rw [HFF.out]; rfl, HT.out, HA2.out⟩
  · go_wp2_with fail
    go_ret
    exact ⟨by rw [HFF.out]; rfl, HT.out, HA2.out⟩

end Go.Proofs.Ytpnddccanelcnaa
