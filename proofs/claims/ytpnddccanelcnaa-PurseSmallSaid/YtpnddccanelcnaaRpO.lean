/- The reference model's purse: Take, Pay, Refund. -/
import Derived.Test.YtpnddccanelcnaaRpB
namespace Go.Proofs.Ytpnddccanelcnaa
open Go.RowKit
set_option maxRecDepth 100000
set_option maxHeartbeats 4000000

def RP2 (w : World) (r : Rp) (v : Value) (c : Int) (e : Ending) (w' : World) : Prop := e = .returned (.tuple #[rv r v, .int .i64 c]) ∧ Below w.heap.size w w'
def RPF (w : World) (r : Rp) (c : Int) (e : Ending) (w' : World) : Prop := ∃ v, e = .returned (.tuple #[rv r v, .int .i64 c]) ∧ Below w.heap.size w w' ∧ Row w' w.heap.size v r.l
theorem Row.form {W : World} {B : Nat} {v : Value} {l : List Tq} (h : Row W B v l) : ∃ a n c, v = .slice a n c := by
  rcases h.view with ⟨rfl, _⟩ | ⟨g, cap, rfl, _⟩
  · exact ⟨_, _, _, rfl⟩
  · exact ⟨_, _, _, rfl⟩
/-- The boxes in which an operation begins. -/
def W2of (w : World) (r : Rp) (v : Value) : World := (w.alloc (.cells (rcells r v) TR)).alloc (.cells #[.int .u64 0, .int .u64 0, .int .u64 0, .int .u64 0, .slice none 0 0] TR)
theorem W2of_is (w : World) (r : Rp) (v : Value) : Below w.heap.size w (W2of w r v) ∧ Fresh (W2of w r v) w.heap.size (rcells r v) TR ∧ Fresh (W2of w r v) (w.heap.size + 1) #[.int .u64 0, .int .u64 0, .int .u64 0, .int .u64 0, .slice none 0 0] TR :=
  ⟨Below.new (Below.new (Below.refl _ _) _) _, (Fresh.new _ _ _ _ rfl).alloc _, Fresh.new _ _ _ _ (by simp)⟩

theorem rtake_no (r : Rp) (v : Value) (x y : Int) (w : World) (h : Row w 0 v r.l) (hn : r.l.length ≤ 1000) (hf : r.Fit) (hk : r.hk + sK r.l r.l.length ≤ r.gk) (hb : r.hb + sB r.l r.l.length ≤ r.gb) (uk : U r.gk) (ub : U r.gb) (hw : (decide (x ≤ r.gk - (r.hk + sK r.l r.l.length)) && decide (y ≤ r.gb - (r.hb + sB r.l r.l.length))) = false) :
    Calls Try.prog 27 #[rv r v, .int .u64 x, .int .u64 y] w (RP2 w r v 10) := by
  have HC := Lib.hid (fun W hW => rleft_any r v W hW hn hf hk hb uk ub)
  have HW : Hid (∀ W, Calls Try.prog 43 #[lim x y, lim (r.gk - (r.hk + sK r.l r.l.length)) (r.gb - (r.hb + sB r.l r.l.length))] W fun e w' => e = .returned (.bool false) ∧ Below W.heap.size W w') := fun W => by rw [← hw]; exact within2_any _ _ _ _ W
  obtain ⟨va, vn, vc, rfl⟩ := h.form
  have HR := Lib.hid h
  have hW := W2of_is w r (.slice va vn vc)
  obtain ⟨W2, hW2⟩ : ∃ W2, W2of w r (.slice va vn vc) = W2 := ⟨_, rfl⟩
  have HEQ : Hid (W2of w r (.slice va vn vc) = W2) := hW2
  rw [hW2] at hW
  have HB := Lib.hid hW.1
  have H1 := Lib.hid hW.2.1
  have H2 := Lib.hid hW.2.2
  clear hW hW2
  clear h hn hf hk hb uk ub hw
  go_enter Try.func27, Try.ntmps27
  go_upto_region 1 with fail
  change Code.wp _ _ _ _ (W2of w r (.slice va vn vc))
  rw [HEQ.out]
  obtain ⟨c0, c1, c2, c3, c4⟩ := rcells_at H1.out
  go_wp2_with fail
  refine (HC.out _ (HR.out.below HB.out)).mono ?_
  rintro e wa ⟨rfl, hba⟩
  go_wp2_with fail
  refine (HW.out _).mono ?_
  rintro e wb ⟨rfl, hbb⟩
  have H1' := Lib.hid ((H1.out.below hba).below hbb)
  have H2' := Lib.hid ((H2.out.below hba).below hbb)
  have HB' := Lib.hid (Below.step (Below.step HB.out hba) hbb)
  clear hba hbb c0 c1 c2 c3 c4
  obtain ⟨c0, c1, c2, c3, c4⟩ := rcells_at H1'.out
  obtain ⟨z0, z1⟩ := And.intro (fun i => H1'.out.thawed i) (fun i => H2'.out.thawed i)
  have d0 := H2'.out.cell 0
  have d1 := H2'.out.cell 1
  have d2 := H2'.out.cell 2
  have d3 := H2'.out.cell 3
  have d4 := H2'.out.cell 4
  simp only [List.getElem?_toArray, List.getElem?_cons_zero, List.getElem?_cons_succ] at d0 d1 d2 d3 d4
  go_wp2_with fail
  clear c0 c1 c2 c3 c4 d0 d1 d2 d3 d4 z0 z1
  obtain ⟨W9, hW9⟩ : ∃ W9, W9 = set5 wb (w.heap.size + 1) (r) (.slice va vn vc) := ⟨_, rfl⟩
  show bodyPost _ _ _ _ _ (set5 wb (w.heap.size + 1) (r) (.slice va vn vc))
  rw [← hW9]
  have R9 : Fresh W9 (w.heap.size + 1) (rcells (r) (.slice va vn vc)) TR := by rw [hW9]; exact set5_fresh H2'.out (r) _
  have B9 : Below w.heap.size w W9 := by rw [hW9]; exact set5_below HB'.out (by omega) (r) _
  clear hW9
  obtain ⟨d0, d1, d2, d3, d4⟩ := rcells_at R9
  refine bodyPost_ret (v := .tuple #[rv (r) (.slice va vn vc), .int .i64 10]) ?_ rfl ⟨rfl, B9⟩
  simp [results, Try.results27, go_sem, d0, d1, d2, d3, d4]

theorem rtake_yes (r : Rp) (v : Value) (x y : Int) (w : World) (h : Row w 0 v r.l) (hn : r.l.length ≤ 1000) (hf : r.Fit) (hk : r.hk + sK r.l r.l.length ≤ r.gk) (hb : r.hb + sB r.l r.l.length ≤ r.gb) (uk : U r.gk) (ub : U r.gb) (w1 : U (r.hk + x)) (w2 : U (r.hb + y)) (hw : (decide (x ≤ r.gk - (r.hk + sK r.l r.l.length)) && decide (y ≤ r.gb - (r.hb + sB r.l r.l.length))) = true) :
    Calls Try.prog 27 #[rv r v, .int .u64 x, .int .u64 y] w (RP2 w (takeR r x y) v 0) := by
  have HC := Lib.hid (fun W hW => rleft_any r v W hW hn hf hk hb uk ub)
  have HW : Hid (∀ W, Calls Try.prog 43 #[lim x y, lim (r.gk - (r.hk + sK r.l r.l.length)) (r.gb - (r.hb + sB r.l r.l.length))] W fun e w' => e = .returned (.bool true) ∧ Below W.heap.size W w') := fun W => by rw [← hw]; exact within2_any _ _ _ _ W
  have k1 : IntKind.u64.wrap (r.hk + x) = r.hk + x := by rw [wrapU]; have := w1.1; have := w1.2; omega
  have k2 : IntKind.u64.wrap (r.hb + y) = r.hb + y := by rw [wrapU]; have := w2.1; have := w2.2; omega
  obtain ⟨va, vn, vc, rfl⟩ := h.form
  have HR := Lib.hid h
  have hW := W2of_is w r (.slice va vn vc)
  obtain ⟨W2, hW2⟩ : ∃ W2, W2of w r (.slice va vn vc) = W2 := ⟨_, rfl⟩
  have HEQ : Hid (W2of w r (.slice va vn vc) = W2) := hW2
  rw [hW2] at hW
  have HB := Lib.hid hW.1
  have H1 := Lib.hid hW.2.1
  have H2 := Lib.hid hW.2.2
  clear hW hW2
  clear h hn hf hk hb uk ub w1 w2 hw
  go_enter Try.func27, Try.ntmps27
  go_upto_region 1 with fail
  change Code.wp _ _ _ _ (W2of w r (.slice va vn vc))
  rw [HEQ.out]
  obtain ⟨c0, c1, c2, c3, c4⟩ := rcells_at H1.out
  go_wp2_with fail
  refine (HC.out _ (HR.out.below HB.out)).mono ?_
  rintro e wa ⟨rfl, hba⟩
  go_wp2_with fail
  refine (HW.out _).mono ?_
  rintro e wb ⟨rfl, hbb⟩
  have H1' := Lib.hid ((H1.out.below hba).below hbb)
  have H2' := Lib.hid ((H2.out.below hba).below hbb)
  have HB' := Lib.hid (Below.step (Below.step HB.out hba) hbb)
  clear hba hbb c0 c1 c2 c3 c4
  obtain ⟨c0, c1, c2, c3, c4⟩ := rcells_at H1'.out
  obtain ⟨z0, z1⟩ := And.intro (fun i => H1'.out.thawed i) (fun i => H2'.out.thawed i)
  have d0 := H2'.out.cell 0
  have d1 := H2'.out.cell 1
  have d2 := H2'.out.cell 2
  have d3 := H2'.out.cell 3
  have d4 := H2'.out.cell 4
  simp only [List.getElem?_toArray, List.getElem?_cons_zero, List.getElem?_cons_succ] at d0 d1 d2 d3 d4
  go_wp2_with fail
  clear c0 c1 c2 c3 c4 d0 d1 d2 d3 d4 z0 z1
  obtain ⟨W9, hW9⟩ : ∃ W9, W9 = set5 ((wb.setCell ⟨w.heap.size, 2, none⟩ (.int .u64 (r.hk + x))).setCell ⟨w.heap.size, 3, none⟩ (.int .u64 (r.hb + y))) (w.heap.size + 1) (takeR r x y) (.slice va vn vc) := ⟨_, rfl⟩
  show bodyPost _ _ _ _ _ (set5 ((wb.setCell ⟨w.heap.size, 2, none⟩ (.int .u64 (r.hk + x))).setCell ⟨w.heap.size, 3, none⟩ (.int .u64 (r.hb + y))) (w.heap.size + 1) (takeR r x y) (.slice va vn vc))
  rw [← hW9]
  have R9 : Fresh W9 (w.heap.size + 1) (rcells (takeR r x y) (.slice va vn vc)) TR := by rw [hW9]; exact set5_fresh ((H2'.out.other (by omega) 2 _).other (by omega) 3 _) (takeR r x y) _
  have B9 : Below w.heap.size w W9 := by rw [hW9]; exact set5_below (Below.setCell (Below.setCell HB'.out (Nat.le_refl _) _) (Nat.le_refl _) _) (by omega) (takeR r x y) _
  clear hW9
  obtain ⟨d0, d1, d2, d3, d4⟩ := rcells_at R9
  refine bodyPost_ret (v := .tuple #[rv (takeR r x y) (.slice va vn vc), .int .i64 0]) ?_ rfl ⟨rfl, B9⟩
  simp [results, Try.results27, go_sem, d0, d1, d2, d3, d4]

theorem rpay_no (r : Rp) (v : Value) (x y : Int) (w : World) (h : Row w 0 v r.l) (hn : r.l.length ≤ 1000) (hw : (decide (x ≤ r.hk) && decide (y ≤ r.hb)) = false) :
    Calls Try.prog 28 #[rv r v, .int .u64 x, .int .u64 y] w (RP2 w r v 10) := by
  have HW : Hid (∀ W, Calls Try.prog 43 #[lim x y, lim (r.hk) (r.hb)] W fun e w' => e = .returned (.bool false) ∧ Below W.heap.size W w') := fun W => by rw [← hw]; exact within2_any _ _ _ _ W
  obtain ⟨va, vn, vc, rfl⟩ := h.form
  have HR := Lib.hid h
  have hW := W2of_is w r (.slice va vn vc)
  obtain ⟨W2, hW2⟩ : ∃ W2, W2of w r (.slice va vn vc) = W2 := ⟨_, rfl⟩
  have HEQ : Hid (W2of w r (.slice va vn vc) = W2) := hW2
  rw [hW2] at hW
  have HB := Lib.hid hW.1
  have H1 := Lib.hid hW.2.1
  have H2 := Lib.hid hW.2.2
  clear hW hW2
  clear h hn hw
  go_enter Try.func28, Try.ntmps28
  go_upto_region 1 with fail
  change Code.wp _ _ _ _ (W2of w r (.slice va vn vc))
  rw [HEQ.out]
  obtain ⟨c0, c1, c2, c3, c4⟩ := rcells_at H1.out
  go_wp2_with fail
  refine (HW.out _).mono ?_
  rintro e wb ⟨rfl, hbb⟩
  have H1' := Lib.hid (H1.out.below hbb)
  have H2' := Lib.hid (H2.out.below hbb)
  have HB' := Lib.hid (Below.step HB.out hbb)
  clear hbb c0 c1 c2 c3 c4
  obtain ⟨c0, c1, c2, c3, c4⟩ := rcells_at H1'.out
  obtain ⟨z0, z1⟩ := And.intro (fun i => H1'.out.thawed i) (fun i => H2'.out.thawed i)
  have d0 := H2'.out.cell 0
  have d1 := H2'.out.cell 1
  have d2 := H2'.out.cell 2
  have d3 := H2'.out.cell 3
  have d4 := H2'.out.cell 4
  simp only [List.getElem?_toArray, List.getElem?_cons_zero, List.getElem?_cons_succ] at d0 d1 d2 d3 d4
  go_wp2_with fail
  clear c0 c1 c2 c3 c4 d0 d1 d2 d3 d4 z0 z1
  obtain ⟨W9, hW9⟩ : ∃ W9, W9 = set5 wb (w.heap.size + 1) (r) (.slice va vn vc) := ⟨_, rfl⟩
  show bodyPost _ _ _ _ _ (set5 wb (w.heap.size + 1) (r) (.slice va vn vc))
  rw [← hW9]
  have R9 : Fresh W9 (w.heap.size + 1) (rcells (r) (.slice va vn vc)) TR := by rw [hW9]; exact set5_fresh H2'.out (r) _
  have B9 : Below w.heap.size w W9 := by rw [hW9]; exact set5_below HB'.out (by omega) (r) _
  clear hW9
  obtain ⟨d0, d1, d2, d3, d4⟩ := rcells_at R9
  refine bodyPost_ret (v := .tuple #[rv (r) (.slice va vn vc), .int .i64 10]) ?_ rfl ⟨rfl, B9⟩
  simp [results, Try.results28, go_sem, d0, d1, d2, d3, d4]

theorem rpay_yes (r : Rp) (v : Value) (x y : Int) (w : World) (h : Row w 0 v r.l) (hn : r.l.length ≤ 1000) (w1 : U (r.hk - x)) (w2 : U (r.hb - y)) (hw : (decide (x ≤ r.hk) && decide (y ≤ r.hb)) = true) :
    Calls Try.prog 28 #[rv r v, .int .u64 x, .int .u64 y] w (RP2 w (payR r x y) v 0) := by
  have HW : Hid (∀ W, Calls Try.prog 43 #[lim x y, lim (r.hk) (r.hb)] W fun e w' => e = .returned (.bool true) ∧ Below W.heap.size W w') := fun W => by rw [← hw]; exact within2_any _ _ _ _ W
  have k1 : IntKind.u64.wrap (r.hk - x) = r.hk - x := by rw [wrapU]; have := w1.1; have := w1.2; omega
  have k2 : IntKind.u64.wrap (r.hb - y) = r.hb - y := by rw [wrapU]; have := w2.1; have := w2.2; omega
  obtain ⟨va, vn, vc, rfl⟩ := h.form
  have HR := Lib.hid h
  have hW := W2of_is w r (.slice va vn vc)
  obtain ⟨W2, hW2⟩ : ∃ W2, W2of w r (.slice va vn vc) = W2 := ⟨_, rfl⟩
  have HEQ : Hid (W2of w r (.slice va vn vc) = W2) := hW2
  rw [hW2] at hW
  have HB := Lib.hid hW.1
  have H1 := Lib.hid hW.2.1
  have H2 := Lib.hid hW.2.2
  clear hW hW2
  clear h hn w1 w2 hw
  go_enter Try.func28, Try.ntmps28
  go_upto_region 1 with fail
  change Code.wp _ _ _ _ (W2of w r (.slice va vn vc))
  rw [HEQ.out]
  obtain ⟨c0, c1, c2, c3, c4⟩ := rcells_at H1.out
  go_wp2_with fail
  refine (HW.out _).mono ?_
  rintro e wb ⟨rfl, hbb⟩
  have H1' := Lib.hid (H1.out.below hbb)
  have H2' := Lib.hid (H2.out.below hbb)
  have HB' := Lib.hid (Below.step HB.out hbb)
  clear hbb c0 c1 c2 c3 c4
  obtain ⟨c0, c1, c2, c3, c4⟩ := rcells_at H1'.out
  obtain ⟨z0, z1⟩ := And.intro (fun i => H1'.out.thawed i) (fun i => H2'.out.thawed i)
  have d0 := H2'.out.cell 0
  have d1 := H2'.out.cell 1
  have d2 := H2'.out.cell 2
  have d3 := H2'.out.cell 3
  have d4 := H2'.out.cell 4
  simp only [List.getElem?_toArray, List.getElem?_cons_zero, List.getElem?_cons_succ] at d0 d1 d2 d3 d4
  go_wp2_with fail
  clear c0 c1 c2 c3 c4 d0 d1 d2 d3 d4 z0 z1
  obtain ⟨W9, hW9⟩ : ∃ W9, W9 = set5 ((wb.setCell ⟨w.heap.size, 2, none⟩ (.int .u64 (r.hk - x))).setCell ⟨w.heap.size, 3, none⟩ (.int .u64 (r.hb - y))) (w.heap.size + 1) (payR r x y) (.slice va vn vc) := ⟨_, rfl⟩
  show bodyPost _ _ _ _ _ (set5 ((wb.setCell ⟨w.heap.size, 2, none⟩ (.int .u64 (r.hk - x))).setCell ⟨w.heap.size, 3, none⟩ (.int .u64 (r.hb - y))) (w.heap.size + 1) (payR r x y) (.slice va vn vc))
  rw [← hW9]
  have R9 : Fresh W9 (w.heap.size + 1) (rcells (payR r x y) (.slice va vn vc)) TR := by rw [hW9]; exact set5_fresh ((H2'.out.other (by omega) 2 _).other (by omega) 3 _) (payR r x y) _
  have B9 : Below w.heap.size w W9 := by rw [hW9]; exact set5_below (Below.setCell (Below.setCell HB'.out (Nat.le_refl _) _) (Nat.le_refl _) _) (by omega) (payR r x y) _
  clear hW9
  obtain ⟨d0, d1, d2, d3, d4⟩ := rcells_at R9
  refine bodyPost_ret (v := .tuple #[rv (payR r x y) (.slice va vn vc), .int .i64 0]) ?_ rfl ⟨rfl, B9⟩
  simp [results, Try.results28, go_sem, d0, d1, d2, d3, d4]

theorem Row.fresh {W : World} {B g n c : Nat} {l : List Tq} (h : Row W B (.slice (some ⟨g, 0, none⟩) n c) l) : ∃ cur, Fresh W g cur 73 := by
  obtain ⟨_, h2⟩ := h
  rcases h2 with ⟨h2, _⟩ | ⟨g', cap, cur, h3, h4, h5, h6⟩
  · cases h2
  · cases h3
    exact ⟨cur, h5⟩
theorem Row.off {W : World} {B g n c : Nat} {l : List Tq} (h : Row W B (.slice (some ⟨g, 0, none⟩) n c) l) (j : Nat) (hj : j < l.length) : Row (W.setCell ⟨g, j * 3 + 2, none⟩ (.bool false)) B (.slice (some ⟨g, 0, none⟩) n c) (setOff l j) := by
  obtain ⟨h1, h2⟩ := h
  refine ⟨by rw [setOff_length]; exact (tcells_length _).trans (by rw [setOff_length]), ?_⟩
  rcases h2 with ⟨h2, _⟩ | ⟨g', cap, cur, h3, h4, h5, h6, h7, h8, h9⟩
  · cases h2
  · have h3' := h3
    cases h3
    rw [setOff_length]
    refine .inr ⟨g, c, cur.setIfInBounds (j * 3 + 2) (.bool false), rfl, h4, ?_, h6, h7, by rw [Array.size_setIfInBounds]; exact h8, ?_⟩
    · exact Fresh.set (show Fresh W g cur _ from h5) (j * 3 + 2) (.bool false)
    · rw [Array.toList_setIfInBounds, List.take_set, h9]
      exact tcells_off l j hj

theorem rref_no (r : Rp) (v : Value) (n : Int) (w : World) (h : Row w 0 v r.l) (hn : r.l.length ≤ 1000) (ho : (decide (1 ≤ n ∧ n ≤ (r.l.length : Int)) && isO r.l (n - 1).toNat) = false) :
    Calls Try.prog 26 #[rv r v, .int .i64 n] w (RP2 w r v 5) := by
  have HC : Hid (∀ W, Row W 0 v r.l → Calls Try.prog 41 #[rv r v, .int .i64 n] W fun e w' => e = .returned (.bool false) ∧ Below W.heap.size W w') := fun W hW => by rw [← ho]; exact open14_any r v n W hW hn
  obtain ⟨va, vn, vc, rfl⟩ := h.form
  have HR := Lib.hid h
  have hW := W2of_is w r (.slice va vn vc)
  obtain ⟨W2, hW2⟩ : ∃ W2, W2of w r (.slice va vn vc) = W2 := ⟨_, rfl⟩
  have HEQ : Hid (W2of w r (.slice va vn vc) = W2) := hW2
  rw [hW2] at hW
  have HB := Lib.hid hW.1
  have H1 := Lib.hid hW.2.1
  have H2 := Lib.hid hW.2.2
  clear hW hW2
  clear h hn ho
  go_enter Try.func26, Try.ntmps26
  go_upto_region 1 with fail
  change Code.wp _ _ _ _ (W2of w r (.slice va vn vc))
  rw [HEQ.out]
  obtain ⟨c0, c1, c2, c3, c4⟩ := rcells_at H1.out
  go_wp2_with fail
  refine (HC.out _ (HR.out.below HB.out)).mono ?_
  rintro e wb ⟨rfl, hbb⟩
  have H1' := Lib.hid (H1.out.below hbb)
  have H2' := Lib.hid (H2.out.below hbb)
  have HB' := Lib.hid (Below.step HB.out hbb)
  clear hbb c0 c1 c2 c3 c4
  obtain ⟨c0, c1, c2, c3, c4⟩ := rcells_at H1'.out
  obtain ⟨z0, z1⟩ := And.intro (fun i => H1'.out.thawed i) (fun i => H2'.out.thawed i)
  have d0 := H2'.out.cell 0
  have d1 := H2'.out.cell 1
  have d2 := H2'.out.cell 2
  have d3 := H2'.out.cell 3
  have d4 := H2'.out.cell 4
  simp only [List.getElem?_toArray, List.getElem?_cons_zero, List.getElem?_cons_succ] at d0 d1 d2 d3 d4
  go_wp2_with fail
  clear c0 c1 c2 c3 c4 d0 d1 d2 d3 d4 z0 z1
  obtain ⟨W9, hW9⟩ : ∃ W9, W9 = set5 wb (w.heap.size + 1) (r) (.slice va vn vc) := ⟨_, rfl⟩
  show bodyPost _ _ _ _ _ (set5 wb (w.heap.size + 1) (r) (.slice va vn vc))
  rw [← hW9]
  have R9 : Fresh W9 (w.heap.size + 1) (rcells (r) (.slice va vn vc)) TR := by rw [hW9]; exact set5_fresh H2'.out (r) _
  have B9 : Below w.heap.size w W9 := by rw [hW9]; exact set5_below HB'.out (by omega) (r) _
  clear hW9
  obtain ⟨d0, d1, d2, d3, d4⟩ := rcells_at R9
  refine bodyPost_ret (v := .tuple #[rv (r) (.slice va vn vc), .int .i64 5]) ?_ rfl ⟨rfl, B9⟩
  simp [results, Try.results26, go_sem, d0, d1, d2, d3, d4]

theorem rref_yes (r : Rp) (v : Value) (j : Nat) (w : World) (h : Row w 0 v r.l) (hn : r.l.length ≤ 1000) (hj : j < r.l.length) (ho : isO r.l j = true) :
    Calls Try.prog 26 #[rv r v, .int .i64 ((j : Int) + 1)] w (RPF w (refR r j) 0) := by
  have HC : Hid (∀ W, Row W 0 v r.l → Calls Try.prog 41 #[rv r v, .int .i64 ((j : Int) + 1)] W fun e w' => e = .returned (.bool true) ∧ Below W.heap.size W w') := fun W hW => by
    have := open14_any r v ((j : Int) + 1) W hW hn
    rw [decide_eq_true (show 1 ≤ (j : Int) + 1 ∧ (j : Int) + 1 ≤ (r.l.length : Int) from by omega), show ((j : Int) + 1 - 1).toNat = j from by omega, ho] at this
    exact this
  have HO := Lib.hid (fun W hW => own_any r v W hW hn)
  have HJ := Lib.hid hj
  have w1 : IntKind.i64.wrap ((j : Int) + 1 - 1) = (j : Int) := by rw [show (j : Int) + 1 - 1 = j from by omega]; exact IntWalk.i64_in _ (by omega)
  have w2 : (j : Int) + 1 - 1 = (j : Int) := by omega
  have q2 : (j : Int) < (r.l.length : Int) := by omega
  have q4 : (j : Int) ≤ 1000 := by omega
  have q3 : decide (j < r.l.length) = true := decide_eq_true hj
  obtain ⟨va, vn, vc, rfl⟩ := h.form
  have HR := Lib.hid h
  have hW := W2of_is w r (.slice va vn vc)
  obtain ⟨W2, hW2⟩ : ∃ W2, W2of w r (.slice va vn vc) = W2 := ⟨_, rfl⟩
  have HEQ : Hid (W2of w r (.slice va vn vc) = W2) := hW2
  rw [hW2] at hW
  have HB := Lib.hid hW.1
  have H1 := Lib.hid hW.2.1
  have H2 := Lib.hid hW.2.2
  clear hW hW2
  clear h hn ho hj
  go_enter Try.func26, Try.ntmps26
  go_upto_region 1 with fail
  change Code.wp _ _ _ _ (W2of w r (.slice va vn vc))
  rw [HEQ.out]
  obtain ⟨c0, c1, c2, c3, c4⟩ := rcells_at H1.out
  go_wp2_with fail
  refine (HC.out _ (HR.out.below HB.out)).mono ?_
  rintro e wb ⟨rfl, hbb⟩
  have H1' := Lib.hid (H1.out.below hbb)
  have H2' := Lib.hid (H2.out.below hbb)
  have HB' := Lib.hid (Below.step HB.out hbb)
  clear hbb c0 c1 c2 c3 c4
  obtain ⟨c0, c1, c2, c3, c4⟩ := rcells_at H1'.out
  go_wp2_with fail
  refine (HO.out _ (HR.out.below HB'.out)).mono ?_
  rintro e wc ⟨v', rfl, hbc, hrow⟩
  clear c0 c1 c2 c3 c4
  obtain ⟨z0, z1⟩ := And.intro (fun i => (H1'.out.below hbc).thawed i) (fun i => (H2'.out.below hbc).thawed i)
  rcases hrow.view with ⟨rfl, hnil⟩ | ⟨g, cap, rfl, hB, hg, hc1, hc2, hcell⟩
  · exact absurd HJ.out (by rw [hnil]; simp)
  have H1c := Lib.hid (H1'.out.below hbc)
  have H2c := Lib.hid (H2'.out.below hbc)
  have HBc := Lib.hid (Below.step HB'.out hbc)
  have HRc := Lib.hid hrow
  have hgw : w.heap.size + 1 < g := Nat.lt_of_lt_of_le H2'.out.lt hB
  obtain ⟨c0, c1, c2, c3, c4⟩ := rcells_at H1c.out
  clear hbc hrow hcell hc1 hc2 hB
  go_upto_region 4 with fail
  obtain ⟨W5, hW5⟩ : ∃ W5, W5 = set5 wc w.heap.size r (.slice (some ⟨g, 0, none⟩) r.l.length cap) := ⟨_, rfl⟩
  change Code.wp _ _ _ _ (set5 wc w.heap.size r (.slice (some ⟨g, 0, none⟩) r.l.length cap))
  rw [← hW5]
  have K1 : Hid (Fresh W5 w.heap.size (rcells r (.slice (some ⟨g, 0, none⟩) r.l.length cap)) TR) := by show Fresh _ _ _ _; rw [hW5]; exact set5_fresh H1c.out r _
  have K2 : Hid (Fresh W5 (w.heap.size + 1) #[.int .u64 0, .int .u64 0, .int .u64 0, .int .u64 0, .slice none 0 0] TR) := by show Fresh _ _ _ _; rw [hW5]; exact set5_other H2c.out (by omega) r _
  have KB : Hid (Below w.heap.size w W5) := by show Below _ _ _; rw [hW5]; exact set5_below HBc.out (Nat.le_refl _) r _
  have KR : Hid (Row W5 (w.heap.size + 1 + 1) (.slice (some ⟨g, 0, none⟩) r.l.length cap) r.l) := by show Row _ _ _ _; rw [hW5]; exact Row.set5 (HRc.out.low (Nat.le_of_lt_succ (Nat.lt_succ_of_le H2'.out.lt))) (by omega) r _
  clear hW5 c0 c1 c2 c3 c4 z0 z1
  obtain ⟨c0, c1, c2, c3, c4⟩ := rcells_at K1.out
  obtain ⟨z0, z1⟩ := And.intro (fun i => K1.out.thawed i) (fun i => K2.out.thawed i)
  obtain ⟨cur, hcur⟩ := KR.out.fresh
  have z3 := hcur.thawed (j * 3 + 2)
  obtain ⟨g', cap', e, -, -, x2⟩ := row_cells KR.out (Below.refl _ _) HJ.out
  cases e
  clear hcur
  have d0 := K2.out.cell 0
  have d1 := K2.out.cell 1
  have d2 := K2.out.cell 2
  have d3 := K2.out.cell 3
  have d4 := K2.out.cell 4
  simp only [List.getElem?_toArray, List.getElem?_cons_zero, List.getElem?_cons_succ] at d0 d1 d2 d3 d4
  have n1 : ¬ g = w.heap.size := by omega
  have n2 : ¬ w.heap.size = g := by omega
  have n3 : ¬ g = w.heap.size + 1 := by omega
  have n4 : ¬ w.heap.size + 1 = g := by omega
  go_wp2_with fail
  clear c0 c1 c2 c3 c4 d0 d1 d2 d3 d4 z0 z1 z3 x2
  obtain ⟨W9, hW9⟩ : ∃ W9, W9 = set5 (W5.setCell ⟨g, j * 3 + 2, none⟩ (.bool false)) (w.heap.size + 1) (refR r j) (.slice (some ⟨g, 0, none⟩) r.l.length cap) := ⟨_, rfl⟩
  show bodyPost _ _ _ _ _ (set5 (W5.setCell ⟨g, j * 3 + 2, none⟩ (.bool false)) (w.heap.size + 1) (refR r j) (.slice (some ⟨g, 0, none⟩) r.l.length cap))
  rw [← hW9]
  have R9 : Fresh W9 (w.heap.size + 1) (rcells (refR r j) (.slice (some ⟨g, 0, none⟩) r.l.length cap)) TR := by rw [hW9]; exact set5_fresh (K2.out.other n4 _ _) (refR r j) _
  have B9 : Below w.heap.size w W9 := by rw [hW9]; exact set5_below (Below.setCell KB.out (by show _ ≤ g; omega) _) (by omega) (refR r j) _
  have O9 : Row W9 w.heap.size (.slice (some ⟨g, 0, none⟩) r.l.length cap) (setOff r.l j) := by rw [hW9]; exact (Row.set5 (KR.out.off j HJ.out) (by omega) _ _).low (by omega)
  clear hW9
  obtain ⟨d0, d1, d2, d3, d4⟩ := rcells_at R9
  refine bodyPost_ret (v := .tuple #[rv (refR r j) (.slice (some ⟨g, 0, none⟩) r.l.length cap), .int .i64 0]) ?_ rfl ⟨_, rfl, B9, O9⟩
  simp [results, Try.results26, go_sem, d0, d1, d2, d3, d4]

end Go.Proofs.Ytpnddccanelcnaa
