/- The reference model's purse: Commit and Reserve. -/
import Derived.Test.YtpnddccanelcnaaRpO
namespace Go.Proofs.Ytpnddccanelcnaa
open Go.RowKit
set_option maxRecDepth 100000
set_option maxHeartbeats 4000000

theorem Row.formOf {W : World} {B : Nat} {v : Value} {l : List Tq} (h : Row W B v l) {j : Nat} (hj : j < l.length) : ∃ g c, v = .slice (some ⟨g, 0, none⟩) l.length c ∧ B ≤ g ∧ g < W.heap.size ∧ W.cell? ⟨g, j * 3, none⟩ = some (.int .u64 l[j].k) ∧ W.cell? ⟨g, j * 3 + 1, none⟩ = some (.int .u64 l[j].b) := by
  rcases h.view with ⟨_, hnil⟩ | ⟨g, cap, rfl, hB, hg, _, _, hc⟩
  · rw [hnil] at hj; simp at hj
  · obtain ⟨a, b, c⟩ := hc j _ (List.getElem?_eq_getElem hj)
    exact ⟨g, cap, rfl, hB, hg, a, b⟩
theorem set5_heap (W : World) (p : Nat) (r : Rp) (v : Value) (k : Nat) (h : k ≠ p) : (set5 W p r v).heap[k]? = W.heap[k]? := by
  unfold set5
  rw [Below.heap_setCell _ _ _ k h, Below.heap_setCell _ _ _ k h, Below.heap_setCell _ _ _ k h, Below.heap_setCell _ _ _ k h, Below.heap_setCell _ _ _ k h]
def RP3 (w : World) (r : Rp) (v : Value) (n c : Int) (e : Ending) (w' : World) : Prop := e = .returned (.tuple #[rv r v, .int .i64 n, .int .i64 c]) ∧ Below w.heap.size w w'
def RPF3 (w : World) (r : Rp) (n c : Int) (e : Ending) (w' : World) : Prop := ∃ v, e = .returned (.tuple #[rv r v, .int .i64 n, .int .i64 c]) ∧ Below w.heap.size w w' ∧ Row w' w.heap.size v r.l

theorem rcom_no (r : Rp) (v : Value) (n : Int) (w : World) (h : Row w 0 v r.l) (hn : r.l.length ≤ 1000) (ho : (decide (1 ≤ n ∧ n ≤ (r.l.length : Int)) && isO r.l (n - 1).toNat) = false) :
    Calls Try.prog 25 #[rv r v, .int .i64 n] w (RP2 w r v 5) := by
  have HC := Lib.hid (fun W hW => rref_no r v n W hW hn ho)
  obtain ⟨va, vn, vc, rfl⟩ := h.form
  have HR := Lib.hid h
  have hW := W2of_is w r (.slice va vn vc)
  obtain ⟨W2, hW2⟩ : ∃ W2, W2of w r (.slice va vn vc) = W2 := ⟨_, rfl⟩
  have HEQ : Hid (W2of w r (.slice va vn vc) = W2) := hW2
  rw [hW2] at hW
  have HB := Lib.hid hW.1
  have H1 := Lib.hid hW.2.1
  have H2 := Lib.hid hW.2.2
  clear hW hW2
  clear h hn ho
  go_enter Try.func25, Try.ntmps25
  go_upto_region 1 with fail
  change Code.wp _ _ _ _ (W2of w r (.slice va vn vc))
  rw [HEQ.out]
  obtain ⟨c0, c1, c2, c3, c4⟩ := rcells_at H1.out
  go_wp2_with fail
  refine (HC.out _ (HR.out.below HB.out)).mono ?_
  rintro e wb ⟨rfl, hbb⟩
  have H2' := Lib.hid ((H2.out.below hbb).alloc (.cells (rcells r (.slice va vn vc)) TR))
  have H3' := Lib.hid (Fresh.new wb wb.heap.size (rcells r (.slice va vn vc)) TR rfl)
  have HB' := Lib.hid (Below.new (Below.step HB.out hbb) (.cells (rcells r (.slice va vn vc)) TR))
  clear hbb c0 c1 c2 c3 c4
  go_upto_region 2 with fail
  obtain ⟨W5, hW5⟩ : ∃ W5, W5 = wb.alloc (.cells (rcells r (.slice va vn vc)) TR) := ⟨_, rfl⟩
  change Code.wp _ _ _ _ (wb.alloc (.cells (rcells r (.slice va vn vc)) TR))
  rw [← hW5] at H2' H3' HB' ⊢
  clear hW5
  obtain ⟨c0, c1, c2, c3, c4⟩ := rcells_at H3'.out
  have d0 := H2'.out.cell 0
  have d1 := H2'.out.cell 1
  have d2 := H2'.out.cell 2
  have d3 := H2'.out.cell 3
  have d4 := H2'.out.cell 4
  simp only [List.getElem?_toArray, List.getElem?_cons_zero, List.getElem?_cons_succ] at d0 d1 d2 d3 d4
  have z1 := fun i => H2'.out.thawed i
  go_wp2_with fail
  clear c0 c1 c2 c3 c4 d0 d1 d2 d3 d4 z1
  obtain ⟨W9, hW9⟩ : ∃ W9, W9 = set5 W5 (w.heap.size + 1) (r) (.slice va vn vc) := ⟨_, rfl⟩
  show bodyPost _ _ _ _ _ (set5 W5 (w.heap.size + 1) (r) (.slice va vn vc))
  rw [← hW9]
  have R9 : Fresh W9 (w.heap.size + 1) (rcells (r) (.slice va vn vc)) TR := by rw [hW9]; exact set5_fresh H2'.out (r) _
  have B9 : Below w.heap.size w W9 := by rw [hW9]; exact set5_below HB'.out (by omega) (r) _
  clear hW9
  obtain ⟨d0, d1, d2, d3, d4⟩ := rcells_at R9
  refine bodyPost_ret (v := .tuple #[rv (r) (.slice va vn vc), .int .i64 5]) ?_ rfl ⟨rfl, B9⟩
  simp [results, Try.results25, go_sem, d0, d1, d2, d3, d4]

theorem rcom_yes (r : Rp) (v : Value) (j : Nat) (k b : Int) (w : World) (h : Row w 0 v r.l) (hn : r.l.length ≤ 1000) (hj : j < r.l.length) (ho : isO r.l j = true) (hk : r.l[j].k = k) (hb : r.l[j].b = b) (u1 : U (r.hk + k)) (u2 : U (r.hb + b)) :
    Calls Try.prog 25 #[rv r v, .int .i64 ((j : Int) + 1)] w (RPF w (comR r j k b) 0) := by
  have HC := Lib.hid (fun W hW => rref_yes r v j W hW hn hj ho)
  have HJ := Lib.hid hj
  have w1 : IntKind.i64.wrap (j : Int) = (j : Int) := IntWalk.i64_in _ (by omega)
  have w2 : (j : Int) + 1 - 1 = (j : Int) := by omega
  have w3 : IntKind.i64.wrap ((j : Int) + 1 - 1) = (j : Int) := by rw [w2, w1]
  have q2 : (j : Int) < (r.l.length : Int) := by omega
  have q4 : (j : Int) ≤ 1000 := by omega
  have q3 : decide (j < r.l.length) = true := decide_eq_true hj
  have k1 : IntKind.u64.wrap (r.hk + k) = r.hk + k := by rw [wrapU]; have := u1.1; have := u1.2; omega
  have k2 : IntKind.u64.wrap (r.hb + b) = r.hb + b := by rw [wrapU]; have := u2.1; have := u2.2; omega
  obtain ⟨g, cap, rfl, -, hg, x0, x1⟩ := h.formOf hj
  rw [hk] at x0
  rw [hb] at x1
  have X := Lib.hid (And.intro x0 x1)
  clear x0 x1 u1 u2 hk hb
  have HR := Lib.hid h
  have hW := W2of_is w r (.slice (some ⟨g, 0, none⟩) r.l.length cap)
  obtain ⟨W2, hW2⟩ : ∃ W2, W2of w r (.slice (some ⟨g, 0, none⟩) r.l.length cap) = W2 := ⟨_, rfl⟩
  have HEQ : Hid (W2of w r (.slice (some ⟨g, 0, none⟩) r.l.length cap) = W2) := hW2
  rw [hW2] at hW
  have HB := Lib.hid hW.1
  have H1 := Lib.hid hW.2.1
  have H2 := Lib.hid hW.2.2
  clear hW hW2 h hn ho hj
  go_enter Try.func25, Try.ntmps25
  go_upto_region 1 with fail
  change Code.wp _ _ _ _ (W2of w r (.slice (some ⟨g, 0, none⟩) r.l.length cap))
  rw [HEQ.out]
  obtain ⟨c0, c1, c2, c3, c4⟩ := rcells_at H1.out
  go_wp2_with fail
  refine (HC.out _ (HR.out.below HB.out)).mono ?_
  rintro e wb ⟨v1, rfl, hbb, hrow⟩
  obtain ⟨xa, xn, xc, rfl⟩ := hrow.form
  clear c0 c1 c2 c3 c4
  go_upto_region 2 with fail
  obtain ⟨q, hq⟩ : ∃ q, q = wb.heap.size := ⟨_, rfl⟩
  have hqw : w.heap.size + 1 < q := by rw [hq]; exact Nat.lt_of_lt_of_le H2.out.lt hbb.size
  have hqg : ¬ g = q := by omega
  have hqg' : ¬ q = g := by omega
  obtain ⟨W5, hW5⟩ : ∃ W5, W5 = wb.alloc (.cells (rcells (refR r j) (.slice xa xn xc)) TR) := ⟨_, rfl⟩
  change Code.wp _ _ _ _ (wb.alloc (.cells (rcells (refR r j) (.slice xa xn xc)) TR))
  rw [← hW5, ← hq]
  have B5 : Hid (Below w.heap.size w W5) := by show Below _ _ _; rw [hW5]; exact Below.new (Below.step HB.out hbb) _
  have P5 : Hid (Fresh W5 w.heap.size (rcells r (.slice (some ⟨g, 0, none⟩) r.l.length cap)) TR) := by show Fresh _ _ _ _; rw [hW5]; exact (H1.out.below hbb).alloc _
  have S5 : Hid (Fresh W5 (w.heap.size + 1) #[.int .u64 0, .int .u64 0, .int .u64 0, .int .u64 0, .slice none 0 0] TR) := by show Fresh _ _ _ _; rw [hW5]; exact (H2.out.below hbb).alloc _
  have Q5 : Hid (Fresh W5 q #[.int .u64 r.gk, .int .u64 r.gb, .int .u64 r.hk, .int .u64 r.hb, .slice xa xn xc] TR) := by show Fresh _ _ _ _; rw [hW5]; exact Fresh.new wb _ _ _ hq.symm
  have R5 : Hid (Row wb (w.heap.size + 1 + 1) (.slice xa xn xc) (setOff r.l j)) := hrow.low (Nat.le_of_lt_succ (Nat.lt_succ_of_le H2.out.lt))
  have M5 : Hid (∀ k, k < q → W5.heap[k]? = wb.heap[k]?) := by
    intro k hk
    rw [hW5]
    exact Below.heap_alloc wb _ k (by omega)
  have HQ := Lib.hid hq
  clear hW5 hbb hrow hq
  have a4 := (rcells_at P5.out).2.2.2.2
  have e2 := Q5.out.cell 2
  have e3 := Q5.out.cell 3
  simp only [List.getElem?_toArray, List.getElem?_cons_zero, List.getElem?_cons_succ] at e2 e3
  have z := fun i => Q5.out.thawed i
  have x0 : W5.cell? ⟨g, j * 3, none⟩ = some (.int .u64 k) := by rw [B5.out.cell (p := ⟨g, j * 3, none⟩) hg]; exact X.out.1
  go_wp2_with fail
  go_region
  clear a4 e2 e3 z x0
  obtain ⟨W6, hW6⟩ : ∃ W, W = (W5.setCell ⟨q, 2, none⟩ (.int .u64 (r.hk + k))).drew := ⟨_, rfl⟩
  rw [← hW6]
  have B6 : Hid (Below w.heap.size w W6) := by show Below _ _ _; rw [hW6]; exact (Below.setCell B5.out (by show _ ≤ q; omega) _).drew
  have P6 : Hid (Fresh W6 w.heap.size (rcells r (.slice (some ⟨g, 0, none⟩) r.l.length cap)) TR) := by show Fresh _ _ _ _; rw [hW6]; exact (P5.out.other (by omega) 2 _).drew
  have S6 : Hid (Fresh W6 (w.heap.size + 1) #[.int .u64 0, .int .u64 0, .int .u64 0, .int .u64 0, .slice none 0 0] TR) := by show Fresh _ _ _ _; rw [hW6]; exact (S5.out.other (by omega) 2 _).drew
  have Q6 : Hid (Fresh W6 q #[.int .u64 r.gk, .int .u64 r.gb, .int .u64 (r.hk + k), .int .u64 r.hb, .slice xa xn xc] TR) := by show Fresh _ _ _ _; rw [hW6]; exact (Q5.out.set 2 _).drew
  have M6 : Hid (∀ k, k < q → W6.heap[k]? = wb.heap[k]?) := by
    intro k' hk'
    rw [hW6]
    exact (Below.heap_setCell W5 ⟨q, 2, none⟩ _ k' (by show k' ≠ q; omega)).trans (M5.out k' hk')
  clear hW6
  have a4 := (rcells_at P6.out).2.2.2.2
  have e2 := Q6.out.cell 2
  have e3 := Q6.out.cell 3
  simp only [List.getElem?_toArray, List.getElem?_cons_zero, List.getElem?_cons_succ] at e2 e3
  have z := fun i => Q6.out.thawed i
  have x1 : W6.cell? ⟨g, j * 3 + 1, none⟩ = some (.int .u64 b) := by rw [B6.out.cell (p := ⟨g, j * 3 + 1, none⟩) hg]; exact X.out.2
  go_wp2_with fail
  go_region
  clear a4 e2 e3 z x1
  obtain ⟨W7, hW7⟩ : ∃ W, W = (W6.setCell ⟨q, 3, none⟩ (.int .u64 (r.hb + b))).drew := ⟨_, rfl⟩
  rw [← hW7]
  have B7 : Hid (Below w.heap.size w W7) := by show Below _ _ _; rw [hW7]; exact (Below.setCell B6.out (by show _ ≤ q; omega) _).drew
  have S7 : Hid (Fresh W7 (w.heap.size + 1) #[.int .u64 0, .int .u64 0, .int .u64 0, .int .u64 0, .slice none 0 0] TR) := by show Fresh _ _ _ _; rw [hW7]; exact (S6.out.other (by omega) 3 _).drew
  have Q7 : Hid (Fresh W7 q (rcells (comR r j k b) (.slice xa xn xc)) TR) := by show Fresh _ _ _ _; rw [hW7]; exact (Q6.out.set 3 _).drew
  have M7 : Hid (∀ k, k < q → W7.heap[k]? = wb.heap[k]?) := by
    intro k' hk'
    rw [hW7]
    exact (Below.heap_setCell W6 ⟨q, 3, none⟩ _ k' (by show k' ≠ q; omega)).trans (M6.out k' hk')
  clear hW7
  obtain ⟨c0, c1, c2, c3, c4⟩ := rcells_at Q7.out
  have d0 := S7.out.cell 0
  have d1 := S7.out.cell 1
  have d2 := S7.out.cell 2
  have d3 := S7.out.cell 3
  have d4 := S7.out.cell 4
  simp only [List.getElem?_toArray, List.getElem?_cons_zero, List.getElem?_cons_succ] at d0 d1 d2 d3 d4
  have z1 := fun i => S7.out.thawed i
  go_wp2_with fail
  clear c0 c1 c2 c3 c4 d0 d1 d2 d3 d4 z1
  obtain ⟨W9, hW9⟩ : ∃ W9, W9 = set5 W7 (w.heap.size + 1) (comR r j k b) (.slice xa xn xc) := ⟨_, rfl⟩
  show bodyPost _ _ _ _ _ (set5 W7 (w.heap.size + 1) (comR r j k b) (.slice xa xn xc))
  rw [← hW9]
  have R9 : Fresh W9 (w.heap.size + 1) (rcells (comR r j k b) (.slice xa xn xc)) TR := by rw [hW9]; exact set5_fresh S7.out (comR r j k b) _
  have B9 : Below w.heap.size w W9 := by rw [hW9]; exact set5_below B7.out (by omega) (comR r j k b) _
  have O9 : Row W9 w.heap.size (.slice xa xn xc) (setOff r.l j) := by
    refine Row.low (Row.keep R5.out (fun k' hk1 hk2 => ?_)) (by omega)
    rw [hW9]
    have hk3 : k' < q := by rw [HQ.out]; exact hk2
    exact (set5_heap W7 _ _ _ k' (by omega)).trans (M7.out k' hk3)
  clear hW9
  obtain ⟨d0, d1, d2, d3, d4⟩ := rcells_at R9
  refine bodyPost_ret (v := .tuple #[rv (comR r j k b) (.slice xa xn xc), .int .i64 0]) ?_ rfl ⟨_, rfl, B9, O9⟩
  simp [results, Try.results25, go_sem, d0, d1, d2, d3, d4]

theorem rres_no (r : Rp) (v : Value) (x y : Int) (w : World) (h : Row w 0 v r.l) (hn : r.l.length ≤ 1000) (hf : r.Fit) (hk : r.hk + sK r.l r.l.length ≤ r.gk) (hb : r.hb + sB r.l r.l.length ≤ r.gb) (uk : U r.gk) (ub : U r.gb) (hw : (decide (x ≤ r.gk - (r.hk + sK r.l r.l.length)) && decide (y ≤ r.gb - (r.hb + sB r.l r.l.length))) = false) :
    Calls Try.prog 29 #[rv r v, .int .u64 x, .int .u64 y] w (RP3 w r v 0 10) := by
  have HC := Lib.hid (fun W hW => rleft_any r v W hW (by omega) hf hk hb uk ub)
  have HW : Hid (∀ W, Calls Try.prog 43 #[lim x y, lim (r.gk - (r.hk + sK r.l r.l.length)) (r.gb - (r.hb + sB r.l r.l.length))] W fun e w' => e = .returned (.bool false) ∧ Below W.heap.size W w') := fun W => by rw [← hw]; exact within2_any _ _ _ _ W
  obtain ⟨va, vn, vc, rfl⟩ := h.form
  have HR := Lib.hid h
  have hW := W2of_is w r (.slice va vn vc)
  obtain ⟨W2, hW2⟩ : ∃ W2, W2of w r (.slice va vn vc) = W2 := ⟨_, rfl⟩
  have HEQ : Hid (W2of w r (.slice va vn vc) = W2) := hW2
  rw [hW2] at hW
  have HB := Lib.hid hW.1
  have H1 := Lib.hid hW.2.1
  have H2 := Lib.hid hW.2.2
  clear hW hW2
  clear h hn hf hk hb uk ub hw
  go_enter Try.func29, Try.ntmps29
  go_upto_region 1 with fail
  change Code.wp _ _ _ _ (W2of w r (.slice va vn vc))
  rw [HEQ.out]
  obtain ⟨c0, c1, c2, c3, c4⟩ := rcells_at H1.out
  go_upto_region 2 with fail
  obtain ⟨q, hq⟩ : ∃ q, q = W2.heap.size := ⟨_, rfl⟩
  have hqw : w.heap.size + 1 < q := by rw [hq]; exact H2.out.lt
  obtain ⟨W3, hW3⟩ : ∃ W, W = W2.alloc (.cells #[.int .u64 x, .int .u64 y] 24) := ⟨_, rfl⟩
  change Code.wp _ _ _ _ (W2.alloc (.cells #[.int .u64 x, .int .u64 y] 24))
  rw [← hW3, ← hq]
  have B3 : Hid (Below w.heap.size w W3) := by show Below _ _ _; rw [hW3]; exact Below.new HB.out _
  have P3 : Hid (Fresh W3 w.heap.size (rcells r (.slice va vn vc)) TR) := by show Fresh _ _ _ _; rw [hW3]; exact H1.out.alloc _
  have S3 : Hid (Fresh W3 (w.heap.size + 1) #[.int .u64 0, .int .u64 0, .int .u64 0, .int .u64 0, .slice none 0 0] TR) := by show Fresh _ _ _ _; rw [hW3]; exact H2.out.alloc _
  have Q3 : Hid (Fresh W3 q #[.int .u64 x, .int .u64 y] 24) := by show Fresh _ _ _ _; rw [hW3]; exact Fresh.new W2 _ _ _ hq.symm
  clear hW3 hq c0 c1 c2 c3 c4
  obtain ⟨c0, c1, c2, c3, c4⟩ := rcells_at P3.out
  have y0 := Q3.out.cell 0
  have y1 := Q3.out.cell 1
  simp only [List.getElem?_toArray, List.getElem?_cons_zero, List.getElem?_cons_succ] at y0 y1
  have g0 := fun d os => cell_regrown c0 d os
  have g1 := fun d os => cell_regrown c1 d os
  have g2 := fun d os => cell_regrown c2 d os
  have g3 := fun d os => cell_regrown c3 d os
  have g4 := fun d os => cell_regrown c4 d os
  have g5 := fun d os => cell_regrown y0 d os
  have g6 := fun d os => cell_regrown y1 d os
  clear c0 c1 c2 c3 c4 y0 y1
  refine wp_region_quiet_below (by kernel_rfl) (by kernel_rfl) ?_
  repeat (any_goals (first | go_big_quiet_step ((first | (go_at_call 31; exact Calls.regrown_of (HC.out _ ((HR.out.below B3.out).below (below_regrown _ _ _)))) | (go_at_call 43; exact Calls.regrown_of (HW.out _)))) | quiet_step (fail)))
  refine wpQuiet_nil ?_
  intro w3 hw3
  have hb3 : Below W3.heap.size W3 w3 := by obtain ⟨p, rfl⟩ := hw3; exact below_regrown _ _ _
  clear hw3 g0 g1 g2 g3 g4 g5 g6
  have B4 := Lib.hid (Below.step B3.out hb3)
  have P4 := Lib.hid (P3.out.below hb3)
  have S4 := Lib.hid (S3.out.below hb3)
  have Q4 := Lib.hid (Q3.out.below hb3)
  clear hb3
  obtain ⟨c0, c1, c2, c3, c4⟩ := rcells_at P4.out
  have d0 := S4.out.cell 0
  have d1 := S4.out.cell 1
  have d2 := S4.out.cell 2
  have d3 := S4.out.cell 3
  have d4 := S4.out.cell 4
  simp only [List.getElem?_toArray, List.getElem?_cons_zero, List.getElem?_cons_succ] at d0 d1 d2 d3 d4
  have z1 := fun i => S4.out.thawed i
  go_wp2_with fail
  clear c0 c1 c2 c3 c4 d0 d1 d2 d3 d4 z1
  obtain ⟨W9, hW9⟩ : ∃ W9, W9 = set5 w3 (w.heap.size + 1) (r) (.slice va vn vc) := ⟨_, rfl⟩
  show bodyPost _ _ _ _ _ (set5 w3 (w.heap.size + 1) (r) (.slice va vn vc))
  rw [← hW9]
  have R9 : Fresh W9 (w.heap.size + 1) (rcells (r) (.slice va vn vc)) TR := by rw [hW9]; exact set5_fresh S4.out (r) _
  have B9 : Below w.heap.size w W9 := by rw [hW9]; exact set5_below B4.out (by omega) (r) _
  clear hW9
  obtain ⟨d0, d1, d2, d3, d4⟩ := rcells_at R9
  refine bodyPost_ret (v := .tuple #[rv r (.slice va vn vc), .int .i64 0, .int .i64 10]) ?_ rfl ⟨rfl, B9⟩
  simp [results, Try.results29, go_sem, d0, d1, d2, d3, d4]

theorem rres_yes (r : Rp) (v : Value) (x y : Int) (w : World) (h : Row w 0 v r.l) (hn : r.l.length ≤ 999) (hf : r.Fit) (hk : r.hk + sK r.l r.l.length ≤ r.gk) (hb : r.hb + sB r.l r.l.length ≤ r.gb) (uk : U r.gk) (ub : U r.gb) (hw : (decide (x ≤ r.gk - (r.hk + sK r.l r.l.length)) && decide (y ≤ r.gb - (r.hb + sB r.l r.l.length))) = true) :
    Calls Try.prog 29 #[rv r v, .int .u64 x, .int .u64 y] w (RPF3 w (resR r x y) ((r.l.length : Int) + 1) 0) := by
  have HC := Lib.hid (fun W hW => rleft_any r v W hW (by omega) hf hk hb uk ub)
  have HW : Hid (∀ W, Calls Try.prog 43 #[lim x y, lim (r.gk - (r.hk + sK r.l r.l.length)) (r.gb - (r.hb + sB r.l r.l.length))] W fun e w' => e = .returned (.bool true) ∧ Below W.heap.size W w') := fun W => by rw [← hw]; exact within2_any _ _ _ _ W
  have HO := Lib.hid (fun W hW => own_any r v W hW (by omega))
  have HN := Lib.hid hn
  obtain ⟨va, vn, vc, rfl⟩ := h.form
  have HR := Lib.hid h
  have hW := W2of_is w r (.slice va vn vc)
  obtain ⟨W2, hW2⟩ : ∃ W2, W2of w r (.slice va vn vc) = W2 := ⟨_, rfl⟩
  have HEQ : Hid (W2of w r (.slice va vn vc) = W2) := hW2
  rw [hW2] at hW
  have HB := Lib.hid hW.1
  have H1 := Lib.hid hW.2.1
  have H2 := Lib.hid hW.2.2
  clear hW hW2
  clear h hn hf hk hb uk ub hw
  go_enter Try.func29, Try.ntmps29
  go_upto_region 1 with fail
  change Code.wp _ _ _ _ (W2of w r (.slice va vn vc))
  rw [HEQ.out]
  obtain ⟨c0, c1, c2, c3, c4⟩ := rcells_at H1.out
  go_upto_region 2 with fail
  obtain ⟨q, hq⟩ : ∃ q, q = W2.heap.size := ⟨_, rfl⟩
  have hqw : w.heap.size + 1 < q := by rw [hq]; exact H2.out.lt
  obtain ⟨W3, hW3⟩ : ∃ W, W = W2.alloc (.cells #[.int .u64 x, .int .u64 y] 24) := ⟨_, rfl⟩
  change Code.wp _ _ _ _ (W2.alloc (.cells #[.int .u64 x, .int .u64 y] 24))
  rw [← hW3, ← hq]
  have B3 : Hid (Below w.heap.size w W3) := by show Below _ _ _; rw [hW3]; exact Below.new HB.out _
  have P3 : Hid (Fresh W3 w.heap.size (rcells r (.slice va vn vc)) TR) := by show Fresh _ _ _ _; rw [hW3]; exact H1.out.alloc _
  have S3 : Hid (Fresh W3 (w.heap.size + 1) #[.int .u64 0, .int .u64 0, .int .u64 0, .int .u64 0, .slice none 0 0] TR) := by show Fresh _ _ _ _; rw [hW3]; exact H2.out.alloc _
  have Q3 : Hid (Fresh W3 q #[.int .u64 x, .int .u64 y] 24) := by show Fresh _ _ _ _; rw [hW3]; exact Fresh.new W2 _ _ _ hq.symm
  clear hW3 hq c0 c1 c2 c3 c4
  obtain ⟨c0, c1, c2, c3, c4⟩ := rcells_at P3.out
  have y0 := Q3.out.cell 0
  have y1 := Q3.out.cell 1
  simp only [List.getElem?_toArray, List.getElem?_cons_zero, List.getElem?_cons_succ] at y0 y1
  have g0 := fun d os => cell_regrown c0 d os
  have g1 := fun d os => cell_regrown c1 d os
  have g2 := fun d os => cell_regrown c2 d os
  have g3 := fun d os => cell_regrown c3 d os
  have g4 := fun d os => cell_regrown c4 d os
  have g5 := fun d os => cell_regrown y0 d os
  have g6 := fun d os => cell_regrown y1 d os
  clear c0 c1 c2 c3 c4 y0 y1
  refine wp_region_quiet_below (by kernel_rfl) (by kernel_rfl) ?_
  repeat (any_goals (first | go_big_quiet_step ((first | (go_at_call 31; exact Calls.regrown_of (HC.out _ ((HR.out.below B3.out).below (below_regrown _ _ _)))) | (go_at_call 43; exact Calls.regrown_of (HW.out _)))) | quiet_step (fail)))
  refine wpQuiet_nil ?_
  intro w3 hw3
  have hb3 : Below W3.heap.size W3 w3 := by obtain ⟨p, rfl⟩ := hw3; exact below_regrown _ _ _
  clear hw3 g0 g1 g2 g3 g4 g5 g6
  have B4 := Lib.hid (Below.step B3.out hb3)
  have P4 := Lib.hid (P3.out.below hb3)
  have S4 := Lib.hid (S3.out.below hb3)
  have Q4 := Lib.hid (Q3.out.below hb3)
  clear hb3
  obtain ⟨c0, c1, c2, c3, c4⟩ := rcells_at P4.out
  go_wp2_with fail
  refine (HO.out _ (HR.out.below B4.out)).mono ?_
  rintro e wc ⟨v', rfl, hbc, hrow⟩
  obtain ⟨xa, xn, xc, rfl⟩ := hrow.form
  clear c0 c1 c2 c3 c4
  obtain ⟨K, hK⟩ : ∃ K, K = w3.heap.size := ⟨_, rfl⟩
  have hqK : q < K := by rw [hK]; exact Q4.out.lt
  obtain ⟨c0, c1, c2, c3, c4⟩ := rcells_at (P4.out.below hbc)
  have z1 := fun i => (P4.out.below hbc).thawed i
  go_upto_region 5 with fail
  clear c0 c1 c2 c3 c4 z1
  obtain ⟨W5, hW5⟩ : ∃ W, W = set5 wc w.heap.size r (.slice xa xn xc) := ⟨_, rfl⟩
  change Code.wp _ _ _ _ (set5 wc w.heap.size r (.slice xa xn xc))
  rw [← hW5]
  have B5 : Hid (Below w.heap.size w W5) := by show Below _ _ _; rw [hW5]; exact set5_below (Below.step B4.out hbc) (Nat.le_refl _) r _
  have P5 : Hid (Fresh W5 w.heap.size (rcells r (.slice xa xn xc)) TR) := by show Fresh _ _ _ _; rw [hW5]; exact set5_fresh (P4.out.below hbc) r _
  have S5 : Hid (Fresh W5 (w.heap.size + 1) #[.int .u64 0, .int .u64 0, .int .u64 0, .int .u64 0, .slice none 0 0] TR) := by show Fresh _ _ _ _; rw [hW5]; exact set5_other (S4.out.below hbc) (by omega) r _
  have Q5 : Hid (Fresh W5 q #[.int .u64 x, .int .u64 y] 24) := by show Fresh _ _ _ _; rw [hW5]; exact set5_other (Q4.out.below hbc) (by omega) r _
  have R5 : Hid (Row W5 K (.slice xa xn xc) r.l) := by show Row _ _ _ _; rw [hW5, hK]; exact Row.set5 hrow (by omega) r _
  have hKs : Hid (K ≤ W5.heap.size) := by
    have h1 : (set5 wc w.heap.size r (.slice xa xn xc)).heap.size = wc.heap.size := by simp [set5, World.setCell]
    show K ≤ W5.heap.size
    rw [hW5, h1, hK]
    exact hbc.size
  clear hW5 hbc hrow hK
  obtain ⟨c0, c1, c2, c3, c4⟩ := rcells_at P5.out
  have y0 := Q5.out.cell 0
  have y1 := Q5.out.cell 1
  simp only [List.getElem?_toArray, List.getElem?_cons_zero, List.getElem?_cons_succ] at y0 y1
  obtain ⟨i0, hi, hz0, hz1, hz2⟩ := infoT_parts
  have B6 := Lib.hid (Below.new B5.out (.cells #[.int .u64 x, .int .u64 y, .bool true] 73))
  have P6 := Lib.hid (P5.out.alloc (.cells #[.int .u64 x, .int .u64 y, .bool true] 73))
  have S6 := Lib.hid (S5.out.alloc (.cells #[.int .u64 x, .int .u64 y, .bool true] 73))
  have hnew : ∀ j u, (Tq.cells ⟨x, y, true⟩)[j]? = some u → (W5.alloc (.cells #[.int .u64 x, .int .u64 y, .bool true] 73)).cell? ((⟨W5.heap.size, 0, none⟩ : Addr).add j) = some u := by
    intro j u hj
    have hf := Fresh.new W5 W5.heap.size #[.int .u64 x, .int .u64 y, .bool true] 73 rfl
    rw [Addr.add_lit, Nat.zero_add, hf.cell j]
    simpa [Tq.cells] using hj
  have HNW := Lib.hid hnew
  have HRA := Lib.hid (R5.out.below (Below.new (Below.refl _ _) (.cells #[.int .u64 x, .int .u64 y, .bool true] 73)))
  have hKs2 : K ≤ (W5.alloc (.cells #[.int .u64 x, .int .u64 y, .bool true] 73)).heap.size := by have := hKs.out; simp; omega
  have HK2 := Lib.hid hKs2
  clear hnew hKs2
  have hob : Hid ((Value.slice xa xn xc).ownBlock = none ∨ ∃ g, (Value.slice xa xn xc).ownBlock = some g ∧ K ≤ g) := by
    rcases R5.out.view with ⟨e, _⟩ | ⟨g, cap, e, hB, _⟩
    · left; rw [e]; rfl
    · right; rw [e]; exact ⟨g, rfl, hB⟩
  go_wp2_with (at_builtin; refine wpList_append_own _ rfl (.tmp 22) (.tmp 25) 29 rfl K 73 i0 (.agg #[.int .u64 0, .int .u64 0, .bool false]) 3 24 Try.underlying29 hi hz0 hz1 hz2 rfl (by omega) (.slice xa xn xc) r.l.length (tcells r.l) rfl HRA.out ⟨W5.heap.size, 0, none⟩ 1 1 (Tq.cells ⟨x, y, true⟩) rfl rfl HNW.out (by intro u hu; simp [Tq.cells] at hu; rcases hu with rfl | rfl | rfl <;> rfl) (by have := HN.out; unfold maxLen; omega) (by have := HN.out; omega) HK2.out ?_)
  intro v6 w6 hown hgrow hnn
  have hR6 : Row w6 K v6 (r.l ++ [⟨x, y, true⟩]) := ⟨(tcells_length _), by
    have h2 := hown.2
    rw [List.length_append, List.length_cons, List.length_nil, tcells_snoc]
    exact h2⟩
  have hne : ∀ p, p < K → some p ≠ (Value.slice xa xn xc).ownBlock := by
    intro p hp e
    rcases hob.out with h1 | ⟨g, h1, h2⟩
    · rw [h1] at e; cases e
    · rw [h1] at e; cases e; omega
  have P7 : Hid (Fresh w6 w.heap.size (rcells r (.slice xa xn xc)) TR) := P6.out.grown hgrow (hne _ (by omega))
  have S7 : Hid (Fresh w6 (w.heap.size + 1) #[.int .u64 0, .int .u64 0, .int .u64 0, .int .u64 0, .slice none 0 0] TR) := S6.out.grown hgrow (hne _ (by omega))
  have B7 : Hid (Below w.heap.size w w6) := B6.out.grown hgrow (Nat.le_trans (by omega) HK2.out) (fun j hj => by
    rcases hob.out with h1 | ⟨g, h1, h2⟩
    · rw [h1] at hj; cases hj
    · rw [h1] at hj; cases hj; omega)
  obtain ⟨ya, yn, yc, rfl⟩ := hR6.form
  have hlen7 : yn = r.l.length + 1 := by
    rcases hR6.view with ⟨_, e⟩ | ⟨g, cap, e, _⟩
    · simp at e
    · cases e; simp
  subst hlen7
  have R7 := Lib.hid hR6
  clear hown hgrow hnn hR6 hne c0 c1 c2 c3 c4 y0 y1
  obtain ⟨c0, c1, c2, c3, c4⟩ := rcells_at P7.out
  have z := fun i => P7.out.thawed i
  go_upto_region 6 with fail
  obtain ⟨W8, hW8⟩ : ∃ W, W = w6.setCell ⟨w.heap.size, 4, none⟩ (.slice ya (r.l.length + 1) yc) := ⟨_, rfl⟩
  rw [← hW8]
  have P8 : Hid (Fresh W8 w.heap.size (rcells r (.slice ya (r.l.length + 1) yc)) TR) := by show Fresh _ _ _ _; rw [hW8]; exact P7.out.set 4 _
  have S8 : Hid (Fresh W8 (w.heap.size + 1) #[.int .u64 0, .int .u64 0, .int .u64 0, .int .u64 0, .slice none 0 0] TR) := by show Fresh _ _ _ _; rw [hW8]; exact S7.out.other (by omega) 4 _
  have B8 : Hid (Below w.heap.size w W8) := by show Below _ _ _; rw [hW8]; exact Below.setCell B7.out (Nat.le_refl _) _
  have R8 : Hid (Row W8 K (.slice ya (r.l.length + 1) yc) (r.l ++ [⟨x, y, true⟩])) := by show Row _ _ _ _; rw [hW8]; exact Row.setCell R7.out (by omega) 4 _
  clear hW8 c0 c1 c2 c3 c4 z
  obtain ⟨c0, c1, c2, c3, c4⟩ := rcells_at P8.out
  have d0 := S8.out.cell 0
  have d1 := S8.out.cell 1
  have d2 := S8.out.cell 2
  have d3 := S8.out.cell 3
  have d4 := S8.out.cell 4
  simp only [List.getElem?_toArray, List.getElem?_cons_zero, List.getElem?_cons_succ] at d0 d1 d2 d3 d4
  have z1 := fun i => S8.out.thawed i
  go_region
  obtain ⟨W9, hW9⟩ : ∃ W9, W9 = (set5 W8 (w.heap.size + 1) (resR r x y) (.slice ya (r.l.length + 1) yc)).drew := ⟨_, rfl⟩
  change Exit.then _ _ _ _ (set5 W8 (w.heap.size + 1) (resR r x y) (.slice ya (r.l.length + 1) yc)).drew
  rw [← hW9]
  have R9 : Fresh W9 (w.heap.size + 1) (rcells (resR r x y) (.slice ya (r.l.length + 1) yc)) TR := by rw [hW9]; exact (set5_fresh S8.out (resR r x y) _).drew
  have B9 : Hid (Below w.heap.size w W9) := by show Below _ _ _; rw [hW9]; exact (set5_below B8.out (by omega) (resR r x y) _).drew
  have O9 : Hid (Row W9 w.heap.size (.slice ya (r.l.length + 1) yc) (r.l ++ [⟨x, y, true⟩])) := by show Row _ _ _ _; rw [hW9]; exact ((R8.out.set5 (by omega) (resR r x y) _).low (by omega)).keep (fun _ _ _ => rfl)
  clear hW9 c0 c1 c2 c3 c4 d0 d1 d2 d3 d4 z1
  obtain ⟨d0, d1, d2, d3, d4⟩ := rcells_at R9
  go_wp2_with fail
  refine bodyPost_ret (v := .tuple #[rv (resR r x y) (.slice ya (r.l.length + 1) yc), .int .i64 ((r.l.length : Int) + 1), .int .i64 0]) ?_ rfl ⟨_, rfl, B9.out, O9.out⟩
  simp [results, Try.results29, go_sem, d0, d1, d2, d3, d4]
end Go.Proofs.Ytpnddccanelcnaa
