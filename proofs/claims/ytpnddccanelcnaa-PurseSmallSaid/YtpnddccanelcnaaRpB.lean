/- The reference model's purse: the bound amount, what is left, the open tickets. -/
import Derived.Test.YtpnddccanelcnaaRpF
import Derived.Deep.CutBlock
namespace Go.Proofs.Ytpnddccanelcnaa
open Go.RowKit
set_option maxRecDepth 100000
set_option maxHeartbeats 4000000

/-- The sums that are formed on the way stay in range. -/
def Rp.Fit (r : Rp) : Prop := ∀ i, i ≤ r.l.length → U (r.hk + sK r.l i) ∧ U (r.hb + sB r.l i)
theorem row_cells {W W' : World} {B : Nat} {v : Value} {l : List Tq} (h : Row W B v l) (hb : Below W.heap.size W W') {i : Nat} (hi : i < l.length) : ∃ g cap, v = .slice (some ⟨g, 0, none⟩) l.length cap ∧ W'.cell? ⟨g, i * 3, none⟩ = some (.int .u64 l[i].k) ∧ W'.cell? ⟨g, i * 3 + 1, none⟩ = some (.int .u64 l[i].b) ∧ W'.cell? ⟨g, i * 3 + 2, none⟩ = some (.bool l[i].o) := by
  rcases (h.below hb).view with ⟨_, hnil⟩ | ⟨g, cap, rfl, _, _, _, _, hc⟩
  · rw [hnil] at hi; simp at hi
  · obtain ⟨a, b, c⟩ := hc i _ (List.getElem?_eq_getElem hi)
    exact ⟨g, cap, rfl, a, b, c⟩

theorem rbound_any (r : Rp) (v : Value) (w : World) (h : Row w 0 v r.l) (hn : r.l.length ≤ 1000) (hf : r.Fit) :
    Calls Try.prog 30 #[rv r v] w fun e w' => e = .returned (lim (r.hk + sK r.l r.l.length) (r.hb + sB r.l r.l.length)) ∧ Below w.heap.size w w' := by
  have HR := Lib.hid h
  have HF := Lib.hid hf
  obtain ⟨W1, hW1⟩ : ∃ W1, W1 = w.alloc (.cells (rcells r v) TR) := ⟨_, rfl⟩
  obtain ⟨W2, hW2⟩ : ∃ W2, W2 = W1.alloc (.cells #[.int .u64 0, .int .u64 0] 24) := ⟨_, rfl⟩
  obtain ⟨W3, hW3⟩ : ∃ W3, W3 = W2.alloc (.cells #[.int .u64 r.hk, .int .u64 r.hb] 24) := ⟨_, rfl⟩
  have s1 : W1.heap.size = w.heap.size + 1 := by rw [hW1]; simp
  have s2 : W2.heap.size = w.heap.size + 1 + 1 := by rw [hW2]; simp [s1]
  have B3 : Hid (Below w.heap.size w W3) := by show Below _ _ _; rw [hW3, hW2, hW1]; exact Below.new (Below.new (Below.new (Below.refl _ _) _) _) _
  have F1 : Hid (Fresh W3 w.heap.size (rcells r v) TR) := by show Fresh _ _ _ _; rw [hW3, hW2, hW1]; exact ((Fresh.new _ _ _ _ rfl).alloc _).alloc _
  have F2 : Hid (Fresh W3 (w.heap.size + 1) #[.int .u64 0, .int .u64 0] 24) := by show Fresh _ _ _ _; rw [hW3, hW2]; exact (Fresh.new _ _ _ _ s1).alloc _
  have F3 : Hid (Fresh W3 (w.heap.size + 1 + 1) #[.int .u64 r.hk, .int .u64 r.hb] 24) := by show Fresh _ _ _ _; rw [hW3]; exact Fresh.new _ _ _ _ s2
  have HEQ : Hid (((w.alloc (.cells (rcells r v) TR)).alloc (.cells #[.int .u64 0, .int .u64 0] 24)).alloc (.cells #[.int .u64 r.hk, .int .u64 r.hb] 24) = W3) := by show _ = _; rw [hW3, hW2, hW1]
  have h0 : Hid (r.hk = r.hk + sK r.l 0 ∧ r.hb = r.hb + sB r.l 0) := ⟨by show r.hk = r.hk + 0; omega, by show r.hb = r.hb + 0; omega⟩
  clear hW1 hW2 hW3 s1 s2
  obtain ⟨p, hp⟩ : ∃ p, p = w.heap.size := ⟨_, rfl⟩
  have HP := Lib.hid hp
  clear hp
  rcases h.view with ⟨rfl, hnil⟩ | ⟨g, cap, rfl, hB, hg, hc1, hc2, -⟩
  · obtain ⟨gk, gb, hk, hb, l⟩ := r
    obtain rfl : l = [] := hnil
    have e1 : Hid (hk + sK ([] : List Tq) ([] : List Tq).length = hk ∧ hb + sB ([] : List Tq) ([] : List Tq).length = hb) := ⟨by show hk + 0 = hk; omega, by show hb + 0 = hb; omega⟩
    show Calls _ _ _ _ fun e w' => e = .returned (lim (hk + sK ([] : List Tq) ([] : List Tq).length) (hb + sB ([] : List Tq) ([] : List Tq).length)) ∧ Below w.heap.size w w'
    rw [e1.out.1, e1.out.2]
    clear h hf hn
    go_enter Try.func30, Try.ntmps30
    go_wp2_with fail
    go_loop [4] (fun i => i = .int .i64 0) (fun _ => 0)
    case atStart => rfl
    case round =>
      subst hrel
      go_wp2_with fail
      exact bodyPost_ret (v := lim hk hb) (by simp [results, Try.results30, go_sem]) rfl ⟨rfl, Below.new (Below.new (Below.new (Below.refl _ _) _) _) _⟩
  · have HN : Hid (r.l.length ≤ 1000) := hn
    clear h hf hc1 hc2 hB hn
    go_enter Try.func30, Try.ntmps30
    go_upto_block 0 with fail
    rw [HEQ.out, ← HP.out]
    rw [← HP.out] at F1 F2 F3 B3
    go_wp2_with fail
    go_loopw [4] (fun iv wr => ∃ i : Nat, i ≤ r.l.length ∧ iv = .int .i64 i ∧ Below p w wr ∧ Fresh wr p (rcells r (.slice (some ⟨g, 0, none⟩) r.l.length cap)) TR ∧ Fresh wr (p + 1) #[.int .u64 0, .int .u64 0] 24 ∧ Fresh wr (p + 1 + 1) #[.int .u64 (r.hk + sK r.l i), .int .u64 (r.hb + sB r.l i)] 24) (fun iv _ => r.l.length - (intOf iv).toNat)
    case atStart => exact ⟨0, by omega, rfl, B3.out, F1.out, F2.out, by rw [← h0.out.1, ← h0.out.2]; exact F3.out⟩
    case round =>
      obtain ⟨i, hi, rfl, hb, f1, f2, f3⟩ := hrel
      have G1 := Lib.hid f1
      have G2 := Lib.hid f2
      have G3 := Lib.hid f3
      have GB := Lib.hid hb
      have c4 := (rcells_at f1).2.2.2.2
      clear f1 f2 f3 hb
      by_cases hlt : i < r.l.length
      · obtain ⟨g', cap', e, x0, x1, x2⟩ := row_cells HR.out (show Below w.heap.size w wr by rw [← HP.out]; exact GB.out) hlt
        cases e
        have hs := sums_at r.l i _ (List.getElem?_eq_getElem hlt)
        obtain ⟨k, hk⟩ : ∃ k, (r.l[i]).k = k := ⟨_, rfl⟩
        obtain ⟨b, hb⟩ : ∃ b, (r.l[i]).b = b := ⟨_, rfl⟩
        obtain ⟨o, ho⟩ : ∃ o, (r.l[i]).o = o := ⟨_, rfl⟩
        rw [hk, hb, ho] at hs
        rw [hk] at x0
        rw [hb] at x1
        rw [ho] at x2
        clear hk hb ho
        have nl : (i : Int) < (r.l.length : Int) := by omega
        have i1 : (i : Int) < 1000 := by have := HN.out; omega
        have q3 : decide (i < r.l.length) = true := decide_eq_true hlt
        have HN1 := HF.out i hi
        have HN2 := HF.out (i + 1) (by omega)
        cases o
        · simp only [Bool.false_eq_true, if_false, Int.add_zero] at hs
          have HS := Lib.hid hs
          have HI := Lib.hid hlt
          clear hs HN1 HN2 hlt hi x0 x1
          go_wp2_with fail
          go_roundw
          case rel => exact ⟨i + 1, by have := HI.out; omega, by go_num, GB.out, G1.out, G2.out, by rw [HS.out.1, HS.out.2]; exact G3.out⟩
          case measure => have := HI.out; simp [intOf]; omega
        · simp only [if_true] at hs
          obtain ⟨a, ha⟩ : ∃ a, r.hk + sK r.l i = a := ⟨_, rfl⟩
          obtain ⟨d, hd⟩ : ∃ d, r.hb + sB r.l i = d := ⟨_, rfl⟩
          have e1 : r.hk + sK r.l (i + 1) = a + k := by omega
          have e2 : r.hb + sB r.l (i + 1) = d + b := by omega
          rw [e1, e2] at HN2
          have k1 : IntKind.u64.wrap (a + k) = a + k := by rw [wrapU]; have := HN2.1.1; have := HN2.1.2; omega
          have k2 : IntKind.u64.wrap (d + b) = d + b := by rw [wrapU]; have := HN2.2.1; have := HN2.2.2; omega
          rw [ha, hd] at G3
          have HS := Lib.hid (And.intro e1 e2)
          have HI := Lib.hid hlt
          have y0 := G3.out.cell 0
          have y1 := G3.out.cell 1
          simp only [List.getElem?_toArray, List.getElem?_cons_zero, List.getElem?_cons_succ] at y0 y1
          have z0 := G3.out.thawed 0
          have z1 := G3.out.thawed 1
          clear hs HN1 HN2 hlt hi ha hd e1 e2
          go_wp2_with fail
          go_region
          obtain ⟨W5, hW5⟩ : ∃ W5, W5 = (wr.setCell ⟨p + 1 + 1, 0, none⟩ (.int .u64 (a + k))).drew := ⟨_, rfl⟩
          rw [← hW5]
          have L1 : Hid (Fresh W5 p (rcells r (.slice (some ⟨g, 0, none⟩) r.l.length cap)) TR) := by show Fresh _ _ _ _; rw [hW5]; exact (G1.out.other (by omega) 0 _).drew
          have L2 : Hid (Fresh W5 (p + 1) #[.int .u64 0, .int .u64 0] 24) := by show Fresh _ _ _ _; rw [hW5]; exact (G2.out.other (by omega) 0 _).drew
          have L3 : Hid (Fresh W5 (p + 1 + 1) #[.int .u64 (a + k), .int .u64 d] 24) := by show Fresh _ _ _ _; rw [hW5]; exact (G3.out.set 0 _).drew
          have LB : Hid (Below p w W5) := by show Below _ _ _; rw [hW5]; exact (Below.setCell GB.out (by show _ ≤ p + 1 + 1; omega) _).drew
          have hli : i < r.l.length := HI.out
          clear hW5 c4 x0 x2 y0 y1 z0 z1
          have c4 := (rcells_at L1.out).2.2.2.2
          have y1 := L3.out.cell 1
          simp only [List.getElem?_toArray, List.getElem?_cons_zero, List.getElem?_cons_succ] at y1
          have z1 := L3.out.thawed 1
          have x1' : W5.cell? ⟨g, i * 3 + 1, none⟩ = some (.int .u64 b) := by
            rw [(show Below w.heap.size w W5 by rw [← HP.out]; exact LB.out).cell (p := ⟨g, i * 3 + 1, none⟩) hg, ← (show Below w.heap.size w wr by rw [← HP.out]; exact GB.out).cell (p := ⟨g, i * 3 + 1, none⟩) hg]
            exact x1
          clear x1 hli
          go_wp2_with fail
          go_region
          obtain ⟨W6, hW6⟩ : ∃ W6, W6 = (W5.setCell ⟨p + 1 + 1, 1, none⟩ (.int .u64 (d + b))).drew := ⟨_, rfl⟩
          rw [← hW6]
          have M1 : Hid (Fresh W6 p (rcells r (.slice (some ⟨g, 0, none⟩) r.l.length cap)) TR) := by show Fresh _ _ _ _; rw [hW6]; exact (L1.out.other (by omega) 1 _).drew
          have M2 : Hid (Fresh W6 (p + 1) #[.int .u64 0, .int .u64 0] 24) := by show Fresh _ _ _ _; rw [hW6]; exact (L2.out.other (by omega) 1 _).drew
          have M3 : Hid (Fresh W6 (p + 1 + 1) #[.int .u64 (a + k), .int .u64 (d + b)] 24) := by show Fresh _ _ _ _; rw [hW6]; exact (L3.out.set 1 _).drew
          have MB : Hid (Below p w W6) := by show Below _ _ _; rw [hW6]; exact (Below.setCell LB.out (by show _ ≤ p + 1 + 1; omega) _).drew
          clear hW6 c4 x1' y1 z1
          go_wp2_with fail
          go_roundw
          case rel => exact ⟨i + 1, by have := HI.out; omega, by go_num, MB.out, M1.out, M2.out, by rw [HS.out.1, HS.out.2]; exact M3.out⟩
          case measure => have := HI.out; simp [intOf]; omega
      · obtain rfl : i = r.l.length := by omega
        have y0 := G3.out.cell 0
        have y1 := G3.out.cell 1
        have d0 := G2.out.cell 0
        have d1 := G2.out.cell 1
        simp only [List.getElem?_toArray, List.getElem?_cons_zero, List.getElem?_cons_succ] at y0 y1 d0 d1
        have z0 := G2.out.thawed 0
        have z1 := G2.out.thawed 1
        go_wp2_with fail
        obtain ⟨A, hA⟩ : ∃ A, A = r.hk + sK r.l r.l.length := ⟨_, rfl⟩
        obtain ⟨D, hD⟩ : ∃ D, D = r.hb + sB r.l r.l.length := ⟨_, rfl⟩
        rw [← hA, ← hD]
        obtain ⟨W9, hW9⟩ : ∃ W9, W9 = ((wr.setCell ⟨p + 1, 0, none⟩ (.int .u64 A)).setCell ⟨p + 1, 1, none⟩ (.int .u64 D)) := ⟨_, rfl⟩
        rw [← hW9]
        have R9 : Fresh W9 (p + 1) #[.int .u64 A, .int .u64 D] 24 := by rw [hW9]; exact (G2.out.set 0 _).set 1 _
        have B9 : Below w.heap.size w W9 := by rw [hW9]; exact Below.setCell (Below.setCell (show Below w.heap.size w wr by rw [← HP.out]; exact GB.out) (by rw [← HP.out]; show _ ≤ p + 1; omega) _) (by rw [← HP.out]; show _ ≤ p + 1; omega) _
        clear hW9 d0 d1 y0 y1 z0 z1
        have d0 := R9.cell 0
        have d1 := R9.cell 1
        simp only [List.getElem?_toArray, List.getElem?_cons_zero, List.getElem?_cons_succ] at d0 d1
        refine bodyPost_ret (v := lim A D) ?_ rfl ⟨rfl, B9⟩
        simp [results, Try.results30, go_sem, d0, d1]

theorem rleft_any (r : Rp) (v : Value) (w : World) (h : Row w 0 v r.l) (hn : r.l.length ≤ 1000) (hf : r.Fit) (hk : r.hk + sK r.l r.l.length ≤ r.gk) (hb : r.hb + sB r.l r.l.length ≤ r.gb) (uk : U r.gk) (ub : U r.gb) :
    Calls Try.prog 31 #[rv r v] w fun e w' => e = .returned (lim (r.gk - (r.hk + sK r.l r.l.length)) (r.gb - (r.hb + sB r.l r.l.length))) ∧ Below w.heap.size w w' := by
  have f := hf r.l.length (Nat.le_refl _)
  have HC := Lib.hid (fun W hW => rbound_any r v W hW hn hf)
  obtain ⟨A, hA⟩ : ∃ A, A = r.hk + sK r.l r.l.length := ⟨_, rfl⟩
  obtain ⟨D, hD⟩ : ∃ D, D = r.hb + sB r.l r.l.length := ⟨_, rfl⟩
  rw [← hA, ← hD] at f
  rw [← hA] at hk
  rw [← hD] at hb
  rw [← hA, ← hD] at HC ⊢
  clear hA hD
  have k1 : IntKind.u64.wrap (r.gk - A) = r.gk - A := by rw [wrapU]; have := f.1.1; have := uk.2; omega
  have k2 : IntKind.u64.wrap (r.gb - D) = r.gb - D := by rw [wrapU]; have := f.2.1; have := ub.2; omega
  have HR := Lib.hid h
  have B2 : Below w.heap.size w ((w.alloc (.cells (rcells r v) TR)).alloc (.cells #[.int .u64 0, .int .u64 0] 24)) := Below.new (Below.new (Below.refl _ _) _) _
  have f1 : Fresh ((w.alloc (.cells (rcells r v) TR)).alloc (.cells #[.int .u64 0, .int .u64 0] 24)) w.heap.size (rcells r v) TR := (Fresh.new _ _ _ _ rfl).alloc _
  have f2 : Fresh ((w.alloc (.cells (rcells r v) TR)).alloc (.cells #[.int .u64 0, .int .u64 0] 24)) (w.heap.size + 1) #[.int .u64 0, .int .u64 0] 24 := Fresh.new _ _ _ _ (by simp)
  obtain ⟨W2, hW2⟩ : ∃ W2, W2 = (w.alloc (.cells (rcells r v) TR)).alloc (.cells #[.int .u64 0, .int .u64 0] 24) := ⟨_, rfl⟩
  have HEQ : Hid ((w.alloc (.cells (rcells r v) TR)).alloc (.cells #[.int .u64 0, .int .u64 0] 24) = W2) := hW2.symm
  rw [← hW2] at B2 f1 f2
  have HB := Lib.hid B2
  have H1 := Lib.hid f1
  have H2 := Lib.hid f2
  have hv : (∃ a n c, v = .slice a n c) := by
    rcases h.view with ⟨rfl, _⟩ | ⟨g, cap, rfl, _⟩
    · exact ⟨_, _, _, rfl⟩
    · exact ⟨_, _, _, rfl⟩
  obtain ⟨va, vn, vc, rfl⟩ := hv
  clear h hn hf hk hb uk ub f B2 f1 f2 hW2
  go_enter Try.func31, Try.ntmps31
  go_wp2_with fail
  rw [HEQ.out]
  refine (HC.out _ (HR.out.below HB.out)).mono ?_
  rintro e w1 ⟨rfl, hb1⟩
  have H1' := Lib.hid ((H1.out.below hb1).alloc (.cells #[.int .u64 A, .int .u64 D] 24))
  have H2' := Lib.hid ((H2.out.below hb1).alloc (.cells #[.int .u64 A, .int .u64 D] 24))
  have H3' := Lib.hid (Fresh.new w1 w1.heap.size #[.int .u64 A, .int .u64 D] 24 rfl)
  have HB' := Lib.hid (Below.new (Below.step HB.out hb1) (.cells #[.int .u64 A, .int .u64 D] 24))
  clear hb1
  go_upto_region 2 with fail
  obtain ⟨W5, hW5⟩ : ∃ W5, W5 = w1.alloc (.cells #[.int .u64 A, .int .u64 D] 24) := ⟨_, rfl⟩
  rw [← hW5] at H1' H2' H3' HB' ⊢
  clear hW5
  obtain ⟨c0, c1, c2, c3, c4⟩ := rcells_at H1'.out
  have y0 := H3'.out.cell 0
  have y1 := H3'.out.cell 1
  have d0 := H2'.out.cell 0
  have d1 := H2'.out.cell 1
  simp only [List.getElem?_toArray, List.getElem?_cons_zero, List.getElem?_cons_succ] at y0 y1 d0 d1
  have z0 := H2'.out.thawed 0
  have z1 := H2'.out.thawed 1
  go_wp2_with fail
  obtain ⟨W9, hW9⟩ : ∃ W9, W9 = ((W5.setCell ⟨w.heap.size + 1, 0, none⟩ (.int .u64 (r.gk - A))).setCell ⟨w.heap.size + 1, 1, none⟩ (.int .u64 (r.gb - D))) := ⟨_, rfl⟩
  rw [← hW9]
  have R9 : Fresh W9 (w.heap.size + 1) #[.int .u64 (r.gk - A), .int .u64 (r.gb - D)] 24 := by rw [hW9]; exact (H2'.out.set 0 _).set 1 _
  have B9 : Below w.heap.size w W9 := by rw [hW9]; exact Below.setCell (Below.setCell HB'.out (by show _ ≤ w.heap.size + 1; omega) _) (by show _ ≤ w.heap.size + 1; omega) _
  clear hW9 d0 d1 y0 y1 z0 z1
  have d0 := R9.cell 0
  have d1 := R9.cell 1
  simp only [List.getElem?_toArray, List.getElem?_cons_zero, List.getElem?_cons_succ] at d0 d1
  refine bodyPost_ret (v := lim (r.gk - A) (r.gb - D)) ?_ rfl ⟨rfl, B9⟩
  simp [results, Try.results31, go_sem, d0, d1]

theorem ropen_any (r : Rp) (v : Value) (w : World) (h : Row w 0 v r.l) (hn : r.l.length ≤ 1000) :
    Calls Try.prog 32 #[rv r v] w fun e w' => e = .returned (.int .i64 (nO r.l r.l.length)) ∧ Below w.heap.size w w' := by
  have HR := Lib.hid h
  have HN := Lib.hid hn
  have B1 := Below.new (Below.refl w.heap.size w) (.cells (rcells r v) TR)
  obtain ⟨p, hp⟩ : ∃ p, p = w.heap.size := ⟨_, rfl⟩
  have F1 := Fresh.new w p (rcells r v) TR hp.symm
  obtain ⟨W1, hW1⟩ : ∃ W1, W1 = w.alloc (.cells (rcells r v) TR) := ⟨_, rfl⟩
  rw [← hW1] at B1 F1
  have HB := Lib.hid B1
  have c4 := (rcells_at F1).2.2.2.2
  have HEQ := Lib.hid hW1
  have HP := Lib.hid hp
  clear B1 hW1 hp F1
  rcases h.view with ⟨rfl, hnil⟩ | ⟨g, cap, rfl, hB, hg, hc1, hc2, -⟩
  · have e0 : Hid (nO r.l r.l.length = 0) := by show _ = _; rw [hnil]; rfl
    rw [e0.out]
    clear h hn hnil
    go_enter Try.func32, Try.ntmps32
    go_upto_block 0 with fail
    rw [← HEQ.out, ← HP.out]
    go_wp2_with fail
    go_loop [3, 4] (fun n i => n = .int .i64 0 ∧ i = .int .i64 0) (fun _ _ => 0)
    case atStart => exact ⟨rfl, rfl⟩
    case round =>
      obtain ⟨rfl, rfl⟩ := hrel
      go_wp2_with fail
      go_ret
      exact ⟨rfl, HB.out⟩
  · clear h hn hc1 hc2 hB
    go_enter Try.func32, Try.ntmps32
    go_upto_block 0 with fail
    rw [← HEQ.out, ← HP.out]
    go_wp2_with fail
    go_loop [3, 4] (fun nv iv => ∃ i : Nat, i ≤ r.l.length ∧ iv = .int .i64 i ∧ nv = .int .i64 (nO r.l i)) (fun _ iv => r.l.length - (intOf iv).toNat)
    case atStart => exact ⟨0, by omega, rfl, rfl⟩
    case round =>
      obtain ⟨i, hi, rfl, rfl⟩ := hrel
      by_cases hlt : i < r.l.length
      · obtain ⟨g', cap', e, -, -, x2⟩ := row_cells HR.out HB.out hlt
        cases e
        have hs := nO_at r.l i _ (List.getElem?_eq_getElem hlt)
        obtain ⟨o, ho⟩ : ∃ o, (r.l[i]).o = o := ⟨_, rfl⟩
        rw [ho] at hs x2
        clear ho
        have nl : (i : Int) < (r.l.length : Int) := by omega
        have i1 : (i : Int) < 1000 := by have := HN.out; omega
        have q3 : decide (i < r.l.length) = true := decide_eq_true hlt
        have hq : 0 ≤ nO r.l i ∧ nO r.l i ≤ 1000000 := by
          have hle : ∀ (l : List Tq) (n : Int), (tkOf n l).length ≤ l.length := fun l => by
            induction l with
            | nil => intro n; simp [tkOf]
            | cons x l ih =>
              intro n
              unfold tkOf
              have := ih (n + 1)
              rw [List.length_append]
              split <;> simp <;> omega
          have := hle (r.l.take i) 0
          have h2 : (r.l.take i).length ≤ i := List.length_take_le _ _
          unfold nO
          have := HN.out
          omega
        cases o
        · simp only [Bool.false_eq_true, if_false, Int.add_zero] at hs
          have HS := Lib.hid hs
          have HI := Lib.hid hlt
          clear hs hlt hi
          go_wp2_with fail
          go_round
          case rel => exact ⟨i + 1, by have := HI.out; omega, by go_num, by rw [HS.out]⟩
          case measure => have := HI.out; simp [intOf]; omega
        · simp only [if_true] at hs
          have HS := Lib.hid hs
          have HI := Lib.hid hlt
          obtain ⟨q0, q1⟩ := hq
          clear hs hlt hi
          go_wp2_with fail
          go_round
          case rel => exact ⟨i + 1, by have := HI.out; omega, by go_num, by rw [HS.out]⟩
          case measure => have := HI.out; simp [intOf]; omega
      · obtain rfl : i = r.l.length := by omega
        go_wp2_with fail
        go_ret
        exact ⟨rfl, HB.out⟩
end Go.Proofs.Ytpnddccanelcnaa
