/- BookKeeps: under way. -/
import Derived.Test.YtcpmnkihhenbgaaFactsK
import Derived.Test.YtcpmnkihhenbgaaOpenB
namespace Go.Proofs.Ytcpmnkihhenbgaa
open Go.RowKit
set_option maxRecDepth 1000000
set_option maxHeartbeats 4000000

theorem keeps_unfit (q : Lm) (ao : Option Addr) (len cap : Nat) (d : Dd) (w : World) (hf : d.fit = false) :
    Calls Try.prog 7 #[q.v, .slice ao len cap, d.v] w fun e w' => e = .returned (.bool true) ∧ Below w.heap.size w w' := by
  obtain ⟨W1, hW1⟩ : ∃ W1, W1 = (w.alloc (.cells #[.int .u64 (q.k : Int), .int .u64 (q.b : Int)] 24)).alloc (.cells d.cs 33) := ⟨_, rfl⟩
  have B1 : Below w.heap.size w W1 := by rw [hW1]; exact Below.new (Below.new (Below.refl _ _) _) _
  have f1 : Fresh W1 (w.heap.size + 1) d.cs 33 := by rw [hW1]; exact Fresh.new _ _ _ _ (by simp)
  have HF := Lib.hid f1
  have HB := Lib.hid B1
  have HD := Lib.hid hf
  unfold Dd.cs at hW1
  have HW1 := Lib.hid hW1
  clear hW1 B1 f1 hf
  unfold Lm.v Dd.v
  go_enter Try.func7, Try.ntmps7
  go_upto_region 1 with fail
  rw [← HW1.out]
  go_wp2_with (first
    | (go_at_call 9; refine (awake_any _).mono ?_; rintro e1 w1 ⟨rfl, hb1⟩; have F1 := HF.out.below hb1; have c0 := F1.cell 0; have c1 := F1.cell 1; have c2 := F1.cell 2; have c3 := F1.cell 3; have c4 := F1.cell 4; simp only [Dd.cs, List.getElem?_toArray, List.getElem?_cons_zero, List.getElem?_cons_succ] at c0 c1 c2 c3 c4; have HB1 := Lib.hid (Below.step HB.out hb1); clear hb1 F1)
    | (go_at_call 11; refine (fitD_any d _).mono ?_; rw [HD.out]; rintro e2 w2 ⟨rfl, hb2⟩; have HB2 := Lib.hid (Below.step HB1.out hb2); clear hb2))
  go_ret
  exact ⟨rfl, HB2.out⟩

theorem keeps_fit (q : Lm) (ao : Option Addr) (len cap : Nat) (d : Dd) (w : World) (hdd : IsDeeds w ao len) (hf : d.fit = true) :
    Calls Try.prog 7 #[q.v, .slice ao len cap, d.v] w fun e w' => e = .returned (.bool true) ∧ Below w.heap.size w w' := by
  obtain ⟨W1, hW1⟩ : ∃ W1, W1 = (w.alloc (.cells #[.int .u64 (q.k : Int), .int .u64 (q.b : Int)] 24)).alloc (.cells d.cs 33) := ⟨_, rfl⟩
  have B1 : Below w.heap.size w W1 := by rw [hW1]; exact Below.new (Below.new (Below.refl _ _) _) _
  have f0 : Fresh W1 w.heap.size #[.int .u64 (q.k : Int), .int .u64 (q.b : Int)] 24 := by rw [hW1]; exact (Fresh.new _ _ _ _ rfl).alloc _
  have f1 : Fresh W1 (w.heap.size + 1) d.cs 33 := by rw [hW1]; exact Fresh.new _ _ _ _ (by simp)
  have HF0 := Lib.hid f0
  have HF := Lib.hid f1
  have HB := Lib.hid B1
  have HD := Lib.hid hf
  have HDD := Lib.hid hdd
  unfold Dd.cs at hW1
  have HW1 := Lib.hid hW1
  have hl63 := hdd.1
  clear hW1 B1 f1 f0 hf hdd
  unfold Lm.v Dd.v
  go_enter Try.func7, Try.ntmps7
  go_upto_region 1 with fail
  rw [← HW1.out]
  go_upto_region 6 with (first
    | (go_at_call 9; refine (awake_any _).mono ?_; rintro e1 w1 ⟨rfl, hb1⟩; have F1 := HF.out.below hb1; have c0 := F1.cell 0; have c1 := F1.cell 1; have c2 := F1.cell 2; have c3 := F1.cell 3; have c4 := F1.cell 4; simp only [Dd.cs, List.getElem?_toArray, List.getElem?_cons_zero, List.getElem?_cons_succ] at c0 c1 c2 c3 c4; have HB1 := Lib.hid (Below.step HB.out hb1); have HF1 := Lib.hid (And.intro F1 (HF0.out.below hb1)); clear hb1 F1)
    | (go_at_call 11; refine (fitD_any d _).mono ?_; rw [HD.out]; rintro e2 w2 ⟨rfl, hb2⟩; have HB2 := Lib.hid (Below.step HB1.out hb2); have F2 := HF1.out.2.below hb2; have HF2 := Lib.hid (And.intro (HF1.out.1.below hb2) F2); have g0 := F2.cell 0; have g1 := F2.cell 1; simp only [List.getElem?_toArray, List.getElem?_cons_zero, List.getElem?_cons_succ] at g0 g1; clear hb2 F2 c0 c1 c2 c3 c4)
    | (go_at_call 10; refine (new_here q.k q.b _ _ (Below.refl _ _)).mono ?_; rintro e3 w3 ⟨p, q0, m, rfl, h3⟩; have H3 := Lib.hid h3; clear h3 g0 g1))
  have HN : Hid (Below w.heap.size w w2 ∧ Fresh w2 (w.heap.size + 1) d.cs 33) := ⟨HB2.out, HF2.out.1⟩
  clear HF HF0 HB HF1 HB1 HF2 HB2 HD HW1
  go_wp2_with fail
  go_loopw [8] (fun iv wr => ∃ i : Nat, i ≤ len ∧ i ≤ 80 ∧ iv = .int .i64 i ∧ ∃ e l, Here w2 wr p q0 e m l q.k q.b ∧ l.length ≤ i) (fun iv _ => 80 - (intOf iv).toNat)
  case atStart => exact ⟨0, Nat.zero_le _, by omega, rfl, q0, [], H3.out, Nat.le_refl _⟩
  case round =>
    obtain ⟨i, hi, hi80, rfl, e, l, hH, hl⟩ := hrel
    by_cases hlt : i < len
    · have jl : (i : Int) < (len : Int) := by omega
      have j0 : (0 : Int) ≤ (i : Int) := by omega
      have jd : decide (i < len) = true := decide_eq_true hlt
      by_cases h80 : i < 80
      · have k80 : (i : Int) < 80 := by omega
        have jd8 : decide (i < 80) = true := decide_eq_true h80
        obtain ⟨blk, off, dd, rfl, hbl, d0, d1, d2, d3, d4⟩ := deed_at HDD.out hlt
        have hlow := Below.step HN.out.1 hH.low
        have d0 := (hlow.cell (p := ⟨blk, off + i * 5, none⟩) hbl).trans d0
        have d1 := (hlow.cell (p := ⟨blk, off + i * 5 + 1, none⟩) hbl).trans d1
        have d2 := (hlow.cell (p := ⟨blk, off + i * 5 + 2, none⟩) hbl).trans d2
        have d3 := (hlow.cell (p := ⟨blk, off + i * 5 + 3, none⟩) hbl).trans d3
        have d4 := (hlow.cell (p := ⟨blk, off + i * 5 + 4, none⟩) hbl).trans d4
        have HH := Lib.hid hH
        have HL := Lib.hid hl
        have HBL := Lib.hid hbl
        clear hH hlow hl hbl
        cases hfd : dd.fit
        · have HFD := Lib.hid hfd
          clear hfd
          go_wp2_with (go_at_call 11; refine (fitD_any dd _).mono ?_; rw [HFD.out]; rintro e5 w5 ⟨rfl, hb5⟩; have H5 := Lib.hid (HH.out.below hb5); clear hb5)
          go_roundw
          case rel => exact ⟨i + 1, by omega, by omega, by simp, e, l, H5.out, by have := HL.out; omega⟩
          case measure => simp [intOf]; omega
        · have HFD := Lib.hid hfd
          clear hfd
          go_wp2_with (first
            | (go_at_call 11; refine (fitD_any dd _).mono ?_; rw [HFD.out]; rintro e5 w5 ⟨rfl, hb5⟩; have H5 := Lib.hid (HH.out.below hb5); have d0 := (hb5.cell (p := ⟨blk, off + i * 5, none⟩) (cell_lt d0)).trans d0; have d1 := (hb5.cell (p := ⟨blk, off + i * 5 + 1, none⟩) (cell_lt d1)).trans d1; have d2 := (hb5.cell (p := ⟨blk, off + i * 5 + 2, none⟩) (cell_lt d2)).trans d2; have d3 := (hb5.cell (p := ⟨blk, off + i * 5 + 3, none⟩) (cell_lt d3)).trans d3; have d4 := (hb5.cell (p := ⟨blk, off + i * 5 + 4, none⟩) (cell_lt d4)).trans d4; clear hb5)
            | (go_at_call 22; refine (act_here H5.out (by have := HL.out; omega) dd).mono ?_; rintro e6 w6 ⟨rfl, g6, h6, _⟩; have H6 := Lib.hid h6; clear h6))
          go_roundw
          case rel => exact ⟨i + 1, by omega, by omega, by simp, g6, _, H6.out, by have := HL.out; have := act_len dd l q.k q.b; omega⟩
          case measure => simp [intOf]; omega
      · have k80 : ¬ (i : Int) < 80 := by omega
        have jd8 : decide (i < 80) = false := decide_eq_false h80
        have HH := Lib.hid hH
        have HL : Hid (l.length ≤ 80) := by show _ ≤ _; omega
        clear hH hl
        (have F5 := Lib.hid (HN.out.2.below HH.out.low)
         have c0 := F5.out.cell 0
         simp only [Dd.cs, List.getElem?_toArray, List.getElem?_cons_zero] at c0
         go_upto_region 14 with (first
           | (go_at_call 21; refine (pairs_here HH.out (by have := HL.out; omega)).mono ?_; rintro e7 w7 ⟨v7, rfl, h7, hb7, hs7, ho7⟩; obtain ⟨a7, c7, rfl, hs7⟩ := hs7; have H7 := Lib.hid h7; have HS7 : Hid (Holds w7 (.slice a7 l.length c7) l) := ⟨a7, c7, rfl, hs7⟩; have HO7 := Lib.hid ho7; clear ho7; have F7 := F5.out.below hb7; have d0 := F7.cell 0; have d1 := F7.cell 1; have d2 := F7.cell 2; have d3 := F7.cell 3; have d4 := F7.cell 4; simp only [Dd.cs, List.getElem?_toArray, List.getElem?_cons_zero, List.getElem?_cons_succ] at d0 d1 d2 d3 d4; have HF7 := Lib.hid F7; clear hb7 F7 h7 hs7 c0)
           | (go_at_call 27; refine (pick_any d.what 6 (by omega) (by omega) _).mono ?_; rintro e8 w8 ⟨rfl, hw8⟩; replace hw8 := hw8.symm; subst hw8)
           | (go_at_call 22; refine (act_here H7.out (by have := HL.out; omega) d).mono ?_; rintro e9 w9 ⟨rfl, g9, h9, t9⟩; have H9 := Lib.hid h9; have T9 := Lib.hid t9; clear h9 t9))
         (have HS9 : Hid (∀ (j : Nat) (x : Pr), l[j]? = some x → ∃ b o, a7 = some ⟨b, o, none⟩ ∧ b < w9.heap.size ∧ w9.cell? ⟨b, o + j * 2, none⟩ = some (.string x.1) ∧ w9.cell? ⟨b, o + j * 2 + 1, none⟩ = some (.string x.2)) := by
            have low9 := HH.out.bk.lt
            obtain ⟨a, cap, e0, h0⟩ := HS7.out.turned T9.out (by
              intro k hk hm
              have := HO7.out k hk
              simp at hm
              omega)
            cases e0
            exact h0
          have F9 := HN.out.2.below H9.out.low
          clear d0 d1 d2 d3 d4
          have d1 := F9.cell 1
          have d2 := F9.cell 2
          simp only [Dd.cs, List.getElem?_toArray, List.getElem?_cons_zero, List.getElem?_cons_succ] at d1 d2
          have HF9 := Lib.hid F9
          have hlw : w.heap.size + 1 < w9.heap.size := F9.lt
          have HP1 := Lib.hid d1
          have HP2 := Lib.hid d2
          have HP3 := Lib.hid hlw
          clear F9 d1 d2 hlw
          obtain ⟨ev, hev⟩ : ∃ ev, (actS d l q.k q.b).2 = ev := ⟨_, rfl⟩
          obtain ⟨L', hL'⟩ : ∃ L', (actS d l q.k q.b).1 = L' := ⟨_, rfl⟩
          have HG : Hid (SrtP l ∧ TxtP l ∧ ∀ x y, (x, y) ∈ l → x ≠ d.key → getB x L' = (y, 0)) := by
            have hg := H7.out.bk.good
            exact ⟨hg.1, hg.2, fun x y hm hx => by rw [← hL']; exact act_keeps hg.1 hg.2 hm hx⟩
          rw [hL'] at H9
          rw [hev]
          have HEV := Lib.hid (And.intro hev hL')
          have HL5 : Hid (L'.length < 1000) := by
            show _ < _
            rw [← hL']
            have := act_len d l q.k q.b
            have := HL.out
            omega
          clear hev hL'
          go_wp2_with fail
          go_loopw [12] (fun iv wr => ∃ i : Nat, i ≤ l.length ∧ iv = .int .i64 i ∧ Below w9.heap.size w9 wr) (fun iv _ => l.length - (intOf iv).toNat)
          case atStart => exact ⟨0, Nat.zero_le _, rfl, Below.refl _ _⟩
          case round =>
            obtain ⟨i, hi, rfl, hbw⟩ := hrel
            by_cases hlt : i < l.length
            · obtain ⟨⟨x, y⟩, hx⟩ : ∃ t, l[i]? = some t := ⟨_, List.getElem?_eq_getElem hlt⟩
              obtain ⟨b, o, rfl, hb, k1, k2⟩ := HS9.out i _ hx
              replace k1 := (hbw.cell (p := ⟨b, o + i * 2, none⟩) hb).trans k1
              replace k2 := (hbw.cell (p := ⟨b, o + i * 2 + 1, none⟩) hb).trans k2
              have d1 := (hbw.cell (p := ⟨w.heap.size + 1, 1, none⟩) HP3.out).trans HP1.out
              dsimp only at k1 k2
              have HX := Lib.hid (And.intro hx (And.intro hbw hb))
              have k80 : (i : Int) < 80 := by have := HL.out; omega
              have jl : (i : Int) < (l.length : Int) := by omega
              have j0 : (0 : Int) ≤ (i : Int) := by omega
              have jd : decide (i < l.length) = true := decide_eq_true hlt
              clear hx hbw hb hi
              obtain ⟨gv, gf, hg⟩ : ∃ gv gf, getB x L' = (gv, gf) := ⟨_, _, rfl⟩
              by_cases hxd : x = d.key
              · subst hxd
                have HGV := Lib.hid hg
                clear hg
                go_upto_region 18 with (go_at_call 28; refine (get_any (H9.out.below HX.out.2.1).bk _).mono ?_; rw [HGV.out]; rintro e10 w10 ⟨rfl, h10⟩; have k1 := (h10.cell (p := ⟨b, o + i * 2, none⟩) (cell_lt k1)).trans k1; have k2 := (h10.cell (p := ⟨b, o + i * 2 + 1, none⟩) (cell_lt k2)).trans k2; have d1 := (h10.cell (p := ⟨w.heap.size + 1, 1, none⟩) (cell_lt d1)).trans d1; have H10 := Lib.hid h10; clear h10)
                go_region
                go_wp2_with fail
                go_roundw
                case rel => exact ⟨i + 1, by omega, by simp, (Below.step HX.out.2.1 H10.out).drew⟩
                case measure => simp [intOf]; omega
              · have hg2 := HG.out.2.2 x y (List.mem_of_getElem? HX.out.1) hxd
                rw [hg] at hg2
                cases hg2
                have hne : (x.toList == d.key.toList) = false := by rw [kl_beq]; exact decide_eq_false hxd
                have HGV := Lib.hid hg
                clear hg
                go_upto_region 18 with (go_at_call 28; refine (get_any (H9.out.below HX.out.2.1).bk _).mono ?_; rw [HGV.out]; rintro e10 w10 ⟨rfl, h10⟩; have k1 := (h10.cell (p := ⟨b, o + i * 2, none⟩) (cell_lt k1)).trans k1; have k2 := (h10.cell (p := ⟨b, o + i * 2 + 1, none⟩) (cell_lt k2)).trans k2; have d1 := (h10.cell (p := ⟨w.heap.size + 1, 1, none⟩) (cell_lt d1)).trans d1; have H10 := Lib.hid h10; clear h10)
                go_region
                go_wp2_with fail
                go_roundw
                case rel => exact ⟨i + 1, by omega, by simp, (Below.step HX.out.2.1 H10.out).drew⟩
                case measure => simp [intOf]; omega
            · have jl : ¬ (i : Int) < (l.length : Int) := by omega
              have jd : decide (i < l.length) = false := decide_eq_false hlt
              have d1 := (hbw.cell (p := ⟨w.heap.size + 1, 1, none⟩) HP3.out).trans HP1.out
              have d2 := (hbw.cell (p := ⟨w.heap.size + 1, 2, none⟩) HP3.out).trans HP2.out
              have HBW := Lib.hid hbw
              have HLL := HL.out
              have hll : Hid (l.length < 1000000) := by show _ < _; omega
              clear hbw hi HLL
              obtain ⟨c, hc⟩ : ∃ c, d.what % 6 = c := ⟨_, rfl⟩
              rw [hc]
              have HC := Lib.hid hc
              clear hc
              by_cases h5 : ¬ ev = 0 ∨ c = 5
              · have HLE : Hid (L' = l) := by
                  show L' = l
                  rw [← HEV.out.2]
                  exact act_fail (h5.imp (fun h => by rw [HEV.out.1]; exact h) (fun h => HC.out.trans h))
                by_cases he0 : ev = 0
                · obtain rfl : c = 5 := by rcases h5 with h | h; exact absurd he0 h; exact h
                  subst he0
                  clear h5
                  go_wp2_with (first
                    | (go_at_call 28; refine (get_any (H9.out.below HBW.out).bk _).mono ?_; rintro e10 w10 ⟨rfl, h10⟩; have H10 := Lib.hid (Below.step HBW.out h10); have d1 := (h10.cell (p := ⟨w.heap.size + 1, 1, none⟩) (cell_lt d1)).trans d1; have d2 := (h10.cell (p := ⟨w.heap.size + 1, 2, none⟩) (cell_lt d2)).trans d2; clear h10)
                    | (go_at_call 21; refine (pairs_here (H9.out.below H10.out) (by have := HL5.out; omega)).mono ?_; rintro e11 w11 ⟨v11, rfl, h11, hb11, hs11, ho11⟩; have H11 := Lib.hid h11; have HS11 := Lib.hid hs11; have HB11 := Lib.hid (Below.step H10.out hb11); clear h11 hb11 hs11 ho11)
                    | (go_at_call 16; refine (same_any HS11.out (Holds.below (W := w9) ⟨_, _, rfl, HS9.out⟩ HB11.out) (by have := HL5.out; omega) hll.out).mono ?_; rintro e12 w12 ⟨rfl, hb12⟩; have HB12 := Lib.hid (Below.step HB11.out hb12); clear hb12))
                  go_ret
                  refine ⟨?_, Below.step HN.out.1 (Below.step H9.out.low HB12.out)⟩
                  show Ending.returned (.bool (sameP L' l)) = _
                  rw [HLE.out]
                  simp [sameP]
                · clear h5
                  go_wp2_with (first
                    | (go_at_call 28; refine (get_any (H9.out.below HBW.out).bk _).mono ?_; rintro e10 w10 ⟨rfl, h10⟩; have H10 := Lib.hid (Below.step HBW.out h10); have d1 := (h10.cell (p := ⟨w.heap.size + 1, 1, none⟩) (cell_lt d1)).trans d1; have d2 := (h10.cell (p := ⟨w.heap.size + 1, 2, none⟩) (cell_lt d2)).trans d2; clear h10)
                    | (go_at_call 21; refine (pairs_here (H9.out.below H10.out) (by have := HL5.out; omega)).mono ?_; rintro e11 w11 ⟨v11, rfl, h11, hb11, hs11, ho11⟩; have H11 := Lib.hid h11; have HS11 := Lib.hid hs11; have HB11 := Lib.hid (Below.step H10.out hb11); clear h11 hb11 hs11 ho11)
                    | (go_at_call 16; refine (same_any HS11.out (Holds.below (W := w9) ⟨_, _, rfl, HS9.out⟩ HB11.out) (by have := HL5.out; omega) hll.out).mono ?_; rintro e12 w12 ⟨rfl, hb12⟩; have HB12 := Lib.hid (Below.step HB11.out hb12); clear hb12))
                  go_ret
                  refine ⟨?_, Below.step HN.out.1 (Below.step H9.out.low HB12.out)⟩
                  show Ending.returned (.bool (sameP L' l)) = _
                  rw [HLE.out]
                  simp [sameP]
              · obtain rfl : ev = 0 := by rcases Classical.em (ev = 0) with h | h; exact h; exact absurd (.inl h) h5
                have hc5 : ¬ c = 5 := fun h => h5 (.inr h)
                clear h5
                have HOK := Lib.hid (act_ok HEV.out.1 (by rw [HC.out]; exact hc5))
                rw [HEV.out.2, HC.out] at HOK
                rcases HOK.out with ⟨rfl, hd1, hd2⟩ | ⟨hc3, hd1, hd2, hd3, hd4, hd5⟩
                · clear HOK
                  subst hd1
                  have HG1 := Lib.hid (getB_gone hd2)
                  have HG2 := Lib.hid (delB_gone hd2)
                  have HG3 := Lib.hid (swapB_gone (K := q.k) (B := q.b) hd2)
                  have HG4 := Lib.hid (len_gone (srt_uniq HG.out.1) hd2)
                  clear hd2
                  go_wp2_with (first
                    | (go_at_call 28; refine (get_any (H9.out.below HBW.out).bk _).mono ?_; rw [HG1.out]; rintro e10 w10 ⟨rfl, h10⟩; have H10 := Lib.hid (Below.step HBW.out h10); have d1 := (h10.cell (p := ⟨w.heap.size + 1, 1, none⟩) (cell_lt d1)).trans d1; have d2 := (h10.cell (p := ⟨w.heap.size + 1, 2, none⟩) (cell_lt d2)).trans d2; clear h10)
                    | (go_at_call 29; refine (delete_here (H9.out.below H10.out) (by have := HL5.out; omega) _).mono ?_; rw [HG2.out]; rintro e11 w11 ⟨rfl, g11, h11, t11⟩; have H11 := Lib.hid h11; have F11 := HN.out.2.below h11.low; have d1 := F11.cell 1; simp only [Dd.cs, List.getElem?_toArray, List.getElem?_cons_zero, List.getElem?_cons_succ] at d1; clear h11 F11 t11)
                    | (go_at_call 30; refine (swap_here H11.out (by have := HL5.out; omega) _ _ _).mono ?_; rw [HG3.out]; rintro e12 w12 ⟨rfl, g12, h12, t12⟩; have H12 := Lib.hid h12; clear h12 t12)
                    | (go_at_call 21; refine (pairs_here H12.out (by have := HL5.out; omega)).mono ?_; rintro e13 w13 ⟨v13, rfl, h13, hb13, hs13, ho13⟩; obtain ⟨a13, c13, rfl, hs13⟩ := hs13; have H13 := Lib.hid h13; clear h13 hb13 hs13 ho13))
                  go_ret
                  refine ⟨?_, Below.step HN.out.1 H13.out.low⟩
                  show Ending.returned (.bool _) = _
                  refine ret_bool ?_
                  rw [IntWalk.wrap64_in _ (by have := hll.out; have := HG4.out; omega)]
                  exact beq_iff_eq.2 (by have := HG4.out; omega)
                · clear HOK
                  subst hd1
                  have HG1 := Lib.hid (getB_put (y := d.value) HG.out.1 hd2)
                  have HG2 := Lib.hid (putB_again hd2 hd3 hd4 hd5)
                  have HG3 := Lib.hid (swapB_again (y := d.value) HG.out.1 hd2 hd3 hd4 hd5)
                  clear hd2 hd3 hd4 hd5
                  have hb3 : (c == 3) = false := beq_eq_false_iff_ne.2 hc3
                  have hb5 : (c == 5) = false := beq_eq_false_iff_ne.2 hc5
                  clear hc3 hc5
                  go_wp2_with (first
                    | (go_at_call 28; refine (get_any (H9.out.below HBW.out).bk _).mono ?_; rw [HG1.out]; rintro e10 w10 ⟨rfl, h10⟩; have H10 := Lib.hid (Below.step HBW.out h10); have d1 := (h10.cell (p := ⟨w.heap.size + 1, 1, none⟩) (cell_lt d1)).trans d1; have d2 := (h10.cell (p := ⟨w.heap.size + 1, 2, none⟩) (cell_lt d2)).trans d2; clear h10)
                    | (go_at_call 31; refine (put_here (H9.out.below H10.out) (by have := HL5.out; omega) _ _).mono ?_; rw [HG2.out]; rintro e11 w11 ⟨rfl, g11, h11, t11⟩; have H11 := Lib.hid h11; have F11 := HN.out.2.below h11.low; have d1 := F11.cell 1; have d2 := F11.cell 2; simp only [Dd.cs, List.getElem?_toArray, List.getElem?_cons_zero, List.getElem?_cons_succ] at d1 d2; clear h11 F11 t11)
                    | (go_at_call 30; refine (swap_here H11.out (by have := HL5.out; omega) _ _ _).mono ?_; rw [HG3.out]; rintro e12 w12 ⟨rfl, g12, h12, t12⟩; have H12 := Lib.hid h12; clear h12 t12))
                  go_ret
                  exact ⟨rfl, Below.step HN.out.1 H12.out.low⟩))
    · have jl : ¬ (i : Int) < (len : Int) := by omega
      have jd : decide (i < len) = false := decide_eq_false hlt
      have HH := Lib.hid hH
      have HL : Hid (l.length ≤ 80) := by show _ ≤ _; omega
      clear hH hl
      (have F5 := Lib.hid (HN.out.2.below HH.out.low)
       have c0 := F5.out.cell 0
       simp only [Dd.cs, List.getElem?_toArray, List.getElem?_cons_zero] at c0
       go_upto_region 14 with (first
         | (go_at_call 21; refine (pairs_here HH.out (by have := HL.out; omega)).mono ?_; rintro e7 w7 ⟨v7, rfl, h7, hb7, hs7, ho7⟩; obtain ⟨a7, c7, rfl, hs7⟩ := hs7; have H7 := Lib.hid h7; have HS7 : Hid (Holds w7 (.slice a7 l.length c7) l) := ⟨a7, c7, rfl, hs7⟩; have HO7 := Lib.hid ho7; clear ho7; have F7 := F5.out.below hb7; have d0 := F7.cell 0; have d1 := F7.cell 1; have d2 := F7.cell 2; have d3 := F7.cell 3; have d4 := F7.cell 4; simp only [Dd.cs, List.getElem?_toArray, List.getElem?_cons_zero, List.getElem?_cons_succ] at d0 d1 d2 d3 d4; have HF7 := Lib.hid F7; clear hb7 F7 h7 hs7 c0)
         | (go_at_call 27; refine (pick_any d.what 6 (by omega) (by omega) _).mono ?_; rintro e8 w8 ⟨rfl, hw8⟩; replace hw8 := hw8.symm; subst hw8)
         | (go_at_call 22; refine (act_here H7.out (by have := HL.out; omega) d).mono ?_; rintro e9 w9 ⟨rfl, g9, h9, t9⟩; have H9 := Lib.hid h9; have T9 := Lib.hid t9; clear h9 t9))
       (have HS9 : Hid (∀ (j : Nat) (x : Pr), l[j]? = some x → ∃ b o, a7 = some ⟨b, o, none⟩ ∧ b < w9.heap.size ∧ w9.cell? ⟨b, o + j * 2, none⟩ = some (.string x.1) ∧ w9.cell? ⟨b, o + j * 2 + 1, none⟩ = some (.string x.2)) := by
          have low9 := HH.out.bk.lt
          obtain ⟨a, cap, e0, h0⟩ := HS7.out.turned T9.out (by
            intro k hk hm
            have := HO7.out k hk
            simp at hm
            omega)
          cases e0
          exact h0
        have F9 := HN.out.2.below H9.out.low
        clear d0 d1 d2 d3 d4
        have d1 := F9.cell 1
        have d2 := F9.cell 2
        simp only [Dd.cs, List.getElem?_toArray, List.getElem?_cons_zero, List.getElem?_cons_succ] at d1 d2
        have HF9 := Lib.hid F9
        have hlw : w.heap.size + 1 < w9.heap.size := F9.lt
        have HP1 := Lib.hid d1
        have HP2 := Lib.hid d2
        have HP3 := Lib.hid hlw
        clear F9 d1 d2 hlw
        obtain ⟨ev, hev⟩ : ∃ ev, (actS d l q.k q.b).2 = ev := ⟨_, rfl⟩
        obtain ⟨L', hL'⟩ : ∃ L', (actS d l q.k q.b).1 = L' := ⟨_, rfl⟩
        have HG : Hid (SrtP l ∧ TxtP l ∧ ∀ x y, (x, y) ∈ l → x ≠ d.key → getB x L' = (y, 0)) := by
          have hg := H7.out.bk.good
          exact ⟨hg.1, hg.2, fun x y hm hx => by rw [← hL']; exact act_keeps hg.1 hg.2 hm hx⟩
        rw [hL'] at H9
        rw [hev]
        have HEV := Lib.hid (And.intro hev hL')
        have HL5 : Hid (L'.length < 1000) := by
          show _ < _
          rw [← hL']
          have := act_len d l q.k q.b
          have := HL.out
          omega
        clear hev hL'
        go_wp2_with fail
        go_loopw [12] (fun iv wr => ∃ i : Nat, i ≤ l.length ∧ iv = .int .i64 i ∧ Below w9.heap.size w9 wr) (fun iv _ => l.length - (intOf iv).toNat)
        case atStart => exact ⟨0, Nat.zero_le _, rfl, Below.refl _ _⟩
        case round =>
          obtain ⟨i, hi, rfl, hbw⟩ := hrel
          by_cases hlt : i < l.length
          · obtain ⟨⟨x, y⟩, hx⟩ : ∃ t, l[i]? = some t := ⟨_, List.getElem?_eq_getElem hlt⟩
            obtain ⟨b, o, rfl, hb, k1, k2⟩ := HS9.out i _ hx
            replace k1 := (hbw.cell (p := ⟨b, o + i * 2, none⟩) hb).trans k1
            replace k2 := (hbw.cell (p := ⟨b, o + i * 2 + 1, none⟩) hb).trans k2
            have d1 := (hbw.cell (p := ⟨w.heap.size + 1, 1, none⟩) HP3.out).trans HP1.out
            dsimp only at k1 k2
            have HX := Lib.hid (And.intro hx (And.intro hbw hb))
            have k80 : (i : Int) < 80 := by have := HL.out; omega
            have jl : (i : Int) < (l.length : Int) := by omega
            have j0 : (0 : Int) ≤ (i : Int) := by omega
            have jd : decide (i < l.length) = true := decide_eq_true hlt
            clear hx hbw hb hi
            obtain ⟨gv, gf, hg⟩ : ∃ gv gf, getB x L' = (gv, gf) := ⟨_, _, rfl⟩
            by_cases hxd : x = d.key
            · subst hxd
              have HGV := Lib.hid hg
              clear hg
              go_upto_region 18 with (go_at_call 28; refine (get_any (H9.out.below HX.out.2.1).bk _).mono ?_; rw [HGV.out]; rintro e10 w10 ⟨rfl, h10⟩; have k1 := (h10.cell (p := ⟨b, o + i * 2, none⟩) (cell_lt k1)).trans k1; have k2 := (h10.cell (p := ⟨b, o + i * 2 + 1, none⟩) (cell_lt k2)).trans k2; have d1 := (h10.cell (p := ⟨w.heap.size + 1, 1, none⟩) (cell_lt d1)).trans d1; have H10 := Lib.hid h10; clear h10)
              go_region
              go_wp2_with fail
              go_roundw
              case rel => exact ⟨i + 1, by omega, by simp, (Below.step HX.out.2.1 H10.out).drew⟩
              case measure => simp [intOf]; omega
            · have hg2 := HG.out.2.2 x y (List.mem_of_getElem? HX.out.1) hxd
              rw [hg] at hg2
              cases hg2
              have hne : (x.toList == d.key.toList) = false := by rw [kl_beq]; exact decide_eq_false hxd
              have HGV := Lib.hid hg
              clear hg
              go_upto_region 18 with (go_at_call 28; refine (get_any (H9.out.below HX.out.2.1).bk _).mono ?_; rw [HGV.out]; rintro e10 w10 ⟨rfl, h10⟩; have k1 := (h10.cell (p := ⟨b, o + i * 2, none⟩) (cell_lt k1)).trans k1; have k2 := (h10.cell (p := ⟨b, o + i * 2 + 1, none⟩) (cell_lt k2)).trans k2; have d1 := (h10.cell (p := ⟨w.heap.size + 1, 1, none⟩) (cell_lt d1)).trans d1; have H10 := Lib.hid h10; clear h10)
              go_region
              go_wp2_with fail
              go_roundw
              case rel => exact ⟨i + 1, by omega, by simp, (Below.step HX.out.2.1 H10.out).drew⟩
              case measure => simp [intOf]; omega
          · have jl : ¬ (i : Int) < (l.length : Int) := by omega
            have jd : decide (i < l.length) = false := decide_eq_false hlt
            have d1 := (hbw.cell (p := ⟨w.heap.size + 1, 1, none⟩) HP3.out).trans HP1.out
            have d2 := (hbw.cell (p := ⟨w.heap.size + 1, 2, none⟩) HP3.out).trans HP2.out
            have HBW := Lib.hid hbw
            have HLL := HL.out
            have hll : Hid (l.length < 1000000) := by show _ < _; omega
            clear hbw hi HLL
            obtain ⟨c, hc⟩ : ∃ c, d.what % 6 = c := ⟨_, rfl⟩
            rw [hc]
            have HC := Lib.hid hc
            clear hc
            by_cases h5 : ¬ ev = 0 ∨ c = 5
            · have HLE : Hid (L' = l) := by
                show L' = l
                rw [← HEV.out.2]
                exact act_fail (h5.imp (fun h => by rw [HEV.out.1]; exact h) (fun h => HC.out.trans h))
              by_cases he0 : ev = 0
              · obtain rfl : c = 5 := by rcases h5 with h | h; exact absurd he0 h; exact h
                subst he0
                clear h5
                go_wp2_with (first
                  | (go_at_call 28; refine (get_any (H9.out.below HBW.out).bk _).mono ?_; rintro e10 w10 ⟨rfl, h10⟩; have H10 := Lib.hid (Below.step HBW.out h10); have d1 := (h10.cell (p := ⟨w.heap.size + 1, 1, none⟩) (cell_lt d1)).trans d1; have d2 := (h10.cell (p := ⟨w.heap.size + 1, 2, none⟩) (cell_lt d2)).trans d2; clear h10)
                  | (go_at_call 21; refine (pairs_here (H9.out.below H10.out) (by have := HL5.out; omega)).mono ?_; rintro e11 w11 ⟨v11, rfl, h11, hb11, hs11, ho11⟩; have H11 := Lib.hid h11; have HS11 := Lib.hid hs11; have HB11 := Lib.hid (Below.step H10.out hb11); clear h11 hb11 hs11 ho11)
                  | (go_at_call 16; refine (same_any HS11.out (Holds.below (W := w9) ⟨_, _, rfl, HS9.out⟩ HB11.out) (by have := HL5.out; omega) hll.out).mono ?_; rintro e12 w12 ⟨rfl, hb12⟩; have HB12 := Lib.hid (Below.step HB11.out hb12); clear hb12))
                go_ret
                refine ⟨?_, Below.step HN.out.1 (Below.step H9.out.low HB12.out)⟩
                show Ending.returned (.bool (sameP L' l)) = _
                rw [HLE.out]
                simp [sameP]
              · clear h5
                go_wp2_with (first
                  | (go_at_call 28; refine (get_any (H9.out.below HBW.out).bk _).mono ?_; rintro e10 w10 ⟨rfl, h10⟩; have H10 := Lib.hid (Below.step HBW.out h10); have d1 := (h10.cell (p := ⟨w.heap.size + 1, 1, none⟩) (cell_lt d1)).trans d1; have d2 := (h10.cell (p := ⟨w.heap.size + 1, 2, none⟩) (cell_lt d2)).trans d2; clear h10)
                  | (go_at_call 21; refine (pairs_here (H9.out.below H10.out) (by have := HL5.out; omega)).mono ?_; rintro e11 w11 ⟨v11, rfl, h11, hb11, hs11, ho11⟩; have H11 := Lib.hid h11; have HS11 := Lib.hid hs11; have HB11 := Lib.hid (Below.step H10.out hb11); clear h11 hb11 hs11 ho11)
                  | (go_at_call 16; refine (same_any HS11.out (Holds.below (W := w9) ⟨_, _, rfl, HS9.out⟩ HB11.out) (by have := HL5.out; omega) hll.out).mono ?_; rintro e12 w12 ⟨rfl, hb12⟩; have HB12 := Lib.hid (Below.step HB11.out hb12); clear hb12))
                go_ret
                refine ⟨?_, Below.step HN.out.1 (Below.step H9.out.low HB12.out)⟩
                show Ending.returned (.bool (sameP L' l)) = _
                rw [HLE.out]
                simp [sameP]
            · obtain rfl : ev = 0 := by rcases Classical.em (ev = 0) with h | h; exact h; exact absurd (.inl h) h5
              have hc5 : ¬ c = 5 := fun h => h5 (.inr h)
              clear h5
              have HOK := Lib.hid (act_ok HEV.out.1 (by rw [HC.out]; exact hc5))
              rw [HEV.out.2, HC.out] at HOK
              rcases HOK.out with ⟨rfl, hd1, hd2⟩ | ⟨hc3, hd1, hd2, hd3, hd4, hd5⟩
              · clear HOK
                subst hd1
                have HG1 := Lib.hid (getB_gone hd2)
                have HG2 := Lib.hid (delB_gone hd2)
                have HG3 := Lib.hid (swapB_gone (K := q.k) (B := q.b) hd2)
                have HG4 := Lib.hid (len_gone (srt_uniq HG.out.1) hd2)
                clear hd2
                go_wp2_with (first
                  | (go_at_call 28; refine (get_any (H9.out.below HBW.out).bk _).mono ?_; rw [HG1.out]; rintro e10 w10 ⟨rfl, h10⟩; have H10 := Lib.hid (Below.step HBW.out h10); have d1 := (h10.cell (p := ⟨w.heap.size + 1, 1, none⟩) (cell_lt d1)).trans d1; have d2 := (h10.cell (p := ⟨w.heap.size + 1, 2, none⟩) (cell_lt d2)).trans d2; clear h10)
                  | (go_at_call 29; refine (delete_here (H9.out.below H10.out) (by have := HL5.out; omega) _).mono ?_; rw [HG2.out]; rintro e11 w11 ⟨rfl, g11, h11, t11⟩; have H11 := Lib.hid h11; have F11 := HN.out.2.below h11.low; have d1 := F11.cell 1; simp only [Dd.cs, List.getElem?_toArray, List.getElem?_cons_zero, List.getElem?_cons_succ] at d1; clear h11 F11 t11)
                  | (go_at_call 30; refine (swap_here H11.out (by have := HL5.out; omega) _ _ _).mono ?_; rw [HG3.out]; rintro e12 w12 ⟨rfl, g12, h12, t12⟩; have H12 := Lib.hid h12; clear h12 t12)
                  | (go_at_call 21; refine (pairs_here H12.out (by have := HL5.out; omega)).mono ?_; rintro e13 w13 ⟨v13, rfl, h13, hb13, hs13, ho13⟩; obtain ⟨a13, c13, rfl, hs13⟩ := hs13; have H13 := Lib.hid h13; clear h13 hb13 hs13 ho13))
                go_ret
                refine ⟨?_, Below.step HN.out.1 H13.out.low⟩
                show Ending.returned (.bool _) = _
                refine ret_bool ?_
                rw [IntWalk.wrap64_in _ (by have := hll.out; have := HG4.out; omega)]
                exact beq_iff_eq.2 (by have := HG4.out; omega)
              · clear HOK
                subst hd1
                have HG1 := Lib.hid (getB_put (y := d.value) HG.out.1 hd2)
                have HG2 := Lib.hid (putB_again hd2 hd3 hd4 hd5)
                have HG3 := Lib.hid (swapB_again (y := d.value) HG.out.1 hd2 hd3 hd4 hd5)
                clear hd2 hd3 hd4 hd5
                have hb3 : (c == 3) = false := beq_eq_false_iff_ne.2 hc3
                have hb5 : (c == 5) = false := beq_eq_false_iff_ne.2 hc5
                clear hc3 hc5
                go_wp2_with (first
                  | (go_at_call 28; refine (get_any (H9.out.below HBW.out).bk _).mono ?_; rw [HG1.out]; rintro e10 w10 ⟨rfl, h10⟩; have H10 := Lib.hid (Below.step HBW.out h10); have d1 := (h10.cell (p := ⟨w.heap.size + 1, 1, none⟩) (cell_lt d1)).trans d1; have d2 := (h10.cell (p := ⟨w.heap.size + 1, 2, none⟩) (cell_lt d2)).trans d2; clear h10)
                  | (go_at_call 31; refine (put_here (H9.out.below H10.out) (by have := HL5.out; omega) _ _).mono ?_; rw [HG2.out]; rintro e11 w11 ⟨rfl, g11, h11, t11⟩; have H11 := Lib.hid h11; have F11 := HN.out.2.below h11.low; have d1 := F11.cell 1; have d2 := F11.cell 2; simp only [Dd.cs, List.getElem?_toArray, List.getElem?_cons_zero, List.getElem?_cons_succ] at d1 d2; clear h11 F11 t11)
                  | (go_at_call 30; refine (swap_here H11.out (by have := HL5.out; omega) _ _ _).mono ?_; rw [HG3.out]; rintro e12 w12 ⟨rfl, g12, h12, t12⟩; have H12 := Lib.hid h12; clear h12 t12))
                go_ret
                exact ⟨rfl, Below.step HN.out.1 H12.out.low⟩))
end Go.Proofs.Ytcpmnkihhenbgaa
