/- BookQuota, over its opened arguments. -/
import Derived.Test.YtcpmnkihhenbgaaQuota
import Derived.Lib.QuietBelow
namespace Go.Proofs.Ytcpmnkihhenbgaa
open Go.RowKit Go.Shelf
set_option maxRecDepth 1000000
set_option maxHeartbeats 4000000

theorem quota_walk (q : Lm) (ao : Option Addr) (len cap : Nat) (w : World) (_ : q.Ok) (hdd : IsDeeds w ao len) :
    Calls Try.prog 6 #[q.v, .slice ao len cap] w fun e w' => e = .returned (.bool true) ∧ Below w.heap.size w w' := by
  obtain ⟨W1, hW1⟩ : ∃ W1, W1 = w.alloc (.cells #[.int .u64 (q.k : Int), .int .u64 (q.b : Int)] 24) := ⟨_, rfl⟩
  have B1 : Below w.heap.size w W1 := by rw [hW1]; exact Below.new (Below.refl _ _) _
  have f0 : Fresh W1 w.heap.size #[.int .u64 (q.k : Int), .int .u64 (q.b : Int)] 24 := by rw [hW1]; exact Fresh.new _ _ _ _ rfl
  have HF0 := Lib.hid f0
  have HB := Lib.hid B1
  have HDD := Lib.hid hdd
  have HW1 := Lib.hid hW1
  have hl63 := hdd.1
  clear hW1 B1 f0 hdd
  unfold Lm.v
  go_enter Try.func6, Try.ntmps6
  go_upto_region 1 with fail
  rw [← HW1.out]
  go_upto_region 4 with (first
    | (go_at_call 9; refine (awake_any _).mono ?_; rintro e1 w1 ⟨rfl, hb1⟩; have F1 := HF0.out.below hb1; have g0 := F1.cell 0; have g1 := F1.cell 1; simp only [List.getElem?_toArray, List.getElem?_cons_zero, List.getElem?_cons_succ] at g0 g1; have HB1 := Lib.hid (Below.step HB.out hb1); have HF1 := Lib.hid F1; clear hb1 F1)
    | (go_at_call 10; refine (new_here q.k q.b _ _ (Below.refl _ _)).mono ?_; rintro e3 w3 ⟨p, q0, m, rfl, h3⟩; have H3 := Lib.hid h3; clear h3 g0 g1))
  have HN : Hid (Below w.heap.size w w1 ∧ Fresh w1 w.heap.size #[.int .u64 (q.k : Int), .int .u64 (q.b : Int)] 24) := ⟨HB1.out, HF1.out⟩
  clear HF0 HB HF1 HB1 HW1
  go_wp2_with fail
  go_loopw [6] (fun iv wr => ∃ i : Nat, i ≤ len ∧ i ≤ 80 ∧ iv = .int .i64 i ∧ ∃ e l, Here w1 wr p q0 e m l q.k q.b ∧ l.length ≤ i ∧ InQ l q.k q.b) (fun iv _ => 80 - (intOf iv).toNat)
  case atStart => exact ⟨0, Nat.zero_le _, by omega, rfl, q0, [], H3.out, Nat.le_refl _, InQ.nil _ _⟩
  case round =>
    obtain ⟨i, hi, hi80, rfl, e, l, hH, hl, hIQ⟩ := hrel
    by_cases hlt : i < len
    · have jl : (i : Int) < (len : Int) := by omega
      have j0 : (0 : Int) ≤ (i : Int) := by omega
      have jd : decide (i < len) = true := decide_eq_true hlt
      by_cases h80 : i < 80
      · have k80 : (i : Int) < 80 := by omega
        have jd8 : decide (i < 80) = true := decide_eq_true h80
        obtain ⟨blk, off, dd, rfl, hbl, hd⟩ := deed_at HDD.out hlt
        have HD := Lib.hid hd
        have HBL := Lib.hid hbl
        have hc : ∀ (W : World), Below w1.heap.size w1 W → W.cell? ⟨blk, off + i * 5, none⟩ = some (.int .i64 dd.what) ∧ W.cell? ⟨blk, off + i * 5 + 1, none⟩ = some (.string dd.key) ∧ W.cell? ⟨blk, off + i * 5 + 2, none⟩ = some (.string dd.value) ∧ W.cell? ⟨blk, off + i * 5 + 3, none⟩ = some (.string dd.old) ∧ W.cell? ⟨blk, off + i * 5 + 4, none⟩ = some (.int .i64 dd.n) := fun W hb => by
          have hlow := Below.step HN.out.1 hb
          exact ⟨(hlow.cell (p := ⟨blk, _, none⟩) hbl).trans hd.1, (hlow.cell (p := ⟨blk, _, none⟩) hbl).trans hd.2.1, (hlow.cell (p := ⟨blk, _, none⟩) hbl).trans hd.2.2.1, (hlow.cell (p := ⟨blk, _, none⟩) hbl).trans hd.2.2.2.1, (hlow.cell (p := ⟨blk, _, none⟩) hbl).trans hd.2.2.2.2⟩
        have HC := Lib.hid hc
        have HH := Lib.hid hH
        have HL := Lib.hid hl
        have HIQ := Lib.hid hIQ
        clear hH hl hbl hd hc hIQ hi hi80
        obtain ⟨d0, d1, d2, d3, d4⟩ := HC.out _ HH.out.low
        cases hfd : dd.fit
        · have HFD := Lib.hid hfd
          clear hfd
          go_wp2_with (go_at_call 11; refine (fitD_any dd _).mono ?_; rw [HFD.out]; rintro e5 w5 ⟨rfl, hb5⟩; have H5 := Lib.hid (HH.out.below hb5); clear hb5)
          go_roundw
          case rel => exact ⟨i + 1, by omega, by omega, by simp, e, l, H5.out, by have := HL.out; omega, HIQ.out⟩
          case measure => simp [intOf]; omega
        · have HFD := Lib.hid hfd
          clear hfd
          obtain ⟨ev, hev⟩ : ∃ ev, (actS dd l q.k q.b).2 = ev := ⟨_, rfl⟩
          obtain ⟨L', hL'⟩ : ∃ L', (actS dd l q.k q.b).1 = L' := ⟨_, rfl⟩
          have HEV := Lib.hid (And.intro hev hL')
          clear hev hL'
          go_upto_region 11 with (first
            | (go_at_call 11; refine (fitD_any dd _).mono ?_; rw [HFD.out]; rintro e5 w5 ⟨rfl, hb5⟩; have H5 := Lib.hid (HH.out.below hb5); clear hb5 d0 d1 d2 d3 d4)
            | (go_at_call 21; refine (pairs_here H5.out (by have := HL.out; omega)).mono ?_; rintro e6 w6 ⟨v6, rfl, h6, hb6, hs6, ho6⟩; obtain ⟨a6, c6, rfl, hs6⟩ := hs6; have H6 := Lib.hid h6; have HS6 : Hid (Holds w6 (.slice a6 l.length c6) l) := ⟨a6, c6, rfl, hs6⟩; have HO6 := Lib.hid ho6; obtain ⟨d0, d1, d2, d3, d4⟩ := HC.out _ h6.low; clear hb6 hs6 ho6 h6)
            | (go_at_call 22; refine (act_here H6.out (by have := HL.out; omega) dd).mono ?_; rw [HEV.out.1, HEV.out.2]; rintro e7 w7 ⟨rfl, g7, h7, t7⟩; have H7 := Lib.hid h7; have T7 := Lib.hid t7; clear h7 t7 d0 d1 d2 d3 d4)
            | (go_at_call 21; refine (pairs_here H7.out (by have := HL.out; have := act_len dd l q.k q.b; rw [HEV.out.2] at this; omega)).mono ?_; rintro e8 w8 ⟨v8, rfl, h8, hb8, hs8, ho8⟩; obtain ⟨a8, c8, rfl, hs8⟩ := hs8; have H8 := Lib.hid h8; have HS8 : Hid (Holds w8 (.slice a8 L'.length c8) L') := ⟨a8, c8, rfl, hs8⟩; have HB8 := Lib.hid hb8; clear hb8 hs8 ho8 h8))
          have HX : Hid (Holds w8 (.slice a6 l.length c6) l ∧ L'.length ≤ l.length + 1 ∧ L'.length < 1000 ∧ l.length < 1000 ∧ InQ L' q.k q.b ∧ SrtP l ∧ TxtP l) := by
            have hg := H6.out.bk.good
            have h1 : L'.length ≤ l.length + 1 := by have := act_len dd l q.k q.b; rw [HEV.out.2] at this; exact this
            have h2 := HL.out
            refine ⟨Holds.below (Holds.turned HS6.out T7.out ?_) HB8.out, h1, by omega, by omega, ?_, hg.1, hg.2⟩
            · intro k hk hm
              have h1 := HO6.out k hk
              have h2 := H5.out.bk.lt
              simp at hm
              omega
            · rw [← HEV.out.2]; exact HIQ.out.act (srt_uniq hg.1)
          have G8 : Hid (Below w1.heap.size w1 w8 ∧ Fresh w8 w.heap.size #[.int .u64 (q.k : Int), .int .u64 (q.b : Int)] 24) := ⟨H8.out.low, HN.out.2.below H8.out.low⟩
          have g0 := G8.out.2.cell 0
          have g1 := G8.out.2.cell 1
          simp only [List.getElem?_toArray, List.getElem?_cons_zero, List.getElem?_cons_succ] at g0 g1
          replace g0 := fun d os => cell_regrown g0 d os
          replace g1 := fun d os => cell_regrown g1 d os
          have H2 : Hid (∀ (d : Nat) (os : Array Obj), Calls Try.prog 23 #[.pointer (some ⟨p, 0, none⟩), .slice a8 L'.length c8] (Sort.grow (redrawn w8 d) os) fun e w' => e = .returned (.bool true) ∧ Below (Sort.grow (redrawn w8 d) os).heap.size (Sort.grow (redrawn w8 d) os) w') := fun d os =>
            counted_any (H8.out.bk.below (below_regrown w8 d os)) HX.out.2.2.1 (HS8.out.below (below_regrown w8 d os))
          have H3' : Hid (∀ (d : Nat) (os : Array Obj), Calls Try.prog 24 #[.pointer (some ⟨p, 0, none⟩)] (Sort.grow (redrawn w8 d) os) fun e w' => e = .returned (.int .u64 (L'.length : Nat)) ∧ Below (Sort.grow (redrawn w8 d) os).heap.size (Sort.grow (redrawn w8 d) os) w') := fun d os =>
            (keys_any (H8.out.bk.below (below_regrown w8 d os)) (by have := HX.out.2.2.1; omega)).mono (by rintro _ _ ⟨rfl, rfl⟩; exact ⟨rfl, Below.refl _ _⟩)
          have H4 : Hid (∀ (d : Nat) (os : Array Obj), Calls Try.prog 25 #[.pointer (some ⟨p, 0, none⟩)] (Sort.grow (redrawn w8 d) os) fun e w' => e = .returned (.int .u64 (lenP L' : Nat)) ∧ Below (Sort.grow (redrawn w8 d) os).heap.size (Sort.grow (redrawn w8 d) os) w') := fun d os =>
            (bytes_any (H8.out.bk.below (below_regrown w8 d os))).mono (by rintro _ _ ⟨rfl, rfl⟩; exact ⟨rfl, Below.refl _ _⟩)
          have hq1 := HX.out.2.2.2.2.1.1
          have hq2 := HX.out.2.2.2.2.1.2
          have u1 : decide (q.k < L'.length) = false := decide_eq_false (by omega)
          have u2 : decide (q.b < lenP L') = false := decide_eq_false (by omega)
          have u3 : decide ((q.k : Int) < (L'.length : Int)) = false := decide_eq_false (by omega)
          have u4 : decide ((q.b : Int) < (lenP L' : Int)) = false := decide_eq_false (by omega)
          clear hq1 hq2
          have HSM : Hid (¬ ev = 0 → ∀ (d : Nat) (os : Array Obj), Calls Try.prog 16 #[.slice a6 l.length c6, .slice a8 L'.length c8] (Sort.grow (redrawn w8 d) os) fun e w' => e = .returned (.bool true) ∧ Below (Sort.grow (redrawn w8 d) os).heap.size (Sort.grow (redrawn w8 d) os) w') := fun hne d os => by
            have hLl : L' = l := by
              rw [← HEV.out.2]
              exact act_fail (.inl (by rw [HEV.out.1]; exact hne))
            have h := same_any (HX.out.1.below (below_regrown w8 d os)) (HS8.out.below (below_regrown w8 d os)) (by have := HX.out.2.2.2.1; omega) (by have := HX.out.2.2.1; omega)
            have hs : sameP l L' = true := by rw [hLl]; simp [sameP]
            rw [hs] at h
            exact h
          by_cases he0 : ev = 0
          · subst he0
            refine wp_region_quiet_below (by kernel_rfl) (by kernel_rfl) ?_
            repeat (any_goals (first | go_big_quiet_step (first
              | (go_at_call 23; with_reducible exact Calls.regrown_of (H2.out _ _))
              | (go_at_call 24; with_reducible exact Calls.regrown_of (H3'.out _ _))
              | (go_at_call 25; with_reducible exact Calls.regrown_of (H4.out _ _))) | quiet_step (fail)))
            refine wpQuiet_nil ?_
            intro w9 hw9
            have H9 : Hid (Below w8.heap.size w8 w9) := by obtain ⟨p, rfl⟩ := hw9; exact below_regrown _ _ _
            clear hw9 g0 g1 H2 H3' H4 u1 u2 u3 u4
            go_upto_region 13 with fail
            refine wp_region_quiet_below (by kernel_rfl) (by kernel_rfl) ?_
            repeat (any_goals (first | go_big_quiet_step (fail) | quiet_step (fail)))
            refine wpQuiet_nil ?_
            intro w10 hw10
            have H10 : Hid (Below w9.heap.size w9 w10) := by obtain ⟨p, rfl⟩ := hw10; exact below_regrown _ _ _
            clear hw10
            go_wp2_with fail
            go_roundw
            case rel => exact ⟨i + 1, by omega, by omega, by simp, g7, L', (H8.out.below H9.out).below H10.out, by have := HL.out; have := HX.out.2.1; omega, HX.out.2.2.2.2.1⟩
            case measure => simp [intOf]; omega
          · have H1 := Lib.hid (HSM.out he0)
            have b0 : (ev == 0) = false := beq_eq_false_iff_ne.2 he0
            have b0' : (ev != 0) = true := bne_iff_ne.2 he0
            by_cases h10 : ev = 10
            · subst h10
              refine wp_region_quiet_below (by kernel_rfl) (by kernel_rfl) ?_
              repeat (any_goals (first | go_big_quiet_step (first
                | (go_at_call 16; with_reducible exact Calls.regrown_of (H1.out _ _))
                | (go_at_call 23; with_reducible exact Calls.regrown_of (H2.out _ _))
                | (go_at_call 24; with_reducible exact Calls.regrown_of (H3'.out _ _))
                | (go_at_call 25; with_reducible exact Calls.regrown_of (H4.out _ _))) | quiet_step (fail)))
              refine wpQuiet_nil ?_
              intro w9 hw9
              have H9 : Hid (Below w8.heap.size w8 w9) := by obtain ⟨p, rfl⟩ := hw9; exact below_regrown _ _ _
              clear hw9 g0 g1 H2 H3' H4 u1 u2 u3 u4
              go_upto_region 13 with fail
              obtain ⟨d0, d1, d2, d3, d4⟩ := HC.out _ (Below.step H8.out.low H9.out)
              have g0 := (G8.out.2.below H9.out).cell 0
              have g1 := (G8.out.2.below H9.out).cell 1
              simp only [List.getElem?_toArray, List.getElem?_cons_zero, List.getElem?_cons_succ] at g0 g1
              replace g0 := fun d os => cell_regrown g0 d os
              replace g1 := fun d os => cell_regrown g1 d os
              replace d0 := fun d os => cell_regrown d0 d os
              replace d1 := fun d os => cell_regrown d1 d os
              replace d2 := fun d os => cell_regrown d2 d os
              replace d3 := fun d os => cell_regrown d3 d os
              replace d4 := fun d os => cell_regrown d4 d os
              have H5' : Hid (∀ (d : Nat) (os : Array Obj), Calls Try.prog 26 #[.agg #[.int .u64 (q.k : Int), .int .u64 (q.b : Int)], .slice a6 l.length c6, .agg #[.int .i64 dd.what, .string dd.key, .string dd.value, .string dd.old, .int .i64 dd.n]] (Sort.grow (redrawn w9 d) os) fun e w' => e = .returned (.bool true) ∧ Below (Sort.grow (redrawn w9 d) os).heap.size (Sort.grow (redrawn w9 d) os) w') := fun d os => by
                have h := exceeds_any q dd HFD.out HX.out.2.2.2.1 HX.out.2.2.2.2.2.2 (Holds.below (Holds.below HX.out.1 H9.out) (below_regrown w9 d os))
                rw [show overB dd.key dd.value l q.k q.b = true from act_over HEV.out.1] at h
                exact h
              refine wp_region_quiet_below (by kernel_rfl) (by kernel_rfl) ?_
              repeat (any_goals (first | go_big_quiet_step ((go_at_call 26; with_reducible exact Calls.regrown_of (H5'.out _ _))) | quiet_step (fail)))
              refine wpQuiet_nil ?_
              intro w10 hw10
              have H10 : Hid (Below w9.heap.size w9 w10) := by obtain ⟨p, rfl⟩ := hw10; exact below_regrown _ _ _
              clear hw10 H5' g0 g1 d0 d1 d2 d3 d4
              go_wp2_with fail
              go_roundw
              case rel => exact ⟨i + 1, by omega, by omega, by simp, g7, L', (H8.out.below H9.out).below H10.out, by have := HL.out; have := HX.out.2.1; omega, HX.out.2.2.2.2.1⟩
              case measure => simp [intOf]; omega
            · have b10 : (ev == 10) = false := beq_eq_false_iff_ne.2 h10
              clear h10
              refine wp_region_quiet_below (by kernel_rfl) (by kernel_rfl) ?_
              repeat (any_goals (first | go_big_quiet_step (first
                | (go_at_call 16; with_reducible exact Calls.regrown_of (H1.out _ _))
                | (go_at_call 23; with_reducible exact Calls.regrown_of (H2.out _ _))
                | (go_at_call 24; with_reducible exact Calls.regrown_of (H3'.out _ _))
                | (go_at_call 25; with_reducible exact Calls.regrown_of (H4.out _ _))) | quiet_step (fail)))
              refine wpQuiet_nil ?_
              intro w9 hw9
              have H9 : Hid (Below w8.heap.size w8 w9) := by obtain ⟨p, rfl⟩ := hw9; exact below_regrown _ _ _
              clear hw9 g0 g1 H2 H3' H4 u1 u2 u3 u4
              go_upto_region 13 with fail
              refine wp_region_quiet_below (by kernel_rfl) (by kernel_rfl) ?_
              repeat (any_goals (first | go_big_quiet_step (fail) | quiet_step (fail)))
              refine wpQuiet_nil ?_
              intro w10 hw10
              have H10 : Hid (Below w9.heap.size w9 w10) := by obtain ⟨p, rfl⟩ := hw10; exact below_regrown _ _ _
              clear hw10
              go_wp2_with fail
              go_roundw
              case rel => exact ⟨i + 1, by omega, by omega, by simp, g7, L', (H8.out.below H9.out).below H10.out, by have := HL.out; have := HX.out.2.1; omega, HX.out.2.2.2.2.1⟩
              case measure => simp [intOf]; omega
      · have k80 : ¬ (i : Int) < 80 := by omega
        have jd8 : decide (i < 80) = false := decide_eq_false h80
        have HE := Lib.hid (Below.step HN.out.1 hH.low)
        clear hH hl hIQ
        go_wp2_with fail
        go_ret
        exact ⟨rfl, HE.out⟩
    · have jl : ¬ (i : Int) < (len : Int) := by omega
      have jd : decide (i < len) = false := decide_eq_false hlt
      have HE := Lib.hid (Below.step HN.out.1 hH.low)
      clear hH hl hIQ
      go_wp2_with fail
      go_ret
      exact ⟨rfl, HE.out⟩
end Go.Proofs.Ytcpmnkihhenbgaa
