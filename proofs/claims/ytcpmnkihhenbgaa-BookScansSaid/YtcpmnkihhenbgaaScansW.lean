/- BookScans, over its opened arguments. -/
import Derived.Test.YtcpmnkihhenbgaaScansF
import Derived.Test.YtcpmnkihhenbgaaOpenB
import Derived.Laws.Cover1
namespace Go.Proofs.Ytcpmnkihhenbgaa
open Go.RowKit
set_option maxRecDepth 1000000
set_option maxHeartbeats 4000000

/-- A slice of the call's own that holds pairs. -/
def OwnW (w7 W : World) (v : Value) (L : List Pr) : Prop := W.ownsRow w7.heap.size 49 2 v L.length (flatP L)
theorem Below.grown' {w W W' : World} {row : Option Nat} (h : Below w.heap.size w W) (hg : W.grownBy W' row) (hr : ∀ r, row = some r → w.heap.size ≤ r) : Below w.heap.size w W' :=
  Turned.below (S := []) (Below.refl _ _) ((Turned.of_below h).kept hg hr) (by simp) (Nat.le_refl _)
theorem OwnW.push {w7 W : World} {v : Value} {L : List Pr} (h : OwnW w7 W v L) (hb : Below w7.heap.size w7 W) (x : Pr) (hn : L.length ≤ 1000) :
    ∃ v' W', (∀ ty, (Builtin.append_ #[29, 29] ty #[v, .slice (some ⟨W.heap.size, 0, none⟩) 1 1]).run Try.prog (W.alloc (.cells #[.string x.1, .string x.2] 49)) = .ok v' W') ∧ OwnW w7 W' v' (L ++ [x]) ∧ Below w7.heap.size w7 W' := by
  have hs := hb.size
  have h1 : (W.alloc (.cells #[.string x.1, .string x.2] 49)).ownsRow w7.heap.size 49 2 v L.length (flatP L) := row_keep h fun k hk => (Below.new (Below.refl _ _) _).block k (h.lt k hk).2
  have h2 : (W.alloc (.cells #[.string x.1, .string x.2] 49)).ownsRow w7.heap.size 49 2 (.slice (some ⟨W.heap.size, 0, none⟩) 1 1) [x].length (flatP [x]) := World.ownsRow_lit W _ 1 hs (by unfold maxLen; omega) rfl
  obtain ⟨v', W', r1, r2, r3⟩ := app_pairs h1 h2 (by simp; omega) (by simp; omega)
  exact ⟨v', W', r1, r2, Below.grown' (hb.alloc hs _) r3 (fun r hr => (h.lt r hr).1)⟩
theorem scans_long (q : Lm) (ao : Option Addr) (len cap : Nat) (x : ByteArray) (a c : Int) (w : World) (hx : ¬ x.size ≤ 16) :
    Calls Try.prog 8 #[q.v, .slice ao len cap, .string x, .int .i64 a, .int .i64 c] w fun e w' => e = .returned (.bool true) ∧ Below w.heap.size w w' := by
  obtain ⟨W1, hW1⟩ : ∃ W1, W1 = w.alloc (.cells #[.int .u64 (q.k : Int), .int .u64 (q.b : Int)] 24) := ⟨_, rfl⟩
  have B1 : Below w.heap.size w W1 := by rw [hW1]; exact Below.new (Below.refl _ _) _
  have HB := Lib.hid B1
  have HW1 := Lib.hid hW1
  have k1 : (16 : Int) < (x.size : Int) := by omega
  clear hW1 B1 hx
  unfold Lm.v
  go_enter Try.func8, Try.ntmps8
  go_upto_region 1 with fail
  rw [← HW1.out]
  go_wp2_with (go_at_call 9; refine (awake_any _).mono ?_; rintro e1 w1 ⟨rfl, hb1⟩; have HB1 := Lib.hid (Below.step HB.out hb1); clear hb1)
  go_ret
  exact ⟨rfl, HB1.out⟩

theorem scans_short (q : Lm) (ao : Option Addr) (len cap : Nat) (x : ByteArray) (a c : Int) (w : World) (hdd : IsDeeds w ao len) (hx : x.size ≤ 16) :
    Calls Try.prog 8 #[q.v, .slice ao len cap, .string x, .int .i64 a, .int .i64 c] w fun e w' => e = .returned (.bool true) ∧ Below w.heap.size w w' := by
  obtain ⟨W1, hW1⟩ : ∃ W1, W1 = w.alloc (.cells #[.int .u64 (q.k : Int), .int .u64 (q.b : Int)] 24) := ⟨_, rfl⟩
  have B1 : Below w.heap.size w W1 := by rw [hW1]; exact Below.new (Below.refl _ _) _
  have f0 : Fresh W1 w.heap.size #[.int .u64 (q.k : Int), .int .u64 (q.b : Int)] 24 := by rw [hW1]; exact Fresh.new _ _ _ _ rfl
  have HF0 := Lib.hid f0
  have HB := Lib.hid B1
  have HDD := Lib.hid hdd
  have HW1 := Lib.hid hW1
  have HXS := Lib.hid hx
  have k16 : ¬ (16 : Int) < (x.size : Int) := by omega
  have hl63 := hdd.1
  obtain ⟨n, hn9, hn⟩ : ∃ n : Nat, n < 9 ∧ a % 9 = (n : Int) := ⟨(a % 9).toNat, by omega, by omega⟩
  obtain ⟨m, hm9, hm⟩ : ∃ m : Nat, m < 9 ∧ c % 9 = (m : Int) := ⟨(c % 9).toNat, by omega, by omega⟩
  have HNM := Lib.hid (And.intro hn hm)
  clear hW1 B1 f0 hdd hn hm hx
  unfold Lm.v
  go_enter Try.func8, Try.ntmps8
  go_upto_region 1 with fail
  rw [← HW1.out]
  go_upto_region 6 with (first
    | (go_at_call 9; refine (awake_any _).mono ?_; rintro e1 w1 ⟨rfl, hb1⟩; have F1 := HF0.out.below hb1; have g0 := F1.cell 0; have g1 := F1.cell 1; simp only [List.getElem?_toArray, List.getElem?_cons_zero, List.getElem?_cons_succ] at g0 g1; have HB1 := Lib.hid (Below.step HB.out hb1); clear hb1 F1)
    | (go_at_call 10; refine (new_here q.k q.b _ _ (Below.refl _ _)).mono ?_; rintro e3 w3 ⟨p, q0, mp, rfl, h3⟩; have H3 := Lib.hid h3; clear h3 g0 g1))
  have HN := Lib.hid HB1.out
  clear HF0 HB HB1 HW1
  go_wp2_with fail
  go_loopw [12] (fun iv wr => ∃ i : Nat, i ≤ len ∧ i ≤ 80 ∧ iv = .int .i64 i ∧ ∃ e l, Here w1 wr p q0 e mp l q.k q.b ∧ l.length ≤ i) (fun iv _ => 80 - (intOf iv).toNat)
  case atStart => exact ⟨0, Nat.zero_le _, by omega, rfl, q0, [], H3.out, Nat.le_refl _⟩
  case round =>
    obtain ⟨i, hi, hi80, rfl, e, l, hH, hl⟩ := hrel
    by_cases hlt : i < len
    · have jl : (i : Int) < (len : Int) := by omega
      have j0 : (0 : Int) ≤ (i : Int) := by omega
      have jd : decide (i < len) = true := decide_eq_true hlt
      by_cases h80 : i < 80
      · have k80 : (i : Int) < 80 := by omega
        have jd8 : decide (i < 80) = true := decide_eq_true h80
        obtain ⟨blk, off, dd, rfl, hbl, d0, d1, d2, d3, d4⟩ := deed_at HDD.out hlt
        have hlow := Below.step HN.out hH.low
        have d0 := (hlow.cell (p := ⟨blk, off + i * 5, none⟩) hbl).trans d0
        have d1 := (hlow.cell (p := ⟨blk, off + i * 5 + 1, none⟩) hbl).trans d1
        have d2 := (hlow.cell (p := ⟨blk, off + i * 5 + 2, none⟩) hbl).trans d2
        have d3 := (hlow.cell (p := ⟨blk, off + i * 5 + 3, none⟩) hbl).trans d3
        have d4 := (hlow.cell (p := ⟨blk, off + i * 5 + 4, none⟩) hbl).trans d4
        have HH := Lib.hid hH
        have HL := Lib.hid hl
        have HBL := Lib.hid hbl
        clear hH hlow hl hbl
        cases hfd : dd.fit
        · have HFD := Lib.hid hfd
          clear hfd
          go_wp2_with (go_at_call 11; refine (fitD_any dd _).mono ?_; rw [HFD.out]; rintro e5 w5 ⟨rfl, hb5⟩; have H5 := Lib.hid (HH.out.below hb5); clear hb5)
          go_roundw
          case rel => exact ⟨i + 1, by omega, by omega, by simp, e, l, H5.out, by have := HL.out; omega⟩
          case measure => simp [intOf]; omega
        · have HFD := Lib.hid hfd
          clear hfd
          go_wp2_with (first
            | (go_at_call 11; refine (fitD_any dd _).mono ?_; rw [HFD.out]; rintro e5 w5 ⟨rfl, hb5⟩; have H5 := Lib.hid (HH.out.below hb5); have d0 := (hb5.cell (p := ⟨blk, off + i * 5, none⟩) (cell_lt d0)).trans d0; have d1 := (hb5.cell (p := ⟨blk, off + i * 5 + 1, none⟩) (cell_lt d1)).trans d1; have d2 := (hb5.cell (p := ⟨blk, off + i * 5 + 2, none⟩) (cell_lt d2)).trans d2; have d3 := (hb5.cell (p := ⟨blk, off + i * 5 + 3, none⟩) (cell_lt d3)).trans d3; have d4 := (hb5.cell (p := ⟨blk, off + i * 5 + 4, none⟩) (cell_lt d4)).trans d4; clear hb5)
            | (go_at_call 22; refine (act_here H5.out (by have := HL.out; omega) dd).mono ?_; rintro e6 w6 ⟨rfl, g6, h6, _⟩; have H6 := Lib.hid h6; clear h6))
          go_roundw
          case rel => exact ⟨i + 1, by omega, by omega, by simp, g6, _, H6.out, by have := HL.out; have := act_len dd l q.k q.b; omega⟩
          case measure => simp [intOf]; omega
      · have k80 : ¬ (i : Int) < 80 := by omega
        have jd8 : decide (i < 80) = false := decide_eq_false h80
        have HH := Lib.hid hH
        have HL : Hid (l.length ≤ 80) := by show _ ≤ _; omega
        clear hH hl
        (go_upto_region 14 with (first
           | (go_at_call 27; refine (pick_any _ 9 (by omega) (by omega) _).mono ?_; (first | rw [HNM.out.1] | rw [HNM.out.2]); rintro e8 w8 ⟨rfl, hw8⟩; replace hw8 := hw8.symm; subst hw8)
           | (go_at_call 21; refine (pairs_here HH.out (by have := HL.out; omega)).mono ?_; rintro e7 w7 ⟨v7, rfl, h7, hb7, hs7, ho7⟩; obtain ⟨a7, c7, rfl, hs7⟩ := hs7; have H7 := Lib.hid h7; have HS7 := Lib.hid hs7; clear hb7 h7 ho7 hs7))
         have HG := Lib.hid H7.out.bk.good
         obtain ⟨A, hA⟩ : ∃ A, atK x (keys l) = A := ⟨_, rfl⟩
         have HA := Lib.hid hA
         have HA1 : Hid (∀ (j : Nat) (k v : ByteArray), j < A → l[j]? = some (k, v) → kl k x = true) := fun j k v h1 h2 => atK_below (keys l) x k j (by rw [hA]; exact h1) (by simp [keys, h2])
         have HA2 : Hid (∀ (j : Nat) (k v : ByteArray), A ≤ j → l[j]? = some (k, v) → kl k x = false) := fun j k v h1 h2 => atK_above (keys l) x k j H7.out.bk.good.1 (by rw [hA]; exact h1) (by simp [keys, h2])
         clear hA
         have n9 : (n : Int) < 9 := by omega
         have m9 : (m : Int) < 9 := by omega
         have n0 : (0 : Int) ≤ (n : Int) := by omega
         have m0 : (0 : Int) ≤ (m : Int) := by omega
         go_wp2_with fail
         go_loopw [15, 17] (fun wv iv wr => ∃ i : Nat, i ≤ l.length ∧ iv = .int .i64 i ∧ Below w7.heap.size w7 wr ∧ OwnW w7 wr wv (wantL l A (n + m) i)) (fun _ iv _ => l.length - (intOf iv).toNat)
         case atStart => exact ⟨0, Nat.zero_le _, rfl, Below.refl _ _, by rw [wantL_zero]; exact ⟨rfl, .inl ⟨rfl, rfl⟩⟩⟩
         case round =>
           obtain ⟨i, hi, rfl, hbw, how⟩ := hrel
           have hlen := wantL_len (A := A) (N := n + m) hi
           obtain ⟨aw, cw, rfl⟩ := row_form how
           obtain ⟨k, hk⟩ : ∃ k, (wantL l A (n + m) i).length = k := ⟨_, rfl⟩
           by_cases hlt : i < l.length
           · obtain ⟨⟨kx, vx⟩, hx⟩ : ∃ t, l[i]? = some t := ⟨_, List.getElem?_eq_getElem hlt⟩
             obtain ⟨b, o, rfl, hb, k1, k2⟩ := HS7.out i _ hx
             replace k1 := (hbw.cell (p := ⟨b, o + i * 2, none⟩) hb).trans k1
             replace k2 := (hbw.cell (p := ⟨b, o + i * 2 + 1, none⟩) hb).trans k2
             dsimp only at k1 k2
             have hk99 : k < 99 := by rw [hk] at hlen; simp only [Nat.min_def] at hlen; split at hlen <;> omega
             have HP := Lib.hid (how.push hbw (kx, vx) (by rw [hk]; omega))
             have HX := Lib.hid (And.intro hx (And.intro hbw how))
             have k80 : (i : Int) < 80 := by have := HL.out; omega
             have jl : (i : Int) < (l.length : Int) := by omega
             have j0 : (0 : Int) ≤ (i : Int) := by omega
             have jd : decide (i < l.length) = true := decide_eq_true hlt
             have HK := Lib.hid hk
             rw [hk] at hlen ⊢
             clear hx hbw hb how hi hk hk99
             rcases Nat.lt_or_ge i A with hiA | hiA
             · have hkl := HA1.out i kx vx hiA HX.out.1
               have u1 : Op.bytesLess kx.toList x.toList = true := by rw [kl_eq]; exact hkl
               have HIA := Lib.hid hiA
               clear hkl hlen hiA
               go_wp2_with fail
               refine ⟨⟨i + 1, by omega, by simp, HX.out.2.1, ?_⟩, by simp [intOf]; omega⟩
               rw [wantL_low HIA.out, ← HK.out]
               exact HX.out.2.2
             · have u1 : Op.bytesLess kx.toList x.toList = false := by rw [kl_eq]; exact HA2.out i kx vx hiA HX.out.1
               by_cases hkN : k < n + m
               · have jk : (k : Int) < (n : Int) + (m : Int) := by omega
                 have jkd : decide (k < n + m) = true := decide_eq_true hkN
                 have HIA : Hid (i - A < n + m) := by show _ < _; simp only [Nat.min_def] at hlen; split at hlen <;> omega
                 have HIB := Lib.hid hiA
                 clear hlen hiA hkN
                 obtain ⟨v', W', r1, r2, r3⟩ := HP.out
                 have HR := Lib.hid (And.intro r2 r3)
                 dsimp only at r1
                 rw [HK.out] at r1
                 clear r2 r3
                 all_goals
                   go_wp2_with (at_builtin; refine Lib.wpList_append_run _ rfl _ _ _ _ rfl _ _ rfl rfl _ _ (r1 _) ?_)
                 all_goals
                   refine ⟨⟨i + 1, by omega, by simp, HR.out.2, ?_⟩, by simp [intOf]; omega⟩
                   rw [wantL_push HX.out.1 HIB.out HIA.out]
                   exact HR.out.1
               · have jk : ¬ (k : Int) < (n : Int) + (m : Int) := by omega
                 have jkd : decide (k < n + m) = false := decide_eq_false hkN
                 have HIA : Hid (n + m ≤ i - A) := by show _ ≤ _; simp only [Nat.min_def] at hlen; split at hlen <;> omega
                 clear hlen hiA hkN
                 all_goals
                   go_wp2_with fail
                 all_goals
                   refine ⟨⟨i + 1, by omega, by simp, HX.out.2.1, ?_⟩, by simp [intOf]; omega⟩
                   rw [wantL_full hlt HIA.out, ← HK.out]
                   exact HX.out.2.2
           · obtain rfl : i = l.length := by omega
             rw [hk] at how hlen ⊢
             rw [wantL_end] at how hk
             obtain ⟨L1, hL1⟩ : ∃ L1, (l.drop A).take (n + m) = L1 := ⟨_, rfl⟩
             obtain ⟨L2, hL2⟩ : ∃ L2, (l.drop A).take n = L2 := ⟨_, rfl⟩
             rw [hL1] at how hk
             have HLL := Lib.hid (And.intro hL1 (And.intro hL2 hk))
             have HW := Lib.hid (And.intro hbw how)
             have HSC1 : Hid (scanB x ((n : Int) + (m : Int)) l = (L1, 0)) := by
               show _ = _
               rw [← hL1, ← HA.out, ← Int.natCast_add]
               exact scanB_ok HXS.out (by omega)
             have HSC2 : Hid (scanB x (n : Int) l = (L2, 0)) := by
               show _ = _
               rw [← hL2, ← HA.out]
               exact scanB_ok HXS.out (by omega)
             have jl : ¬ (l.length : Int) < (l.length : Int) := by omega
             have hk20 : k < 20 := by simp only [Nat.min_def] at hlen; split at hlen <;> omega
             have hL2n : L2.length ≤ n := by rw [← hL2]; simp only [List.length_take]; exact Nat.min_le_left _ _
             have hkcw : k ≤ cw := by
               rcases how.2 with ⟨h1, _⟩ | ⟨_, _, _, h1, _, _, h2, _⟩
               · simp only [Value.slice.injEq] at h1; omega
               · simp only [Value.slice.injEq] at h1; omega
             clear hbw how hk hL1 hL2 hlen hi hlt
             go_upto_region 21 with (first
               | (go_at_call 14; refine (scan_any (H7.out.below HW.out.1).bk (by have := HL.out; omega) x _).mono ?_; rw [HSC1.out]; rintro e8 w8 ⟨v8, rfl, hb8, ho8⟩; obtain ⟨a8, c8, rfl⟩ := row_form ho8; have H8 := Lib.hid (And.intro (Below.step HW.out.1 hb8) (And.intro ho8 hb8)); clear hb8 ho8)
               | (go_at_call 14; refine (scan_any (H7.out.below H8.out.1).bk (by have := HL.out; omega) x _).mono ?_; rw [HSC2.out]; rintro e9 w9 ⟨v9, rfl, hb9, ho9⟩; obtain ⟨a9, c9, rfl⟩ := row_form ho9; have H9 := Lib.hid (And.intro (Below.step H8.out.1 hb9) (And.intro ho9 hb9)); clear hb9 ho9))
             have HCUT : Hid (L1.take (Nat.min n k) = L2) := by
               show _ = _
               obtain ⟨h1, h2, h3⟩ := HLL.out
               rw [← h1, List.take_take, ← h2]
               rcases Nat.lt_or_ge k n with h | h
               · have : (l.drop A).length = k := by
                   rw [← h1, List.length_take] at h3
                   simp only [Nat.min_def] at h3
                   split at h3 <;> omega
                 rw [List.take_of_length_le (by simp only [Nat.min_def]; repeat' split
                                                all_goals omega), List.take_of_length_le (by omega)]
               · congr 1
                 simp only [Nat.min_def]
                 repeat' split
                 all_goals omega
             have HOW : Hid (Holds w9 (.slice aw k cw) L1) := Holds.below (Holds.below (Holds.of_own (by have := HW.out.2; unfold OwnW at this; rw [HLL.out.2.2] at this; rw [HLL.out.2.2]; exact this)) H8.out.2.2) H9.out.2.2
             have HO8 : Hid (Holds w9 (.slice a8 L1.length c8) L1) := (Holds.of_own H8.out.2.1).below H9.out.2.2
             have HO9 : Hid (Holds w9 (.slice a9 L2.length c9) L2) := Holds.of_own H9.out.2.1
             have hkc : (k : Int) ≤ (cw : Int) := by omega
             have HL1 : Hid (L1.length < 100) := by show _ < _; rw [HLL.out.2.2]; omega
             have k0 : (0 : Int) ≤ (k : Int) := by omega
             clear jl
             obtain ⟨r, hr⟩ : ∃ r, Nat.min n k = r := ⟨_, rfl⟩
             have hrk : r ≤ k := by rw [← hr]; exact Nat.min_le_right _ _
             have HCT : Hid (Holds w9 (.slice aw r cw) L2) := by
               have h := HOW.out.take hrk
               have h2 := HCUT.out
               rw [hr] at h2
               rw [h2] at h
               exact h
             have jmin : min (n : Int) (k : Int) = (r : Int) := by
               rw [← hr]
               simp only [Nat.min_def, Int.min_def]
               split <;> split <;> omega
             have jn : (r : Int) ≤ (cw : Int) := by omega
             have jnn : r ≤ cw := by omega
             clear hr hrk
             go_upto_region 23 with (first
               | (go_at_call 16; with_reducible refine (same_any HO8.out HOW.out (by have := HL1.out; omega) (by have := HL1.out; omega)).mono ?_; rw [show sameP L1 L1 = true from by simp [sameP]]; rintro e10 w10 ⟨rfl, hb10⟩; have H10 := Lib.hid hb10; clear hb10)
               | (go_at_call 16; with_reducible refine (same_any (HO9.out.below H10.out) (HCT.out.below H10.out) (by omega) (by omega)).mono ?_; rw [show sameP L2 L2 = true from by simp [sameP]]; rintro e11 w11 ⟨rfl, hb11⟩; have H11 := Lib.hid (Below.step H10.out hb11); clear hb11))
             have HOY : Hid (Holds w11 (.slice a9 L2.length c9) L2) := HO9.out.below H11.out
             rcases Nat.eq_zero_or_pos L2.length with hz | hz
             · have jz : (L2.length : Int) = 0 := by omega
               have HB11 := Lib.hid (Below.step HN.out (Below.step H7.out.low (Below.step H9.out.1 H11.out)))
               go_wp2_with fail
               go_ret
               exact ⟨rfl, HB11.out⟩
             · obtain ⟨j, hj⟩ : ∃ j, L2.length = j + 1 := ⟨L2.length - 1, by omega⟩
               obtain ⟨⟨kz, vz⟩, hkz⟩ : ∃ t, L2[j]? = some t := ⟨_, List.getElem?_eq_getElem (by omega)⟩
               obtain ⟨b, o, rfl, hb, k1, _⟩ : ∃ b o, a9 = some ⟨b, o, none⟩ ∧ b < w11.heap.size ∧ w11.cell? ⟨b, o + j * 2, none⟩ = some (.string kz) ∧ True := by
                 obtain ⟨a', c', e', h'⟩ := HOY.out
                 cases e'
                 obtain ⟨b, o, e1, e2, e3, _⟩ := h' j _ hkz
                 exact ⟨b, o, e1, e2, e3, trivial⟩
               have jz : ¬ L2 = [] := by rintro rfl; simp at hz
               have j1 : (L2.length : Int) - 1 = (j : Int) := by omega
               have j2 : (0 : Int) ≤ (j : Int) := by omega
               have j3 : (j : Int) < (L2.length : Int) := by omega
               have j4 : (L2.length : Int) < 100 := by omega
               have HJ := Lib.hid (And.intro hj (And.intro hkz hb))
               have HKZ : Hid (kz.size ≤ 16) := by
                 show _ ≤ _
                 have hm : (kz, vz) ∈ L2 := List.mem_of_getElem? hkz
                 rw [← HLL.out.2.1] at hm
                 exact (HG.out.2 _ (List.mem_of_mem_drop (List.mem_of_mem_take hm))).1
               clear hj hkz hb hz
               by_cases hs16 : kz.size = 16
               · have js : (kz.size : Int) = 16 := by omega
                 have HB11 := Lib.hid (Below.step HN.out (Below.step H7.out.low (Below.step H9.out.1 H11.out)))
                 have jb : decide (kz.size = 16) = true := decide_eq_true hs16
                 go_wp2_with fail
                 go_ret
                 exact ⟨rfl, HB11.out⟩
               · have js : ¬ (kz.size : Int) = 16 := by omega
                 obtain ⟨L3, hL3⟩ : ∃ L3, (l.drop (A + L2.length)).take m = L3 := ⟨_, rfl⟩
                 have HL3 := Lib.hid hL3
                 have HSC3 : Hid (scanB (kz ++ ⟨#[0]⟩) (m : Int) l = (L3, 0)) := by
                   show _ = _
                   have h1 : atK (kz ++ ⟨#[0]⟩) (keys l) = A + L2.length := by
                     have h2 := HLL.out.2.1
                     have h := scan_next (l := l) HG.out.1 (A := A) (n := n) (k := kz) (v := vz) (by rw [h2, HJ.out.1, Nat.add_sub_cancel]; exact HJ.out.2.1) (by rw [h2, HJ.out.1]; omega)
                     rw [h2] at h
                     exact h
                   rw [scanB_ok (by rw [append_size]; show _ + 1 ≤ 16; have := HKZ.out; omega) (by omega), h1, hL3]
                 have jb : ((kz.size : Int) == 16) = false := beq_eq_false_iff_ne.2 js
                 have jb2 : ((L2.length : Int) == 0) = false := beq_eq_false_iff_ne.2 (by omega)
                 have jb3 : ¬ 9223372036854775807 < kz.size + 1 := by have := HKZ.out; omega
                 clear hL3
                 go_upto_region 26 with (first
                   | (go_at_call 14; refine (scan_any (H7.out.below (Below.step H9.out.1 H11.out)).bk (by have := HL.out; omega) _ _).mono ?_; rw [HSC3.out]; rintro e12 w12 ⟨v12, rfl, hb12, ho12⟩; obtain ⟨a12, c12, rfl⟩ := row_form ho12; have H12 := Lib.hid (And.intro ho12 hb12); clear hb12 ho12))
                 obtain ⟨W13, hW13⟩ : ∃ W13, W13 = (w12.alloc (.cells #[] 49)).drew := ⟨_, rfl⟩
                 have b13 : Below w12.heap.size w12 W13 := by rw [hW13]; exact (Below.new (Below.refl _ _) _).drew
                 have e13 : W13.ownsRow w12.heap.size 49 2 (.slice (some ⟨w12.heap.size, 0, none⟩) 0 0) ([] : List Pr).length (flatP []) := by
                   rw [hW13]
                   exact row_keep (W := w12.alloc (.cells #[] 49)) (World.ownsRow_lit w12 #[] 0 (Nat.le_refl _) (by unfold maxLen; omega) rfl) (fun k _ => rfl)
                 have y13 : W13.ownsRow w8.heap.size 49 2 (.slice (some ⟨b, o, none⟩) L2.length c9) L2.length (flatP L2) := row_keep H9.out.2.1 fun k hk => ((H11.out.trans (H12.out.2.mono H11.out.size)).trans (b13.mono (Nat.le_trans H11.out.size H12.out.2.size))).block k (H9.out.2.1.lt k hk).2
                 obtain ⟨v14, W14, r14, o14, g14⟩ := app_pairs e13 y13 b13.size (by simp; omega)
                 have b14 : Below w12.heap.size w12 W14 := Below.grown' b13 g14 (fun r hr => (e13.lt r hr).1)
                 have z14 : W14.ownsRow w11.heap.size 49 2 (.slice a12 L3.length c12) L3.length (flatP L3) := row_keep H12.out.1 fun k hk => b14.block k (H12.out.1.lt k hk).2
                 have hL3m : L3.length ≤ m := by rw [← HL3.out]; simp only [List.length_take]; exact Nat.min_le_left _ _
                 obtain ⟨v15, W15, r15, o15, g15⟩ := app_pairs o14 z14 b14.size (by simp; omega)
                 have b15 : Below w12.heap.size w12 W15 := Below.grown' b14 g15 (fun r hr => (o14.lt r hr).1)
                 obtain ⟨a14, c14, rfl⟩ := row_form o14
                 obtain ⟨a15, c15, rfl⟩ := row_form o15
                 obtain ⟨r2, hr2⟩ : ∃ r2, Nat.min L1.length (L2.length + m) = r2 := ⟨_, rfl⟩
                 have hr2l : r2 ≤ L1.length := by rw [← hr2]; exact Nat.min_le_left _ _
                 have hjoin : L2 ++ L3 = L1.take r2 := by
                   rw [← hr2, ← HL3.out, ← HLL.out.2.1, scans_join, HLL.out.1]
                   rcases Nat.le_total L1.length (((l.drop A).take n).length + m) with h | h
                   · rw [show Nat.min L1.length (((l.drop A).take n).length + m) = L1.length from Nat.min_eq_left h, List.take_of_length_le h, List.take_length]
                   · rw [show Nat.min L1.length (((l.drop A).take n).length + m) = ((l.drop A).take n).length + m from Nat.min_eq_right h]
                 have HS1 := Lib.hid (Holds.of_own o15)
                 have HS2 : Hid (Holds W15 (.slice a8 r2 c8) (L2 ++ L3)) := by
                   show Holds _ _ _
                   rw [hjoin]
                   exact (((HO8.out.below H11.out).below H12.out.2).below b15).take hr2l
                 have jmin2 : min (L1.length : Int) ((L2.length : Int) + (m : Int)) = (r2 : Int) := by
                   rw [← hr2]
                   simp only [Nat.min_def, Int.min_def]
                   split <;> split <;> omega
                 have hc8 := row_cap H8.out.2.1
                 have ja : (r2 : Int) ≤ (c8 : Int) := by omega
                 have jb4 : r2 ≤ c8 := by omega
                 have j100 : (L1.length : Int) < 100 := by have := HL1.out; omega
                 have HLN : Hid ((L2 ++ L3).length < 1000) := by show _ < _; simp; omega
                 have HB15 := Lib.hid (Below.step HN.out (Below.step H7.out.low (Below.step H9.out.1 (Below.step H11.out (Below.step H12.out.2 b15)))))
                 have HE13 := Lib.hid hW13
                 simp only [List.nil_append, List.length_append] at o14 r14 r15 HS1
                 have jw : IntKind.i64.wrap ((L2.length : Int) + (m : Int)) = (L2.length : Int) + (m : Int) := by rw [IntKind.wrap_i64]; omega
                 clear b13 e13 y13 o14 g14 b14 z14 o15 g15 b15 hr2 hr2l hjoin hc8 hW13 hL3m
                 refine wp_region_held_drew (S := fun _ => True) (by kernel_rfl) ?_ (fun hHeld => ?_)
                 · (try dsimp only)
                   all_goals trivial
                 refine wpAnyH_take (i := 0) (oi := ?_) (v := ?_) ?_ (by kernel_rfl) (by kernel_rfl) (by kernel_rfl) ?_ (Or.inl ⟨?_, ?_⟩) (by assumption) ?_
                 rotate_left 2
                 · simp only [List.getElem?_toArray, List.getElem?_cons_succ, List.getElem?_cons_zero] <;> rfl
                 · exact fun _ _ _ h => h
                 · rfl
                 · (intro w hSw; (try dsimp only at hSw); go_simp; try (with_reducible rfl))
                 try simp only [Act.put, List.setIfInBounds_toArray, List.set_cons_zero, List.set_cons_succ]
                 refine wpAnyH_take (i := 1) (oi := ?_) (v := ?_) ?_ (by kernel_rfl) (by kernel_rfl) (by kernel_rfl) ?_ (Or.inl ⟨?_, ?_⟩) (by assumption) ?_
                 rotate_left 2
                 · simp only [List.getElem?_toArray, List.getElem?_cons_succ, List.getElem?_cons_zero] <;> rfl
                 · exact fun _ _ _ h => h
                 · rfl
                 · (intro w hSw; (try dsimp only at hSw); go_simp; try (with_reducible rfl))
                 try simp only [Act.put, List.setIfInBounds_toArray, List.set_cons_zero, List.set_cons_succ]
                 refine wpAnyH_take (i := 2) (oi := ?_) (v := ?_) ?_ (by kernel_rfl) (by kernel_rfl) (by kernel_rfl) ?_ (Or.inl ⟨?_, ?_⟩) (by assumption) ?_
                 rotate_left 2
                 · simp only [List.getElem?_toArray, List.getElem?_cons_succ, List.getElem?_cons_zero] <;> rfl
                 · exact fun _ _ _ h => h
                 · rfl
                 · (intro w hSw; (try dsimp only at hSw); go_simp; try (with_reducible rfl))
                 try simp only [Act.put, List.setIfInBounds_toArray, List.set_cons_zero, List.set_cons_succ]
                 refine wpAnyH_take (i := 4) (oi := ?_) (v := ?_) ?_ (by kernel_rfl) (by kernel_rfl) (by kernel_rfl) ?_ (Or.inl ⟨?_, ?_⟩) (by assumption) ?_
                 rotate_left 2
                 · simp only [List.getElem?_toArray, List.getElem?_cons_succ, List.getElem?_cons_zero] <;> rfl
                 · exact fun _ _ _ h => h
                 · rfl
                 · (intro w hSw; (try dsimp only at hSw); go_simp; try (with_reducible rfl))
                 try simp only [Act.put, List.setIfInBounds_toArray, List.set_cons_zero, List.set_cons_succ]
                 refine wpAnyH_take (i := 6) (oi := ?_) (v := ?_) ?_ (by kernel_rfl) (by kernel_rfl) (by kernel_rfl) ?_ (Or.inl ⟨?_, ?_⟩) (by assumption) ?_
                 rotate_left 2
                 · simp only [List.getElem?_toArray, List.getElem?_cons_succ, List.getElem?_cons_zero] <;> rfl
                 · exact fun _ _ _ h => h
                 · rfl
                 · (intro w hSw; (try dsimp only at hSw); go_simp; try (with_reducible rfl))
                 try simp only [Act.put, List.setIfInBounds_toArray, List.set_cons_zero, List.set_cons_succ]
                 refine wpAnyH_take (i := 8) (oi := ?_) (v := ?_) ?_ (by kernel_rfl) (by kernel_rfl) (by kernel_rfl) ?_ (Or.inl ⟨?_, ?_⟩) (by assumption) ?_
                 rotate_left 2
                 · simp only [List.getElem?_toArray, List.getElem?_cons_succ, List.getElem?_cons_zero] <;> rfl
                 · exact fun _ _ _ h => h
                 · rfl
                 · (intro w hSw; (try dsimp only at hSw); go_simp; try (with_reducible rfl))
                 try simp only [Act.put, List.setIfInBounds_toArray, List.set_cons_zero, List.set_cons_succ]
                 refine wpAnyH_take (i := 9) (oi := ?_) (v := ?_) ?_ (by kernel_rfl) (by kernel_rfl) (by kernel_rfl) ?_ (Or.inl ⟨?_, ?_⟩) (by assumption) ?_
                 rotate_left 2
                 · simp only [List.getElem?_toArray, List.getElem?_cons_succ, List.getElem?_cons_zero] <;> rfl
                 · exact fun _ _ _ h => h
                 · rfl
                 · (intro w hSw; (try dsimp only at hSw); go_simp; try (with_reducible rfl))
                 try simp only [Act.put, List.setIfInBounds_toArray, List.set_cons_zero, List.set_cons_succ]
                 refine wpAnyH_take (i := 10) (oi := ?_) (v := ?_) ?_ (by kernel_rfl) (by kernel_rfl) (by kernel_rfl) ?_ (Or.inl ⟨?_, ?_⟩) (by assumption) ?_
                 rotate_left 2
                 · simp only [List.getElem?_toArray, List.getElem?_cons_succ, List.getElem?_cons_zero] <;> rfl
                 · exact fun _ _ _ h => h
                 · rfl
                 · (intro w hSw; (try dsimp only at hSw); go_simp; try (with_reducible rfl))
                 try simp only [Act.put, List.setIfInBounds_toArray, List.set_cons_zero, List.set_cons_succ]
                 refine wpAnyH_take (i := 11) (oi := ?_) (v := ?_) ?_ (by kernel_rfl) (by kernel_rfl) (by kernel_rfl) ?_ (Or.inl ⟨?_, ?_⟩) (by assumption) ?_
                 rotate_left 2
                 · simp only [List.getElem?_toArray, List.getElem?_cons_succ, List.getElem?_cons_zero] <;> rfl
                 · exact fun _ _ _ h => h
                 · rfl
                 · (intro w hSw; (try dsimp only at hSw); go_simp; try (with_reducible rfl))
                 try simp only [Act.put, List.setIfInBounds_toArray, List.set_cons_zero, List.set_cons_succ]
                 refine wpAnyH_take (i := 12) (oi := ?_) (v := ?_) ?_ (by kernel_rfl) (by kernel_rfl) (by kernel_rfl) ?_ (Or.inl ⟨?_, ?_⟩) (by assumption) ?_
                 rotate_left 2
                 · simp only [List.getElem?_toArray, List.getElem?_cons_succ, List.getElem?_cons_zero] <;> rfl
                 · exact fun _ _ _ h => h
                 · rfl
                 · (intro w hSw; (try dsimp only at hSw); go_simp; try (with_reducible rfl))
                 try simp only [Act.put, List.setIfInBounds_toArray, List.set_cons_zero, List.set_cons_succ]
                 refine wpAnyH_take (i := 13) (oi := ?_) (v := ?_) ?_ (by kernel_rfl) (by kernel_rfl) (by kernel_rfl) ?_ (Or.inl ⟨?_, ?_⟩) (by assumption) ?_
                 rotate_left 2
                 · simp only [List.getElem?_toArray, List.getElem?_cons_succ, List.getElem?_cons_zero] <;> rfl
                 · exact fun _ _ _ h => h
                 · rfl
                 · (intro w hSw; (try dsimp only at hSw); go_simp; try (with_reducible rfl))
                 try simp only [Act.put, List.setIfInBounds_toArray, List.set_cons_zero, List.set_cons_succ]
                 refine wpAnyH_take (i := 14) (oi := ?_) (v := ?_) ?_ (by kernel_rfl) (by kernel_rfl) (by kernel_rfl) ?_ (Or.inl ⟨?_, ?_⟩) (by assumption) ?_
                 rotate_left 2
                 · simp only [List.getElem?_toArray, List.getElem?_cons_succ, List.getElem?_cons_zero] <;> rfl
                 · exact fun _ _ _ h => h
                 · rfl
                 · (intro w hSw; (try dsimp only at hSw); go_simp; try (with_reducible rfl))
                 try simp only [Act.put, List.setIfInBounds_toArray, List.set_cons_zero, List.set_cons_succ]
                 refine wpAnyH_take (i := 15) (oi := ?_) (v := ?_) ?_ (by kernel_rfl) (by kernel_rfl) (by kernel_rfl) ?_ (Or.inl ⟨?_, ?_⟩) (by assumption) ?_
                 rotate_left 2
                 · simp only [List.getElem?_toArray, List.getElem?_cons_succ, List.getElem?_cons_zero] <;> rfl
                 · exact fun _ _ _ h => h
                 · rfl
                 · (intro w hSw; (try dsimp only at hSw); go_simp; try (with_reducible rfl))
                 try simp only [Act.put, List.setIfInBounds_toArray, List.set_cons_zero, List.set_cons_succ]
                 refine wpAnyH_take (i := 16) (oi := ?_) (v := ?_) ?_ (by kernel_rfl) (by kernel_rfl) (by kernel_rfl) ?_ (Or.inl ⟨?_, ?_⟩) (by assumption) ?_
                 rotate_left 2
                 · simp only [List.getElem?_toArray, List.getElem?_cons_succ, List.getElem?_cons_zero] <;> rfl
                 · exact fun _ _ _ h => h
                 · rfl
                 · (intro w hSw; (try dsimp only at hSw); go_simp; try (with_reducible rfl))
                 try simp only [Act.put, List.setIfInBounds_toArray, List.set_cons_zero, List.set_cons_succ]
                 refine wpAnyH_ready (rs := [3]) (by kernel_rfl) (by simp) ?_
                 refine AllReadyH.cons (o := _) (by simp only [List.getElem?_toArray, List.getElem?_cons_succ, List.getElem?_cons_zero] <;> rfl) (fun K hK => ?_) ?_
                 · go_simp
                   refine hK.out _ _ ?_ (fun hHeld => ?_)
                   · (try dsimp only)
                     all_goals trivial
                   clear hK K
                   try simp only [Act.put, List.setIfInBounds_toArray, List.set_cons_zero, List.set_cons_succ]
                   refine wpAnyH_ready (rs := [5]) (by kernel_rfl) (by simp) ?_
                   refine AllReadyH.cons (o := _) (by simp only [List.getElem?_toArray, List.getElem?_cons_succ, List.getElem?_cons_zero] <;> rfl) (fun K hK => ?_) ?_
                   · rw [← HE13.out]
                     refine step_app_run (by rfl) _ _ 29 29 (by rfl) _ _ (by rfl) (by rfl) r14 ?_
                     refine hK.out _ _ ?_ (fun hHeld => ?_)
                     · (try dsimp only)
                       all_goals trivial
                     clear hK K
                     try simp only [Act.put, List.setIfInBounds_toArray, List.set_cons_zero, List.set_cons_succ]
                     refine wpAnyH_ready (rs := [7]) (by kernel_rfl) (by simp) ?_
                     refine AllReadyH.cons (o := _) (by simp only [List.getElem?_toArray, List.getElem?_cons_succ, List.getElem?_cons_zero] <;> rfl) (fun K hK => ?_) ?_
                     · skip
                       refine step_app_run (by rfl) _ _ 29 29 (by rfl) _ _ (by rfl) (by rfl) r15 ?_
                       refine hK.out _ _ ?_ (fun hHeld => ?_)
                       · (try dsimp only)
                         all_goals trivial
                       clear hK K
                       try simp only [Act.put, List.setIfInBounds_toArray, List.set_cons_zero, List.set_cons_succ]
                       refine wpAnyH_ready (rs := [17]) (by kernel_rfl) (by simp) ?_
                       refine AllReadyH.cons (o := _) (by simp only [List.getElem?_toArray, List.getElem?_cons_succ, List.getElem?_cons_zero] <;> rfl) (fun K hK => ?_) ?_
                       · go_simp
                         with_reducible refine (same_any HS1.out HS2.out (by have := HLN.out; omega) (by have := HLN.out; omega)).mono ?_
                         rw [show sameP (L2 ++ L3) (L2 ++ L3) = true from by simp [sameP]]
                         rintro e16 w16 ⟨rfl, hb16⟩
                         have H16 := Lib.hid hb16
                         clear hb16
                         go_wp2_with fail
                         refine hK.out _ _ ?_ (fun hHeld => ?_)
                         · (try dsimp only)
                           all_goals trivial
                         clear hK K
                         try simp only [Act.put, List.setIfInBounds_toArray, List.set_cons_zero, List.set_cons_succ]
                         refine wpAnyH_take (i := 18) (oi := ?_) (v := ?_) ?_ (by kernel_rfl) (by kernel_rfl) (by kernel_rfl) ?_ (Or.inl ⟨?_, ?_⟩) (by assumption) ?_
                         rotate_left 2
                         · simp only [List.getElem?_toArray, List.getElem?_cons_succ, List.getElem?_cons_zero] <;> rfl
                         · exact fun _ _ _ h => h
                         · rfl
                         · (intro w hSw; (try dsimp only at hSw); go_simp; try (with_reducible rfl))
                         try simp only [Act.put, List.setIfInBounds_toArray, List.set_cons_zero, List.set_cons_succ]
                         refine wpAnyH_take (i := 19) (oi := ?_) (v := ?_) ?_ (by kernel_rfl) (by kernel_rfl) (by kernel_rfl) ?_ (Or.inl ⟨?_, ?_⟩) (by assumption) ?_
                         rotate_left 2
                         · simp only [List.getElem?_toArray, List.getElem?_cons_succ, List.getElem?_cons_zero] <;> rfl
                         · exact fun _ _ _ h => h
                         · rfl
                         · (intro w hSw; (try dsimp only at hSw); go_simp; try (with_reducible rfl))
                         try simp only [Act.put, List.setIfInBounds_toArray, List.set_cons_zero, List.set_cons_succ]
                         refine wpAnyH_done (by kernel_rfl) ?_ _
                         go_wp2_with fail
                         go_ret
                         exact ⟨rfl, Below.step HB15.out H16.out⟩
                       exact AllReadyH.nil
                     exact AllReadyH.nil
                   exact AllReadyH.nil
                 exact AllReadyH.nil)
    · have jl : ¬ (i : Int) < (len : Int) := by omega
      have jd : decide (i < len) = false := decide_eq_false hlt
      have HH := Lib.hid hH
      have HL : Hid (l.length ≤ 80) := by show _ ≤ _; omega
      clear hH hl
      (go_upto_region 14 with (first
         | (go_at_call 27; refine (pick_any _ 9 (by omega) (by omega) _).mono ?_; (first | rw [HNM.out.1] | rw [HNM.out.2]); rintro e8 w8 ⟨rfl, hw8⟩; replace hw8 := hw8.symm; subst hw8)
         | (go_at_call 21; refine (pairs_here HH.out (by have := HL.out; omega)).mono ?_; rintro e7 w7 ⟨v7, rfl, h7, hb7, hs7, ho7⟩; obtain ⟨a7, c7, rfl, hs7⟩ := hs7; have H7 := Lib.hid h7; have HS7 := Lib.hid hs7; clear hb7 h7 ho7 hs7))
       have HG := Lib.hid H7.out.bk.good
       obtain ⟨A, hA⟩ : ∃ A, atK x (keys l) = A := ⟨_, rfl⟩
       have HA := Lib.hid hA
       have HA1 : Hid (∀ (j : Nat) (k v : ByteArray), j < A → l[j]? = some (k, v) → kl k x = true) := fun j k v h1 h2 => atK_below (keys l) x k j (by rw [hA]; exact h1) (by simp [keys, h2])
       have HA2 : Hid (∀ (j : Nat) (k v : ByteArray), A ≤ j → l[j]? = some (k, v) → kl k x = false) := fun j k v h1 h2 => atK_above (keys l) x k j H7.out.bk.good.1 (by rw [hA]; exact h1) (by simp [keys, h2])
       clear hA
       have n9 : (n : Int) < 9 := by omega
       have m9 : (m : Int) < 9 := by omega
       have n0 : (0 : Int) ≤ (n : Int) := by omega
       have m0 : (0 : Int) ≤ (m : Int) := by omega
       go_wp2_with fail
       go_loopw [15, 17] (fun wv iv wr => ∃ i : Nat, i ≤ l.length ∧ iv = .int .i64 i ∧ Below w7.heap.size w7 wr ∧ OwnW w7 wr wv (wantL l A (n + m) i)) (fun _ iv _ => l.length - (intOf iv).toNat)
       case atStart => exact ⟨0, Nat.zero_le _, rfl, Below.refl _ _, by rw [wantL_zero]; exact ⟨rfl, .inl ⟨rfl, rfl⟩⟩⟩
       case round =>
         obtain ⟨i, hi, rfl, hbw, how⟩ := hrel
         have hlen := wantL_len (A := A) (N := n + m) hi
         obtain ⟨aw, cw, rfl⟩ := row_form how
         obtain ⟨k, hk⟩ : ∃ k, (wantL l A (n + m) i).length = k := ⟨_, rfl⟩
         by_cases hlt : i < l.length
         · obtain ⟨⟨kx, vx⟩, hx⟩ : ∃ t, l[i]? = some t := ⟨_, List.getElem?_eq_getElem hlt⟩
           obtain ⟨b, o, rfl, hb, k1, k2⟩ := HS7.out i _ hx
           replace k1 := (hbw.cell (p := ⟨b, o + i * 2, none⟩) hb).trans k1
           replace k2 := (hbw.cell (p := ⟨b, o + i * 2 + 1, none⟩) hb).trans k2
           dsimp only at k1 k2
           have hk99 : k < 99 := by rw [hk] at hlen; simp only [Nat.min_def] at hlen; split at hlen <;> omega
           have HP := Lib.hid (how.push hbw (kx, vx) (by rw [hk]; omega))
           have HX := Lib.hid (And.intro hx (And.intro hbw how))
           have k80 : (i : Int) < 80 := by have := HL.out; omega
           have jl : (i : Int) < (l.length : Int) := by omega
           have j0 : (0 : Int) ≤ (i : Int) := by omega
           have jd : decide (i < l.length) = true := decide_eq_true hlt
           have HK := Lib.hid hk
           rw [hk] at hlen ⊢
           clear hx hbw hb how hi hk hk99
           rcases Nat.lt_or_ge i A with hiA | hiA
           · have hkl := HA1.out i kx vx hiA HX.out.1
             have u1 : Op.bytesLess kx.toList x.toList = true := by rw [kl_eq]; exact hkl
             have HIA := Lib.hid hiA
             clear hkl hlen hiA
             go_wp2_with fail
             refine ⟨⟨i + 1, by omega, by simp, HX.out.2.1, ?_⟩, by simp [intOf]; omega⟩
             rw [wantL_low HIA.out, ← HK.out]
             exact HX.out.2.2
           · have u1 : Op.bytesLess kx.toList x.toList = false := by rw [kl_eq]; exact HA2.out i kx vx hiA HX.out.1
             by_cases hkN : k < n + m
             · have jk : (k : Int) < (n : Int) + (m : Int) := by omega
               have jkd : decide (k < n + m) = true := decide_eq_true hkN
               have HIA : Hid (i - A < n + m) := by show _ < _; simp only [Nat.min_def] at hlen; split at hlen <;> omega
               have HIB := Lib.hid hiA
               clear hlen hiA hkN
               obtain ⟨v', W', r1, r2, r3⟩ := HP.out
               have HR := Lib.hid (And.intro r2 r3)
               dsimp only at r1
               rw [HK.out] at r1
               clear r2 r3
               all_goals
                 go_wp2_with (at_builtin; refine Lib.wpList_append_run _ rfl _ _ _ _ rfl _ _ rfl rfl _ _ (r1 _) ?_)
               all_goals
                 refine ⟨⟨i + 1, by omega, by simp, HR.out.2, ?_⟩, by simp [intOf]; omega⟩
                 rw [wantL_push HX.out.1 HIB.out HIA.out]
                 exact HR.out.1
             · have jk : ¬ (k : Int) < (n : Int) + (m : Int) := by omega
               have jkd : decide (k < n + m) = false := decide_eq_false hkN
               have HIA : Hid (n + m ≤ i - A) := by show _ ≤ _; simp only [Nat.min_def] at hlen; split at hlen <;> omega
               clear hlen hiA hkN
               all_goals
                 go_wp2_with fail
               all_goals
                 refine ⟨⟨i + 1, by omega, by simp, HX.out.2.1, ?_⟩, by simp [intOf]; omega⟩
                 rw [wantL_full hlt HIA.out, ← HK.out]
                 exact HX.out.2.2
         · obtain rfl : i = l.length := by omega
           rw [hk] at how hlen ⊢
           rw [wantL_end] at how hk
           obtain ⟨L1, hL1⟩ : ∃ L1, (l.drop A).take (n + m) = L1 := ⟨_, rfl⟩
           obtain ⟨L2, hL2⟩ : ∃ L2, (l.drop A).take n = L2 := ⟨_, rfl⟩
           rw [hL1] at how hk
           have HLL := Lib.hid (And.intro hL1 (And.intro hL2 hk))
           have HW := Lib.hid (And.intro hbw how)
           have HSC1 : Hid (scanB x ((n : Int) + (m : Int)) l = (L1, 0)) := by
             show _ = _
             rw [← hL1, ← HA.out, ← Int.natCast_add]
             exact scanB_ok HXS.out (by omega)
           have HSC2 : Hid (scanB x (n : Int) l = (L2, 0)) := by
             show _ = _
             rw [← hL2, ← HA.out]
             exact scanB_ok HXS.out (by omega)
           have jl : ¬ (l.length : Int) < (l.length : Int) := by omega
           have hk20 : k < 20 := by simp only [Nat.min_def] at hlen; split at hlen <;> omega
           have hL2n : L2.length ≤ n := by rw [← hL2]; simp only [List.length_take]; exact Nat.min_le_left _ _
           have hkcw : k ≤ cw := by
             rcases how.2 with ⟨h1, _⟩ | ⟨_, _, _, h1, _, _, h2, _⟩
             · simp only [Value.slice.injEq] at h1; omega
             · simp only [Value.slice.injEq] at h1; omega
           clear hbw how hk hL1 hL2 hlen hi hlt
           go_upto_region 21 with (first
             | (go_at_call 14; refine (scan_any (H7.out.below HW.out.1).bk (by have := HL.out; omega) x _).mono ?_; rw [HSC1.out]; rintro e8 w8 ⟨v8, rfl, hb8, ho8⟩; obtain ⟨a8, c8, rfl⟩ := row_form ho8; have H8 := Lib.hid (And.intro (Below.step HW.out.1 hb8) (And.intro ho8 hb8)); clear hb8 ho8)
             | (go_at_call 14; refine (scan_any (H7.out.below H8.out.1).bk (by have := HL.out; omega) x _).mono ?_; rw [HSC2.out]; rintro e9 w9 ⟨v9, rfl, hb9, ho9⟩; obtain ⟨a9, c9, rfl⟩ := row_form ho9; have H9 := Lib.hid (And.intro (Below.step H8.out.1 hb9) (And.intro ho9 hb9)); clear hb9 ho9))
           have HCUT : Hid (L1.take (Nat.min n k) = L2) := by
             show _ = _
             obtain ⟨h1, h2, h3⟩ := HLL.out
             rw [← h1, List.take_take, ← h2]
             rcases Nat.lt_or_ge k n with h | h
             · have : (l.drop A).length = k := by
                 rw [← h1, List.length_take] at h3
                 simp only [Nat.min_def] at h3
                 split at h3 <;> omega
               rw [List.take_of_length_le (by simp only [Nat.min_def]; repeat' split
                                              all_goals omega), List.take_of_length_le (by omega)]
             · congr 1
               simp only [Nat.min_def]
               repeat' split
               all_goals omega
           have HOW : Hid (Holds w9 (.slice aw k cw) L1) := Holds.below (Holds.below (Holds.of_own (by have := HW.out.2; unfold OwnW at this; rw [HLL.out.2.2] at this; rw [HLL.out.2.2]; exact this)) H8.out.2.2) H9.out.2.2
           have HO8 : Hid (Holds w9 (.slice a8 L1.length c8) L1) := (Holds.of_own H8.out.2.1).below H9.out.2.2
           have HO9 : Hid (Holds w9 (.slice a9 L2.length c9) L2) := Holds.of_own H9.out.2.1
           have hkc : (k : Int) ≤ (cw : Int) := by omega
           have HL1 : Hid (L1.length < 100) := by show _ < _; rw [HLL.out.2.2]; omega
           have k0 : (0 : Int) ≤ (k : Int) := by omega
           clear jl
           obtain ⟨r, hr⟩ : ∃ r, Nat.min n k = r := ⟨_, rfl⟩
           have hrk : r ≤ k := by rw [← hr]; exact Nat.min_le_right _ _
           have HCT : Hid (Holds w9 (.slice aw r cw) L2) := by
             have h := HOW.out.take hrk
             have h2 := HCUT.out
             rw [hr] at h2
             rw [h2] at h
             exact h
           have jmin : min (n : Int) (k : Int) = (r : Int) := by
             rw [← hr]
             simp only [Nat.min_def, Int.min_def]
             split <;> split <;> omega
           have jn : (r : Int) ≤ (cw : Int) := by omega
           have jnn : r ≤ cw := by omega
           clear hr hrk
           go_upto_region 23 with (first
             | (go_at_call 16; with_reducible refine (same_any HO8.out HOW.out (by have := HL1.out; omega) (by have := HL1.out; omega)).mono ?_; rw [show sameP L1 L1 = true from by simp [sameP]]; rintro e10 w10 ⟨rfl, hb10⟩; have H10 := Lib.hid hb10; clear hb10)
             | (go_at_call 16; with_reducible refine (same_any (HO9.out.below H10.out) (HCT.out.below H10.out) (by omega) (by omega)).mono ?_; rw [show sameP L2 L2 = true from by simp [sameP]]; rintro e11 w11 ⟨rfl, hb11⟩; have H11 := Lib.hid (Below.step H10.out hb11); clear hb11))
           have HOY : Hid (Holds w11 (.slice a9 L2.length c9) L2) := HO9.out.below H11.out
           rcases Nat.eq_zero_or_pos L2.length with hz | hz
           · have jz : (L2.length : Int) = 0 := by omega
             have HB11 := Lib.hid (Below.step HN.out (Below.step H7.out.low (Below.step H9.out.1 H11.out)))
             go_wp2_with fail
             go_ret
             exact ⟨rfl, HB11.out⟩
           · obtain ⟨j, hj⟩ : ∃ j, L2.length = j + 1 := ⟨L2.length - 1, by omega⟩
             obtain ⟨⟨kz, vz⟩, hkz⟩ : ∃ t, L2[j]? = some t := ⟨_, List.getElem?_eq_getElem (by omega)⟩
             obtain ⟨b, o, rfl, hb, k1, _⟩ : ∃ b o, a9 = some ⟨b, o, none⟩ ∧ b < w11.heap.size ∧ w11.cell? ⟨b, o + j * 2, none⟩ = some (.string kz) ∧ True := by
               obtain ⟨a', c', e', h'⟩ := HOY.out
               cases e'
               obtain ⟨b, o, e1, e2, e3, _⟩ := h' j _ hkz
               exact ⟨b, o, e1, e2, e3, trivial⟩
             have jz : ¬ L2 = [] := by rintro rfl; simp at hz
             have j1 : (L2.length : Int) - 1 = (j : Int) := by omega
             have j2 : (0 : Int) ≤ (j : Int) := by omega
             have j3 : (j : Int) < (L2.length : Int) := by omega
             have j4 : (L2.length : Int) < 100 := by omega
             have HJ := Lib.hid (And.intro hj (And.intro hkz hb))
             have HKZ : Hid (kz.size ≤ 16) := by
               show _ ≤ _
               have hm : (kz, vz) ∈ L2 := List.mem_of_getElem? hkz
               rw [← HLL.out.2.1] at hm
               exact (HG.out.2 _ (List.mem_of_mem_drop (List.mem_of_mem_take hm))).1
             clear hj hkz hb hz
             by_cases hs16 : kz.size = 16
             · have js : (kz.size : Int) = 16 := by omega
               have HB11 := Lib.hid (Below.step HN.out (Below.step H7.out.low (Below.step H9.out.1 H11.out)))
               have jb : decide (kz.size = 16) = true := decide_eq_true hs16
               go_wp2_with fail
               go_ret
               exact ⟨rfl, HB11.out⟩
             · have js : ¬ (kz.size : Int) = 16 := by omega
               obtain ⟨L3, hL3⟩ : ∃ L3, (l.drop (A + L2.length)).take m = L3 := ⟨_, rfl⟩
               have HL3 := Lib.hid hL3
               have HSC3 : Hid (scanB (kz ++ ⟨#[0]⟩) (m : Int) l = (L3, 0)) := by
                 show _ = _
                 have h1 : atK (kz ++ ⟨#[0]⟩) (keys l) = A + L2.length := by
                   have h2 := HLL.out.2.1
                   have h := scan_next (l := l) HG.out.1 (A := A) (n := n) (k := kz) (v := vz) (by rw [h2, HJ.out.1, Nat.add_sub_cancel]; exact HJ.out.2.1) (by rw [h2, HJ.out.1]; omega)
                   rw [h2] at h
                   exact h
                 rw [scanB_ok (by rw [append_size]; show _ + 1 ≤ 16; have := HKZ.out; omega) (by omega), h1, hL3]
               have jb : ((kz.size : Int) == 16) = false := beq_eq_false_iff_ne.2 js
               have jb2 : ((L2.length : Int) == 0) = false := beq_eq_false_iff_ne.2 (by omega)
               have jb3 : ¬ 9223372036854775807 < kz.size + 1 := by have := HKZ.out; omega
               clear hL3
               go_upto_region 26 with (first
                 | (go_at_call 14; refine (scan_any (H7.out.below (Below.step H9.out.1 H11.out)).bk (by have := HL.out; omega) _ _).mono ?_; rw [HSC3.out]; rintro e12 w12 ⟨v12, rfl, hb12, ho12⟩; obtain ⟨a12, c12, rfl⟩ := row_form ho12; have H12 := Lib.hid (And.intro ho12 hb12); clear hb12 ho12))
               obtain ⟨W13, hW13⟩ : ∃ W13, W13 = (w12.alloc (.cells #[] 49)).drew := ⟨_, rfl⟩
               have b13 : Below w12.heap.size w12 W13 := by rw [hW13]; exact (Below.new (Below.refl _ _) _).drew
               have e13 : W13.ownsRow w12.heap.size 49 2 (.slice (some ⟨w12.heap.size, 0, none⟩) 0 0) ([] : List Pr).length (flatP []) := by
                 rw [hW13]
                 exact row_keep (W := w12.alloc (.cells #[] 49)) (World.ownsRow_lit w12 #[] 0 (Nat.le_refl _) (by unfold maxLen; omega) rfl) (fun k _ => rfl)
               have y13 : W13.ownsRow w8.heap.size 49 2 (.slice (some ⟨b, o, none⟩) L2.length c9) L2.length (flatP L2) := row_keep H9.out.2.1 fun k hk => ((H11.out.trans (H12.out.2.mono H11.out.size)).trans (b13.mono (Nat.le_trans H11.out.size H12.out.2.size))).block k (H9.out.2.1.lt k hk).2
               obtain ⟨v14, W14, r14, o14, g14⟩ := app_pairs e13 y13 b13.size (by simp; omega)
               have b14 : Below w12.heap.size w12 W14 := Below.grown' b13 g14 (fun r hr => (e13.lt r hr).1)
               have z14 : W14.ownsRow w11.heap.size 49 2 (.slice a12 L3.length c12) L3.length (flatP L3) := row_keep H12.out.1 fun k hk => b14.block k (H12.out.1.lt k hk).2
               have hL3m : L3.length ≤ m := by rw [← HL3.out]; simp only [List.length_take]; exact Nat.min_le_left _ _
               obtain ⟨v15, W15, r15, o15, g15⟩ := app_pairs o14 z14 b14.size (by simp; omega)
               have b15 : Below w12.heap.size w12 W15 := Below.grown' b14 g15 (fun r hr => (o14.lt r hr).1)
               obtain ⟨a14, c14, rfl⟩ := row_form o14
               obtain ⟨a15, c15, rfl⟩ := row_form o15
               obtain ⟨r2, hr2⟩ : ∃ r2, Nat.min L1.length (L2.length + m) = r2 := ⟨_, rfl⟩
               have hr2l : r2 ≤ L1.length := by rw [← hr2]; exact Nat.min_le_left _ _
               have hjoin : L2 ++ L3 = L1.take r2 := by
                 rw [← hr2, ← HL3.out, ← HLL.out.2.1, scans_join, HLL.out.1]
                 rcases Nat.le_total L1.length (((l.drop A).take n).length + m) with h | h
                 · rw [show Nat.min L1.length (((l.drop A).take n).length + m) = L1.length from Nat.min_eq_left h, List.take_of_length_le h, List.take_length]
                 · rw [show Nat.min L1.length (((l.drop A).take n).length + m) = ((l.drop A).take n).length + m from Nat.min_eq_right h]
               have HS1 := Lib.hid (Holds.of_own o15)
               have HS2 : Hid (Holds W15 (.slice a8 r2 c8) (L2 ++ L3)) := by
                 show Holds _ _ _
                 rw [hjoin]
                 exact (((HO8.out.below H11.out).below H12.out.2).below b15).take hr2l
               have jmin2 : min (L1.length : Int) ((L2.length : Int) + (m : Int)) = (r2 : Int) := by
                 rw [← hr2]
                 simp only [Nat.min_def, Int.min_def]
                 split <;> split <;> omega
               have hc8 := row_cap H8.out.2.1
               have ja : (r2 : Int) ≤ (c8 : Int) := by omega
               have jb4 : r2 ≤ c8 := by omega
               have j100 : (L1.length : Int) < 100 := by have := HL1.out; omega
               have HLN : Hid ((L2 ++ L3).length < 1000) := by show _ < _; simp; omega
               have HB15 := Lib.hid (Below.step HN.out (Below.step H7.out.low (Below.step H9.out.1 (Below.step H11.out (Below.step H12.out.2 b15)))))
               have HE13 := Lib.hid hW13
               simp only [List.nil_append, List.length_append] at o14 r14 r15 HS1
               have jw : IntKind.i64.wrap ((L2.length : Int) + (m : Int)) = (L2.length : Int) + (m : Int) := by rw [IntKind.wrap_i64]; omega
               clear b13 e13 y13 o14 g14 b14 z14 o15 g15 b15 hr2 hr2l hjoin hc8 hW13 hL3m
               refine wp_region_held_drew (S := fun _ => True) (by kernel_rfl) ?_ (fun hHeld => ?_)
               · (try dsimp only)
                 all_goals trivial
               refine wpAnyH_take (i := 0) (oi := ?_) (v := ?_) ?_ (by kernel_rfl) (by kernel_rfl) (by kernel_rfl) ?_ (Or.inl ⟨?_, ?_⟩) (by assumption) ?_
               rotate_left 2
               · simp only [List.getElem?_toArray, List.getElem?_cons_succ, List.getElem?_cons_zero] <;> rfl
               · exact fun _ _ _ h => h
               · rfl
               · (intro w hSw; (try dsimp only at hSw); go_simp; try (with_reducible rfl))
               try simp only [Act.put, List.setIfInBounds_toArray, List.set_cons_zero, List.set_cons_succ]
               refine wpAnyH_take (i := 1) (oi := ?_) (v := ?_) ?_ (by kernel_rfl) (by kernel_rfl) (by kernel_rfl) ?_ (Or.inl ⟨?_, ?_⟩) (by assumption) ?_
               rotate_left 2
               · simp only [List.getElem?_toArray, List.getElem?_cons_succ, List.getElem?_cons_zero] <;> rfl
               · exact fun _ _ _ h => h
               · rfl
               · (intro w hSw; (try dsimp only at hSw); go_simp; try (with_reducible rfl))
               try simp only [Act.put, List.setIfInBounds_toArray, List.set_cons_zero, List.set_cons_succ]
               refine wpAnyH_take (i := 2) (oi := ?_) (v := ?_) ?_ (by kernel_rfl) (by kernel_rfl) (by kernel_rfl) ?_ (Or.inl ⟨?_, ?_⟩) (by assumption) ?_
               rotate_left 2
               · simp only [List.getElem?_toArray, List.getElem?_cons_succ, List.getElem?_cons_zero] <;> rfl
               · exact fun _ _ _ h => h
               · rfl
               · (intro w hSw; (try dsimp only at hSw); go_simp; try (with_reducible rfl))
               try simp only [Act.put, List.setIfInBounds_toArray, List.set_cons_zero, List.set_cons_succ]
               refine wpAnyH_take (i := 4) (oi := ?_) (v := ?_) ?_ (by kernel_rfl) (by kernel_rfl) (by kernel_rfl) ?_ (Or.inl ⟨?_, ?_⟩) (by assumption) ?_
               rotate_left 2
               · simp only [List.getElem?_toArray, List.getElem?_cons_succ, List.getElem?_cons_zero] <;> rfl
               · exact fun _ _ _ h => h
               · rfl
               · (intro w hSw; (try dsimp only at hSw); go_simp; try (with_reducible rfl))
               try simp only [Act.put, List.setIfInBounds_toArray, List.set_cons_zero, List.set_cons_succ]
               refine wpAnyH_take (i := 6) (oi := ?_) (v := ?_) ?_ (by kernel_rfl) (by kernel_rfl) (by kernel_rfl) ?_ (Or.inl ⟨?_, ?_⟩) (by assumption) ?_
               rotate_left 2
               · simp only [List.getElem?_toArray, List.getElem?_cons_succ, List.getElem?_cons_zero] <;> rfl
               · exact fun _ _ _ h => h
               · rfl
               · (intro w hSw; (try dsimp only at hSw); go_simp; try (with_reducible rfl))
               try simp only [Act.put, List.setIfInBounds_toArray, List.set_cons_zero, List.set_cons_succ]
               refine wpAnyH_take (i := 8) (oi := ?_) (v := ?_) ?_ (by kernel_rfl) (by kernel_rfl) (by kernel_rfl) ?_ (Or.inl ⟨?_, ?_⟩) (by assumption) ?_
               rotate_left 2
               · simp only [List.getElem?_toArray, List.getElem?_cons_succ, List.getElem?_cons_zero] <;> rfl
               · exact fun _ _ _ h => h
               · rfl
               · (intro w hSw; (try dsimp only at hSw); go_simp; try (with_reducible rfl))
               try simp only [Act.put, List.setIfInBounds_toArray, List.set_cons_zero, List.set_cons_succ]
               refine wpAnyH_take (i := 9) (oi := ?_) (v := ?_) ?_ (by kernel_rfl) (by kernel_rfl) (by kernel_rfl) ?_ (Or.inl ⟨?_, ?_⟩) (by assumption) ?_
               rotate_left 2
               · simp only [List.getElem?_toArray, List.getElem?_cons_succ, List.getElem?_cons_zero] <;> rfl
               · exact fun _ _ _ h => h
               · rfl
               · (intro w hSw; (try dsimp only at hSw); go_simp; try (with_reducible rfl))
               try simp only [Act.put, List.setIfInBounds_toArray, List.set_cons_zero, List.set_cons_succ]
               refine wpAnyH_take (i := 10) (oi := ?_) (v := ?_) ?_ (by kernel_rfl) (by kernel_rfl) (by kernel_rfl) ?_ (Or.inl ⟨?_, ?_⟩) (by assumption) ?_
               rotate_left 2
               · simp only [List.getElem?_toArray, List.getElem?_cons_succ, List.getElem?_cons_zero] <;> rfl
               · exact fun _ _ _ h => h
               · rfl
               · (intro w hSw; (try dsimp only at hSw); go_simp; try (with_reducible rfl))
               try simp only [Act.put, List.setIfInBounds_toArray, List.set_cons_zero, List.set_cons_succ]
               refine wpAnyH_take (i := 11) (oi := ?_) (v := ?_) ?_ (by kernel_rfl) (by kernel_rfl) (by kernel_rfl) ?_ (Or.inl ⟨?_, ?_⟩) (by assumption) ?_
               rotate_left 2
               · simp only [List.getElem?_toArray, List.getElem?_cons_succ, List.getElem?_cons_zero] <;> rfl
               · exact fun _ _ _ h => h
               · rfl
               · (intro w hSw; (try dsimp only at hSw); go_simp; try (with_reducible rfl))
               try simp only [Act.put, List.setIfInBounds_toArray, List.set_cons_zero, List.set_cons_succ]
               refine wpAnyH_take (i := 12) (oi := ?_) (v := ?_) ?_ (by kernel_rfl) (by kernel_rfl) (by kernel_rfl) ?_ (Or.inl ⟨?_, ?_⟩) (by assumption) ?_
               rotate_left 2
               · simp only [List.getElem?_toArray, List.getElem?_cons_succ, List.getElem?_cons_zero] <;> rfl
               · exact fun _ _ _ h => h
               · rfl
               · (intro w hSw; (try dsimp only at hSw); go_simp; try (with_reducible rfl))
               try simp only [Act.put, List.setIfInBounds_toArray, List.set_cons_zero, List.set_cons_succ]
               refine wpAnyH_take (i := 13) (oi := ?_) (v := ?_) ?_ (by kernel_rfl) (by kernel_rfl) (by kernel_rfl) ?_ (Or.inl ⟨?_, ?_⟩) (by assumption) ?_
               rotate_left 2
               · simp only [List.getElem?_toArray, List.getElem?_cons_succ, List.getElem?_cons_zero] <;> rfl
               · exact fun _ _ _ h => h
               · rfl
               · (intro w hSw; (try dsimp only at hSw); go_simp; try (with_reducible rfl))
               try simp only [Act.put, List.setIfInBounds_toArray, List.set_cons_zero, List.set_cons_succ]
               refine wpAnyH_take (i := 14) (oi := ?_) (v := ?_) ?_ (by kernel_rfl) (by kernel_rfl) (by kernel_rfl) ?_ (Or.inl ⟨?_, ?_⟩) (by assumption) ?_
               rotate_left 2
               · simp only [List.getElem?_toArray, List.getElem?_cons_succ, List.getElem?_cons_zero] <;> rfl
               · exact fun _ _ _ h => h
               · rfl
               · (intro w hSw; (try dsimp only at hSw); go_simp; try (with_reducible rfl))
               try simp only [Act.put, List.setIfInBounds_toArray, List.set_cons_zero, List.set_cons_succ]
               refine wpAnyH_take (i := 15) (oi := ?_) (v := ?_) ?_ (by kernel_rfl) (by kernel_rfl) (by kernel_rfl) ?_ (Or.inl ⟨?_, ?_⟩) (by assumption) ?_
               rotate_left 2
               · simp only [List.getElem?_toArray, List.getElem?_cons_succ, List.getElem?_cons_zero] <;> rfl
               · exact fun _ _ _ h => h
               · rfl
               · (intro w hSw; (try dsimp only at hSw); go_simp; try (with_reducible rfl))
               try simp only [Act.put, List.setIfInBounds_toArray, List.set_cons_zero, List.set_cons_succ]
               refine wpAnyH_take (i := 16) (oi := ?_) (v := ?_) ?_ (by kernel_rfl) (by kernel_rfl) (by kernel_rfl) ?_ (Or.inl ⟨?_, ?_⟩) (by assumption) ?_
               rotate_left 2
               · simp only [List.getElem?_toArray, List.getElem?_cons_succ, List.getElem?_cons_zero] <;> rfl
               · exact fun _ _ _ h => h
               · rfl
               · (intro w hSw; (try dsimp only at hSw); go_simp; try (with_reducible rfl))
               try simp only [Act.put, List.setIfInBounds_toArray, List.set_cons_zero, List.set_cons_succ]
               refine wpAnyH_ready (rs := [3]) (by kernel_rfl) (by simp) ?_
               refine AllReadyH.cons (o := _) (by simp only [List.getElem?_toArray, List.getElem?_cons_succ, List.getElem?_cons_zero] <;> rfl) (fun K hK => ?_) ?_
               · go_simp
                 refine hK.out _ _ ?_ (fun hHeld => ?_)
                 · (try dsimp only)
                   all_goals trivial
                 clear hK K
                 try simp only [Act.put, List.setIfInBounds_toArray, List.set_cons_zero, List.set_cons_succ]
                 refine wpAnyH_ready (rs := [5]) (by kernel_rfl) (by simp) ?_
                 refine AllReadyH.cons (o := _) (by simp only [List.getElem?_toArray, List.getElem?_cons_succ, List.getElem?_cons_zero] <;> rfl) (fun K hK => ?_) ?_
                 · rw [← HE13.out]
                   refine step_app_run (by rfl) _ _ 29 29 (by rfl) _ _ (by rfl) (by rfl) r14 ?_
                   refine hK.out _ _ ?_ (fun hHeld => ?_)
                   · (try dsimp only)
                     all_goals trivial
                   clear hK K
                   try simp only [Act.put, List.setIfInBounds_toArray, List.set_cons_zero, List.set_cons_succ]
                   refine wpAnyH_ready (rs := [7]) (by kernel_rfl) (by simp) ?_
                   refine AllReadyH.cons (o := _) (by simp only [List.getElem?_toArray, List.getElem?_cons_succ, List.getElem?_cons_zero] <;> rfl) (fun K hK => ?_) ?_
                   · skip
                     refine step_app_run (by rfl) _ _ 29 29 (by rfl) _ _ (by rfl) (by rfl) r15 ?_
                     refine hK.out _ _ ?_ (fun hHeld => ?_)
                     · (try dsimp only)
                       all_goals trivial
                     clear hK K
                     try simp only [Act.put, List.setIfInBounds_toArray, List.set_cons_zero, List.set_cons_succ]
                     refine wpAnyH_ready (rs := [17]) (by kernel_rfl) (by simp) ?_
                     refine AllReadyH.cons (o := _) (by simp only [List.getElem?_toArray, List.getElem?_cons_succ, List.getElem?_cons_zero] <;> rfl) (fun K hK => ?_) ?_
                     · go_simp
                       with_reducible refine (same_any HS1.out HS2.out (by have := HLN.out; omega) (by have := HLN.out; omega)).mono ?_
                       rw [show sameP (L2 ++ L3) (L2 ++ L3) = true from by simp [sameP]]
                       rintro e16 w16 ⟨rfl, hb16⟩
                       have H16 := Lib.hid hb16
                       clear hb16
                       go_wp2_with fail
                       refine hK.out _ _ ?_ (fun hHeld => ?_)
                       · (try dsimp only)
                         all_goals trivial
                       clear hK K
                       try simp only [Act.put, List.setIfInBounds_toArray, List.set_cons_zero, List.set_cons_succ]
                       refine wpAnyH_take (i := 18) (oi := ?_) (v := ?_) ?_ (by kernel_rfl) (by kernel_rfl) (by kernel_rfl) ?_ (Or.inl ⟨?_, ?_⟩) (by assumption) ?_
                       rotate_left 2
                       · simp only [List.getElem?_toArray, List.getElem?_cons_succ, List.getElem?_cons_zero] <;> rfl
                       · exact fun _ _ _ h => h
                       · rfl
                       · (intro w hSw; (try dsimp only at hSw); go_simp; try (with_reducible rfl))
                       try simp only [Act.put, List.setIfInBounds_toArray, List.set_cons_zero, List.set_cons_succ]
                       refine wpAnyH_take (i := 19) (oi := ?_) (v := ?_) ?_ (by kernel_rfl) (by kernel_rfl) (by kernel_rfl) ?_ (Or.inl ⟨?_, ?_⟩) (by assumption) ?_
                       rotate_left 2
                       · simp only [List.getElem?_toArray, List.getElem?_cons_succ, List.getElem?_cons_zero] <;> rfl
                       · exact fun _ _ _ h => h
                       · rfl
                       · (intro w hSw; (try dsimp only at hSw); go_simp; try (with_reducible rfl))
                       try simp only [Act.put, List.setIfInBounds_toArray, List.set_cons_zero, List.set_cons_succ]
                       refine wpAnyH_done (by kernel_rfl) ?_ _
                       go_wp2_with fail
                       go_ret
                       exact ⟨rfl, Below.step HB15.out H16.out⟩
                     exact AllReadyH.nil
                   exact AllReadyH.nil
                 exact AllReadyH.nil
               exact AllReadyH.nil)
theorem scans_walk (q : Lm) (ao : Option Addr) (len cap : Nat) (x : ByteArray) (a c : Int) (w : World) {P1 P2 P3 P4 : Prop} (_ : P1) (hdd : IsDeeds w ao len) (_ : P2) (_ : P3) (_ : P4) :
    Calls Try.prog 8 #[q.v, .slice ao len cap, .string x, .int .i64 a, .int .i64 c] w fun e w' => e = .returned (.bool true) ∧ Below w.heap.size w w' := by
  by_cases h : x.size ≤ 16
  · exact scans_short q ao len cap x a c w hdd h
  · exact scans_long q ao len cap x a c w h
end Go.Proofs.Ytcpmnkihhenbgaa
