/- The walk of LockOne. -/
import Derived.Test.YthhmbmeajgjhcaaAwakeW
import Derived.Test.YthhmbmeajgjhcaaDeeds
namespace Go.Proofs.Ythhmbmeajgjhcaa
open Go.RowKit
set_option maxRecDepth 100000
set_option maxHeartbeats 16000000

def Cls (h c : Bool) (n : Int) : Prop := (h = false ∧ c = false ∧ n = 0) ∨ (h = true ∧ c = false ∧ n = 1) ∨ (h = false ∧ c = true ∧ 4 ≤ n ∧ n % 4 = 0) ∨ (h = true ∧ c = true ∧ 4 ≤ n ∧ n % 4 = 1) ∨ (h = false ∧ c = true ∧ 4 ≤ n ∧ n % 4 = 2)
section
variable {W : World} {p a m : Nat} {t n : Int}
theorem lk_held0 (h : At W p a m (lk t n)) (hn : ¬ n % 4 = 1) : Calls Try.prog 20 #[.pointer (some ⟨p, 0, none⟩)] W fun e w' => e = .returned (.int .i64 0) ∧ w' = W := by
  have := lk_held h
  unfold heldN at this
  rw [if_neg hn] at this
  exact this
theorem lk_held1 (h : At W p a m (lk t n)) (hn : n % 4 = 1) : Calls Try.prog 20 #[.pointer (some ⟨p, 0, none⟩)] W fun e w' => e = .returned (.int .i64 1) ∧ w' = W := by
  have := lk_held h
  unfold heldN at this
  rw [if_pos hn] at this
  exact this
theorem lk_check1 (h : At W p a m (lk t 0)) : Calls Try.prog 15 #[.pointer (some ⟨p, 0, none⟩), refV 0 1, .int .u64 0] W fun e w' => e = .returned (.bool true) ∧ Below W.heap.size W w' := lk_check h 0
theorem lk_check0 (h : At W p a m (lk t n)) (hn : 4 ≤ n) : Calls Try.prog 15 #[.pointer (some ⟨p, 0, none⟩), refV 0 1, .int .u64 0] W fun e w' => e = .returned (.bool false) ∧ Below W.heap.size W w' := by
  have := lk_check h 0
  rw [show (n == 0) = false from by simp; omega] at this
  exact this
end
def Loop1 (w : World) (p a m q len : Nat) (h c it : Value) (wr : World) : Prop := ∃ (i : Nat) (t n : Int) (hb cb : Bool), i ≤ len ∧ i ≤ 200 ∧ it = .int .i64 i ∧ h = .bool hb ∧ c = .bool cb ∧ Cls hb cb n ∧ 0 ≤ t ∧ t ≤ i ∧ n ≤ 8 * i + 1 ∧ On w wr p a m q t n
def Word (w : World) (p a m q : Nat) (t n : Int) (v : Value) (wx : World) : Prop := ∃ z : Int, v = .int .u64 z ∧ W64 z ∧ On w wx p a m q t n

theorem lockOne_walk (ao : Option Addr) (len cap : Nat) (rd : Int) (w : World) (hd : IsDeeds w ao len) (hrd : W64 rd) :
    Calls Try.prog 5 #[.slice ao len cap, .int .u64 rd] w fun e w' => e = .returned (.bool true) ∧ Below w.heap.size w w' := by
  have HD := Lib.hid hd
  have hlen := hd.1
  have HRD := Lib.hid hrd
  clear hd hrd
  by_cases hl : 200 < len
  · have hl2 : (200 : Int) < (len : Int) := by omega
    have hl3 : decide (200 < len) = true := decide_eq_true hl
    clear hl
    go_enter Try.func5, Try.ntmps5
    go_wp2_with fail
    refine (awake_any _).mono ?_
    rintro e w1 ⟨rfl, hb1⟩
    have HB1 := Lib.hid hb1
    clear hb1
    go_wp2_with fail
    go_ret
    exact ⟨rfl, HB1.out⟩
  have hl2 : ¬ (200 : Int) < (len : Int) := by omega
  have hl3 : decide (200 < len) = false := decide_eq_false hl
  have HL := Lib.hid hl
  clear hl
  go_enter Try.func5, Try.ntmps5
  go_wp2_with fail
  refine (awake_any _).mono ?_
  rintro e w0 ⟨rfl, hb0⟩
  have HB0 := Lib.hid hb0
  clear hb0
  go_wp2_with fail
  refine (new_any _).mono ?_
  rintro e w1 ⟨p, a, m, hp, ha, hm, rfl, hb1, hat1⟩
  have HS : Hid (∀ k ∈ [a, m], w.heap.size ≤ k) := by intro k hk; have := HB0.out.size; simp at hk; rcases hk with rfl | rfl <;> omega
  have HB1 := Lib.hid (Below.step HB0.out hb1)
  have HA1 := Lib.hid hat1
  clear hp ha hm hb1 hat1 hl2 hl3
  go_wp2_with fail
  refine (one_any _).mono ?_
  rintro e w2 ⟨rfl, hb2⟩
  have HB2 := Lib.hid (Below.step HB1.out hb2)
  have HA2 := Lib.hid (HA1.out.below hb2)
  clear hb2
  go_upto_region 7 with fail
  obtain ⟨W3, hW3⟩ : ∃ W3, W3 = w2.alloc (.cells #[.int .i64 0, .int .u32 1] 33) := ⟨_, rfl⟩
  rw [← hW3]
  obtain ⟨q, hq⟩ : ∃ q, w2.heap.size = q := ⟨_, rfl⟩
  rw [hq]
  have HQ : Hid (Fresh W3 q #[.int .i64 0, .int .u32 1] 33) := by show Fresh _ _ _ _; rw [hW3]; exact Fresh.new _ _ _ _ hq
  have HA3 : Hid (At W3 p a m ⟨0, 0, []⟩) := by show At _ _ _ _ _; rw [hW3]; exact HA2.out.below (Below.new (Below.refl _ _) _)
  have HB3 : Hid (Below w.heap.size w W3) := by show Below _ _ _; rw [hW3]; exact Below.new HB2.out _
  have HN : Hid (q ∉ [a, m]) := by
    have h1 := HA2.out.ha.lt
    have h2 := HA2.out.hm.lt
    show q ∉ [a, m]
    simp
    omega
  clear hW3 hq
  have r0 := HQ.out.cell 0
  have r1 := HQ.out.cell 1
  simp only [List.getElem?_toArray, List.getElem?_cons_zero, List.getElem?_cons_succ] at r0 r1
  go_wp2_with fail
  refine (lk_add HA3.out).mono ?_
  rintro e w4 ⟨rfl, ht, ha⟩
  have H4 : Hid (On w w4 p a m q 0 0) := ⟨ha, ht.other HQ.out HN.out, ht.below HB3.out HS.out HB3.out.size, HS.out, HN.out⟩
  clear ht ha r0 r1
  obtain ⟨r0, r1⟩ := H4.out.ref
  go_wp2_with fail
  refine (lk_begin H4.out.at' (w64l 0 (by decide))).mono ?_
  rintro e w5 ⟨rfl, hb5⟩
  have H5 := Lib.hid (H4.out.below hb5)
  clear hb5 r0 r1
  go_wp2_with fail
  go_loopw [9, 10, 11] (fun h c it wr => Loop1 w p a m q len h c it wr) (fun _ _ it _ => 200 - (intOf it).toNat)
  case atStart => exact ⟨0, 0, 0, false, false, by omega, by omega, rfl, rfl, rfl, .inl ⟨rfl, rfl, rfl⟩, by omega, by omega, by omega, H5.out⟩
  case round =>
    obtain ⟨i, t, n, hb, cb, hi, hi2, rfl, rfl, rfl, hcls, ht0, ht1, hn1, hon⟩ := hrel
    have HO := Lib.hid hon
    have HC := Lib.hid hcls
    have HT : Hid (0 ≤ t ∧ t ≤ i ∧ n ≤ 8 * i + 1 ∧ i ≤ 200) := ⟨ht0, ht1, hn1, hi2⟩
    have HNN : Hid (W64 n ∧ 0 ≤ n) := by
      have : 0 ≤ n := by unfold Cls at hcls; omega
      exact ⟨⟨this, by omega⟩, this⟩
    clear hon ht0 ht1 hn1 H4 H5 HQ HA3 HB3 HA2 HB2 HA1 HB1 HB0 HN HS
    by_cases hgo : i < len
    · have q1 : (i : Int) < (len : Int) := by omega
      have q3 : decide (i < len) = true := decide_eq_true hgo
      have q0 : (0 : Int) ≤ (i : Int) := Int.natCast_nonneg _
      have q4 : (i : Int) ≤ 200 := by omega
      have HI : Hid (i < len ∧ i < 200) := ⟨hgo, by have := HL.out; omega⟩
      obtain ⟨g, off, rfl, x, sx, sk, v, u1, u2, HG⟩ := HD.out.at' i hgo
      have HG := Lib.hid HG
      have HV := Lib.hid u2
      clear u1 u2 hgo hi hi2 hcls
      obtain ⟨hgl, e0, e1, e2, e3⟩ := HG.out _ HO.out.low
      go_upto_if 43 with fail
      go_cut [12] (fun v wx => Word w p a m q t n v wx)
      case first =>
        as_aux_lemma =>
          by_cases h3 : 0 < (i : Int) % 3
          · obtain ⟨r0, r1⟩ := HO.out.ref
            go_wp2_with fail
            refine (lk_begin HO.out.at' HNN.out.1).mono ?_
            rintro e w9 ⟨rfl, hb9⟩
            have H9 := Lib.hid (HO.out.below hb9)
            clear hb9 r0 r1 e0 e1 e2 e3 hgl
            go_wp2_with fail
            go_meet
            exact ⟨n, rfl, HNN.out.1, H9.out⟩
          · go_wp2_with fail
            go_meet
            exact ⟨v, rfl, HV.out, HO.out⟩
      case rest =>
        obtain ⟨z, rfl, hz, hon⟩ := hcut
        have HZ := Lib.hid hz
        clear HO hz e0 e1 e2 e3 hgl
        have HO := Lib.hid hon
        clear hon
        obtain ⟨hgl, e0, e1, e2, e3⟩ := HG.out _ HO.out.low
        go_wp2_with fail
        refine (pick_any x 7 (by decide) (by decide) _).mono ?_
        rintro e w6 ⟨rfl, hw6⟩
        subst hw6
        have hx0 := Int.emod_nonneg x (show (7 : Int) ≠ 0 by decide)
        have hx1 := Int.emod_lt_of_pos x (show (0 : Int) < 7 by decide)
        obtain ⟨y, hy⟩ : ∃ y, x % 7 = y := ⟨_, rfl⟩
        rw [hy] at hx0 hx1 ⊢
        clear hy
        obtain ⟨r0, r1⟩ := HO.out.ref
        rcases (show (y = 0 ∨ y = 1) ∨ y = 2 ∨ y = 3 ∨ y = 4 ∨ y = 5 ∨ y = 6 from by omega) with hy01 | rfl | rfl | rfl | rfl | rfl
        · rcases HC.out with ⟨rfl, rfl, rfl⟩ | ⟨rfl, rfl, rfl⟩ | ⟨rfl, rfl, hn4, hm4⟩ | ⟨rfl, rfl, hn4, hm4⟩ | ⟨rfl, rfl, hn4, hm4⟩
          · as_aux_lemma =>
              clear e0 e1 e2 e3 hgl
              rcases hy01 with rfl | rfl
              all_goals
                have H9 := Lib.hid HO.out
                obtain ⟨r0, r1⟩ := H9.out.ref
                go_wp2_with fail
                refine (lk_held0 H9.out.at' (by omega)).mono ?_
                rintro e w9 ⟨rfl, hw9⟩
                subst hw9
                go_wp2_with fail
                refine (lk_check1 H9.out.at').mono ?_
                rintro e w10 ⟨rfl, hb10⟩
                have H10 := Lib.hid (H9.out.below hb10)
                clear hb10 r0 r1
                go_wp2_with fail
                go_roundw
                case rel => exact ⟨i + 1, t, 0, false, false, by have := HI.out; omega, by have := HI.out; omega, by go_num, rfl, rfl, by unfold Cls; first | exact .inl ⟨rfl, rfl, by omega⟩ | exact .inr (.inl ⟨rfl, rfl, by omega⟩) | exact .inr (.inr (.inl ⟨rfl, rfl, by omega, by omega⟩)) | exact .inr (.inr (.inr (.inl ⟨rfl, rfl, by omega, by omega⟩))) | exact .inr (.inr (.inr (.inr ⟨rfl, rfl, by omega, by omega⟩))), by have := HT.out; omega, by have := HT.out; omega, by have := HT.out; omega, H10.out⟩
                case measure => have := HI.out; simp [intOf]; omega
          · as_aux_lemma =>
              clear e0 e1 e2 e3 hgl
              rcases hy01 with rfl | rfl
              all_goals
                have H9 := Lib.hid HO.out
                obtain ⟨r0, r1⟩ := H9.out.ref
                go_wp2_with fail
                refine (lk_held1 H9.out.at' (by omega)).mono ?_
                rintro e w9 ⟨rfl, hw9⟩
                subst hw9
                go_wp2_with fail
                go_roundw
                case rel => exact ⟨i + 1, t, 1, true, false, by have := HI.out; omega, by have := HI.out; omega, by go_num, rfl, rfl, by unfold Cls; first | exact .inl ⟨rfl, rfl, by omega⟩ | exact .inr (.inl ⟨rfl, rfl, by omega⟩) | exact .inr (.inr (.inl ⟨rfl, rfl, by omega, by omega⟩)) | exact .inr (.inr (.inr (.inl ⟨rfl, rfl, by omega, by omega⟩))) | exact .inr (.inr (.inr (.inr ⟨rfl, rfl, by omega, by omega⟩))), by have := HT.out; omega, by have := HT.out; omega, by have := HT.out; omega, H9.out⟩
                case measure => have := HI.out; simp [intOf]; omega
          · as_aux_lemma =>
              clear e0 e1 e2 e3 hgl
              rcases hy01 with rfl | rfl
              all_goals
                have H9 := Lib.hid HO.out
                obtain ⟨r0, r1⟩ := H9.out.ref
                go_wp2_with fail
                refine (lk_held0 H9.out.at' (by omega)).mono ?_
                rintro e w9 ⟨rfl, hw9⟩
                subst hw9
                go_wp2_with fail
                refine (lk_check0 H9.out.at' (by omega)).mono ?_
                rintro e w10 ⟨rfl, hb10⟩
                have H10 := Lib.hid (H9.out.below hb10)
                clear hb10 r0 r1
                go_wp2_with fail
                go_roundw
                case rel => exact ⟨i + 1, t, n, false, true, by have := HI.out; omega, by have := HI.out; omega, by go_num, rfl, rfl, by unfold Cls; first | exact .inl ⟨rfl, rfl, by omega⟩ | exact .inr (.inl ⟨rfl, rfl, by omega⟩) | exact .inr (.inr (.inl ⟨rfl, rfl, by omega, by omega⟩)) | exact .inr (.inr (.inr (.inl ⟨rfl, rfl, by omega, by omega⟩))) | exact .inr (.inr (.inr (.inr ⟨rfl, rfl, by omega, by omega⟩))), by have := HT.out; omega, by have := HT.out; omega, by have := HT.out; omega, H10.out⟩
                case measure => have := HI.out; simp [intOf]; omega
          · as_aux_lemma =>
              clear e0 e1 e2 e3 hgl
              rcases hy01 with rfl | rfl
              all_goals
                have H9 := Lib.hid HO.out
                obtain ⟨r0, r1⟩ := H9.out.ref
                go_wp2_with fail
                refine (lk_held1 H9.out.at' (by omega)).mono ?_
                rintro e w9 ⟨rfl, hw9⟩
                subst hw9
                go_wp2_with fail
                refine (lk_check0 H9.out.at' (by omega)).mono ?_
                rintro e w10 ⟨rfl, hb10⟩
                have H10 := Lib.hid (H9.out.below hb10)
                clear hb10 r0 r1
                go_wp2_with fail
                go_roundw
                case rel => exact ⟨i + 1, t, n, true, true, by have := HI.out; omega, by have := HI.out; omega, by go_num, rfl, rfl, by unfold Cls; first | exact .inl ⟨rfl, rfl, by omega⟩ | exact .inr (.inl ⟨rfl, rfl, by omega⟩) | exact .inr (.inr (.inl ⟨rfl, rfl, by omega, by omega⟩)) | exact .inr (.inr (.inr (.inl ⟨rfl, rfl, by omega, by omega⟩))) | exact .inr (.inr (.inr (.inr ⟨rfl, rfl, by omega, by omega⟩))), by have := HT.out; omega, by have := HT.out; omega, by have := HT.out; omega, H10.out⟩
                case measure => have := HI.out; simp [intOf]; omega
          · as_aux_lemma =>
              clear e0 e1 e2 e3 hgl
              rcases hy01 with rfl | rfl
              all_goals
                have H9 := Lib.hid HO.out
                obtain ⟨r0, r1⟩ := H9.out.ref
                go_wp2_with fail
                refine (lk_held0 H9.out.at' (by omega)).mono ?_
                rintro e w9 ⟨rfl, hw9⟩
                subst hw9
                go_wp2_with fail
                refine (lk_check0 H9.out.at' (by omega)).mono ?_
                rintro e w10 ⟨rfl, hb10⟩
                have H10 := Lib.hid (H9.out.below hb10)
                clear hb10 r0 r1
                go_wp2_with fail
                go_roundw
                case rel => exact ⟨i + 1, t, n, false, true, by have := HI.out; omega, by have := HI.out; omega, by go_num, rfl, rfl, by unfold Cls; first | exact .inl ⟨rfl, rfl, by omega⟩ | exact .inr (.inl ⟨rfl, rfl, by omega⟩) | exact .inr (.inr (.inl ⟨rfl, rfl, by omega, by omega⟩)) | exact .inr (.inr (.inr (.inl ⟨rfl, rfl, by omega, by omega⟩))) | exact .inr (.inr (.inr (.inr ⟨rfl, rfl, by omega, by omega⟩))), by have := HT.out; omega, by have := HT.out; omega, by have := HT.out; omega, H10.out⟩
                case measure => have := HI.out; simp [intOf]; omega
        · rcases HC.out with ⟨rfl, rfl, rfl⟩ | ⟨rfl, rfl, rfl⟩ | ⟨rfl, rfl, hn4, hm4⟩ | ⟨rfl, rfl, hn4, hm4⟩ | ⟨rfl, rfl, hn4, hm4⟩
          · by_cases hzn : 0 = z
            · as_aux_lemma =>
                subst hzn
                go_wp2_with fail
                refine (lk_yes HO.out.at' HNN.out.1 (by have := HT.out; omega) (by have := HT.out; omega) (by omega)).mono ?_
                rintro e w7 ⟨rfl, ht7, ha7⟩
                have H7 : Hid (On w w7 p a m q (t + 1) (0 + 1)) := HO.out.turned ht7 ha7
                clear ht7 ha7 r0 r1 e0 e1 e2 e3 hgl
                have H9 := Lib.hid H7.out
                obtain ⟨r0, r1⟩ := H9.out.ref
                go_wp2_with fail
                refine (lk_held1 H9.out.at' (by omega)).mono ?_
                rintro e w9 ⟨rfl, hw9⟩
                subst hw9
                go_wp2_with fail
                go_roundw
                case rel => exact ⟨i + 1, t + 1, 0 + 1, true, false, by have := HI.out; omega, by have := HI.out; omega, by go_num, rfl, rfl, by unfold Cls; first | exact .inl ⟨rfl, rfl, by omega⟩ | exact .inr (.inl ⟨rfl, rfl, by omega⟩) | exact .inr (.inr (.inl ⟨rfl, rfl, by omega, by omega⟩)) | exact .inr (.inr (.inr (.inl ⟨rfl, rfl, by omega, by omega⟩))) | exact .inr (.inr (.inr (.inr ⟨rfl, rfl, by omega, by omega⟩))), by have := HT.out; omega, by have := HT.out; omega, by have := HT.out; omega, H9.out⟩
                case measure => have := HI.out; simp [intOf]; omega
            · as_aux_lemma =>
                go_wp2_with fail
                refine (lk_no HO.out.at' HNN.out.1 (by have := HT.out; omega) (by have := HT.out; omega) z (by omega)).mono ?_
                rintro e w7 ⟨rfl, ht7, ha7⟩
                have H7 : Hid (On w w7 p a m q (t) (0)) := HO.out.turned ht7 ha7
                clear ht7 ha7 r0 r1 e0 e1 e2 e3 hgl
                have H9 := Lib.hid H7.out
                obtain ⟨r0, r1⟩ := H9.out.ref
                go_wp2_with fail
                refine (lk_held0 H9.out.at' (by omega)).mono ?_
                rintro e w9 ⟨rfl, hw9⟩
                subst hw9
                go_wp2_with fail
                refine (lk_check1 H9.out.at').mono ?_
                rintro e w10 ⟨rfl, hb10⟩
                have H10 := Lib.hid (H9.out.below hb10)
                clear hb10 r0 r1
                go_wp2_with fail
                go_roundw
                case rel => exact ⟨i + 1, t, 0, false, false, by have := HI.out; omega, by have := HI.out; omega, by go_num, rfl, rfl, by unfold Cls; first | exact .inl ⟨rfl, rfl, by omega⟩ | exact .inr (.inl ⟨rfl, rfl, by omega⟩) | exact .inr (.inr (.inl ⟨rfl, rfl, by omega, by omega⟩)) | exact .inr (.inr (.inr (.inl ⟨rfl, rfl, by omega, by omega⟩))) | exact .inr (.inr (.inr (.inr ⟨rfl, rfl, by omega, by omega⟩))), by have := HT.out; omega, by have := HT.out; omega, by have := HT.out; omega, H10.out⟩
                case measure => have := HI.out; simp [intOf]; omega
          · as_aux_lemma =>
              go_wp2_with fail
              refine (lk_no HO.out.at' HNN.out.1 (by have := HT.out; omega) (by have := HT.out; omega) z (by omega)).mono ?_
              rintro e w7 ⟨rfl, ht7, ha7⟩
              have H7 : Hid (On w w7 p a m q (t) (1)) := HO.out.turned ht7 ha7
              clear ht7 ha7 r0 r1 e0 e1 e2 e3 hgl
              have H9 := Lib.hid H7.out
              obtain ⟨r0, r1⟩ := H9.out.ref
              go_wp2_with fail
              refine (lk_held1 H9.out.at' (by omega)).mono ?_
              rintro e w9 ⟨rfl, hw9⟩
              subst hw9
              go_wp2_with fail
              go_roundw
              case rel => exact ⟨i + 1, t, 1, true, false, by have := HI.out; omega, by have := HI.out; omega, by go_num, rfl, rfl, by unfold Cls; first | exact .inl ⟨rfl, rfl, by omega⟩ | exact .inr (.inl ⟨rfl, rfl, by omega⟩) | exact .inr (.inr (.inl ⟨rfl, rfl, by omega, by omega⟩)) | exact .inr (.inr (.inr (.inl ⟨rfl, rfl, by omega, by omega⟩))) | exact .inr (.inr (.inr (.inr ⟨rfl, rfl, by omega, by omega⟩))), by have := HT.out; omega, by have := HT.out; omega, by have := HT.out; omega, H9.out⟩
              case measure => have := HI.out; simp [intOf]; omega
          · by_cases hzn : n = z
            · as_aux_lemma =>
                subst hzn
                go_wp2_with fail
                refine (lk_yes HO.out.at' HNN.out.1 (by have := HT.out; omega) (by have := HT.out; omega) (by omega)).mono ?_
                rintro e w7 ⟨rfl, ht7, ha7⟩
                have H7 : Hid (On w w7 p a m q (t + 1) (n + 1)) := HO.out.turned ht7 ha7
                clear ht7 ha7 r0 r1 e0 e1 e2 e3 hgl
                have H9 := Lib.hid H7.out
                obtain ⟨r0, r1⟩ := H9.out.ref
                go_wp2_with fail
                refine (lk_held1 H9.out.at' (by omega)).mono ?_
                rintro e w9 ⟨rfl, hw9⟩
                subst hw9
                go_wp2_with fail
                refine (lk_check0 H9.out.at' (by omega)).mono ?_
                rintro e w10 ⟨rfl, hb10⟩
                have H10 := Lib.hid (H9.out.below hb10)
                clear hb10 r0 r1
                go_wp2_with fail
                go_roundw
                case rel => exact ⟨i + 1, t + 1, n + 1, true, true, by have := HI.out; omega, by have := HI.out; omega, by go_num, rfl, rfl, by unfold Cls; first | exact .inl ⟨rfl, rfl, by omega⟩ | exact .inr (.inl ⟨rfl, rfl, by omega⟩) | exact .inr (.inr (.inl ⟨rfl, rfl, by omega, by omega⟩)) | exact .inr (.inr (.inr (.inl ⟨rfl, rfl, by omega, by omega⟩))) | exact .inr (.inr (.inr (.inr ⟨rfl, rfl, by omega, by omega⟩))), by have := HT.out; omega, by have := HT.out; omega, by have := HT.out; omega, H10.out⟩
                case measure => have := HI.out; simp [intOf]; omega
            · as_aux_lemma =>
                go_wp2_with fail
                refine (lk_no HO.out.at' HNN.out.1 (by have := HT.out; omega) (by have := HT.out; omega) z (by omega)).mono ?_
                rintro e w7 ⟨rfl, ht7, ha7⟩
                have H7 : Hid (On w w7 p a m q (t) (n)) := HO.out.turned ht7 ha7
                clear ht7 ha7 r0 r1 e0 e1 e2 e3 hgl
                have H9 := Lib.hid H7.out
                obtain ⟨r0, r1⟩ := H9.out.ref
                go_wp2_with fail
                refine (lk_held0 H9.out.at' (by omega)).mono ?_
                rintro e w9 ⟨rfl, hw9⟩
                subst hw9
                go_wp2_with fail
                refine (lk_check0 H9.out.at' (by omega)).mono ?_
                rintro e w10 ⟨rfl, hb10⟩
                have H10 := Lib.hid (H9.out.below hb10)
                clear hb10 r0 r1
                go_wp2_with fail
                go_roundw
                case rel => exact ⟨i + 1, t, n, false, true, by have := HI.out; omega, by have := HI.out; omega, by go_num, rfl, rfl, by unfold Cls; first | exact .inl ⟨rfl, rfl, by omega⟩ | exact .inr (.inl ⟨rfl, rfl, by omega⟩) | exact .inr (.inr (.inl ⟨rfl, rfl, by omega, by omega⟩)) | exact .inr (.inr (.inr (.inl ⟨rfl, rfl, by omega, by omega⟩))) | exact .inr (.inr (.inr (.inr ⟨rfl, rfl, by omega, by omega⟩))), by have := HT.out; omega, by have := HT.out; omega, by have := HT.out; omega, H10.out⟩
                case measure => have := HI.out; simp [intOf]; omega
          · as_aux_lemma =>
              go_wp2_with fail
              refine (lk_no HO.out.at' HNN.out.1 (by have := HT.out; omega) (by have := HT.out; omega) z (by omega)).mono ?_
              rintro e w7 ⟨rfl, ht7, ha7⟩
              have H7 : Hid (On w w7 p a m q (t) (n)) := HO.out.turned ht7 ha7
              clear ht7 ha7 r0 r1 e0 e1 e2 e3 hgl
              have H9 := Lib.hid H7.out
              obtain ⟨r0, r1⟩ := H9.out.ref
              go_wp2_with fail
              refine (lk_held1 H9.out.at' (by omega)).mono ?_
              rintro e w9 ⟨rfl, hw9⟩
              subst hw9
              go_wp2_with fail
              refine (lk_check0 H9.out.at' (by omega)).mono ?_
              rintro e w10 ⟨rfl, hb10⟩
              have H10 := Lib.hid (H9.out.below hb10)
              clear hb10 r0 r1
              go_wp2_with fail
              go_roundw
              case rel => exact ⟨i + 1, t, n, true, true, by have := HI.out; omega, by have := HI.out; omega, by go_num, rfl, rfl, by unfold Cls; first | exact .inl ⟨rfl, rfl, by omega⟩ | exact .inr (.inl ⟨rfl, rfl, by omega⟩) | exact .inr (.inr (.inl ⟨rfl, rfl, by omega, by omega⟩)) | exact .inr (.inr (.inr (.inl ⟨rfl, rfl, by omega, by omega⟩))) | exact .inr (.inr (.inr (.inr ⟨rfl, rfl, by omega, by omega⟩))), by have := HT.out; omega, by have := HT.out; omega, by have := HT.out; omega, H10.out⟩
              case measure => have := HI.out; simp [intOf]; omega
          · as_aux_lemma =>
              go_wp2_with fail
              refine (lk_no HO.out.at' HNN.out.1 (by have := HT.out; omega) (by have := HT.out; omega) z (by omega)).mono ?_
              rintro e w7 ⟨rfl, ht7, ha7⟩
              have H7 : Hid (On w w7 p a m q (t) (n)) := HO.out.turned ht7 ha7
              clear ht7 ha7 r0 r1 e0 e1 e2 e3 hgl
              have H9 := Lib.hid H7.out
              obtain ⟨r0, r1⟩ := H9.out.ref
              go_wp2_with fail
              refine (lk_held0 H9.out.at' (by omega)).mono ?_
              rintro e w9 ⟨rfl, hw9⟩
              subst hw9
              go_wp2_with fail
              refine (lk_check0 H9.out.at' (by omega)).mono ?_
              rintro e w10 ⟨rfl, hb10⟩
              have H10 := Lib.hid (H9.out.below hb10)
              clear hb10 r0 r1
              go_wp2_with fail
              go_roundw
              case rel => exact ⟨i + 1, t, n, false, true, by have := HI.out; omega, by have := HI.out; omega, by go_num, rfl, rfl, by unfold Cls; first | exact .inl ⟨rfl, rfl, by omega⟩ | exact .inr (.inl ⟨rfl, rfl, by omega⟩) | exact .inr (.inr (.inl ⟨rfl, rfl, by omega, by omega⟩)) | exact .inr (.inr (.inr (.inl ⟨rfl, rfl, by omega, by omega⟩))) | exact .inr (.inr (.inr (.inr ⟨rfl, rfl, by omega, by omega⟩))), by have := HT.out; omega, by have := HT.out; omega, by have := HT.out; omega, H10.out⟩
              case measure => have := HI.out; simp [intOf]; omega
        · rcases HC.out with ⟨rfl, rfl, rfl⟩ | ⟨rfl, rfl, rfl⟩ | ⟨rfl, rfl, hn4, hm4⟩ | ⟨rfl, rfl, hn4, hm4⟩ | ⟨rfl, rfl, hn4, hm4⟩
          · by_cases hzn : 0 = z
            · as_aux_lemma =>
                subst hzn
                go_wp2_with fail
                refine (lk_yes HO.out.at' HNN.out.1 (by have := HT.out; omega) (by have := HT.out; omega) (by omega)).mono ?_
                rintro e w7 ⟨rfl, ht7, ha7⟩
                have H7 : Hid (On w w7 p a m q (t + 1) (0 + 1)) := HO.out.turned ht7 ha7
                clear ht7 ha7 r0 r1 e0 e1 e2 e3 hgl
                have H9 := Lib.hid H7.out
                obtain ⟨r0, r1⟩ := H9.out.ref
                go_wp2_with fail
                refine (lk_held1 H9.out.at' (by omega)).mono ?_
                rintro e w9 ⟨rfl, hw9⟩
                subst hw9
                go_wp2_with fail
                go_roundw
                case rel => exact ⟨i + 1, t + 1, 0 + 1, true, false, by have := HI.out; omega, by have := HI.out; omega, by go_num, rfl, rfl, by unfold Cls; first | exact .inl ⟨rfl, rfl, by omega⟩ | exact .inr (.inl ⟨rfl, rfl, by omega⟩) | exact .inr (.inr (.inl ⟨rfl, rfl, by omega, by omega⟩)) | exact .inr (.inr (.inr (.inl ⟨rfl, rfl, by omega, by omega⟩))) | exact .inr (.inr (.inr (.inr ⟨rfl, rfl, by omega, by omega⟩))), by have := HT.out; omega, by have := HT.out; omega, by have := HT.out; omega, H9.out⟩
                case measure => have := HI.out; simp [intOf]; omega
            · as_aux_lemma =>
                go_wp2_with fail
                refine (lk_no HO.out.at' HNN.out.1 (by have := HT.out; omega) (by have := HT.out; omega) z (by omega)).mono ?_
                rintro e w7 ⟨rfl, ht7, ha7⟩
                have H7 : Hid (On w w7 p a m q (t) (0)) := HO.out.turned ht7 ha7
                clear ht7 ha7 r0 r1 e0 e1 e2 e3 hgl
                have H9 := Lib.hid H7.out
                obtain ⟨r0, r1⟩ := H9.out.ref
                go_wp2_with fail
                refine (lk_held0 H9.out.at' (by omega)).mono ?_
                rintro e w9 ⟨rfl, hw9⟩
                subst hw9
                go_wp2_with fail
                refine (lk_check1 H9.out.at').mono ?_
                rintro e w10 ⟨rfl, hb10⟩
                have H10 := Lib.hid (H9.out.below hb10)
                clear hb10 r0 r1
                go_wp2_with fail
                go_roundw
                case rel => exact ⟨i + 1, t, 0, false, false, by have := HI.out; omega, by have := HI.out; omega, by go_num, rfl, rfl, by unfold Cls; first | exact .inl ⟨rfl, rfl, by omega⟩ | exact .inr (.inl ⟨rfl, rfl, by omega⟩) | exact .inr (.inr (.inl ⟨rfl, rfl, by omega, by omega⟩)) | exact .inr (.inr (.inr (.inl ⟨rfl, rfl, by omega, by omega⟩))) | exact .inr (.inr (.inr (.inr ⟨rfl, rfl, by omega, by omega⟩))), by have := HT.out; omega, by have := HT.out; omega, by have := HT.out; omega, H10.out⟩
                case measure => have := HI.out; simp [intOf]; omega
          · as_aux_lemma =>
              go_wp2_with fail
              refine (lk_no HO.out.at' HNN.out.1 (by have := HT.out; omega) (by have := HT.out; omega) z (by omega)).mono ?_
              rintro e w7 ⟨rfl, ht7, ha7⟩
              have H7 : Hid (On w w7 p a m q (t) (1)) := HO.out.turned ht7 ha7
              clear ht7 ha7 r0 r1 e0 e1 e2 e3 hgl
              have H9 := Lib.hid H7.out
              obtain ⟨r0, r1⟩ := H9.out.ref
              go_wp2_with fail
              refine (lk_held1 H9.out.at' (by omega)).mono ?_
              rintro e w9 ⟨rfl, hw9⟩
              subst hw9
              go_wp2_with fail
              go_roundw
              case rel => exact ⟨i + 1, t, 1, true, false, by have := HI.out; omega, by have := HI.out; omega, by go_num, rfl, rfl, by unfold Cls; first | exact .inl ⟨rfl, rfl, by omega⟩ | exact .inr (.inl ⟨rfl, rfl, by omega⟩) | exact .inr (.inr (.inl ⟨rfl, rfl, by omega, by omega⟩)) | exact .inr (.inr (.inr (.inl ⟨rfl, rfl, by omega, by omega⟩))) | exact .inr (.inr (.inr (.inr ⟨rfl, rfl, by omega, by omega⟩))), by have := HT.out; omega, by have := HT.out; omega, by have := HT.out; omega, H9.out⟩
              case measure => have := HI.out; simp [intOf]; omega
          · by_cases hzn : n = z
            · as_aux_lemma =>
                subst hzn
                go_wp2_with fail
                refine (lk_yes HO.out.at' HNN.out.1 (by have := HT.out; omega) (by have := HT.out; omega) (by omega)).mono ?_
                rintro e w7 ⟨rfl, ht7, ha7⟩
                have H7 : Hid (On w w7 p a m q (t + 1) (n + 1)) := HO.out.turned ht7 ha7
                clear ht7 ha7 r0 r1 e0 e1 e2 e3 hgl
                have H9 := Lib.hid H7.out
                obtain ⟨r0, r1⟩ := H9.out.ref
                go_wp2_with fail
                refine (lk_held1 H9.out.at' (by omega)).mono ?_
                rintro e w9 ⟨rfl, hw9⟩
                subst hw9
                go_wp2_with fail
                refine (lk_check0 H9.out.at' (by omega)).mono ?_
                rintro e w10 ⟨rfl, hb10⟩
                have H10 := Lib.hid (H9.out.below hb10)
                clear hb10 r0 r1
                go_wp2_with fail
                go_roundw
                case rel => exact ⟨i + 1, t + 1, n + 1, true, true, by have := HI.out; omega, by have := HI.out; omega, by go_num, rfl, rfl, by unfold Cls; first | exact .inl ⟨rfl, rfl, by omega⟩ | exact .inr (.inl ⟨rfl, rfl, by omega⟩) | exact .inr (.inr (.inl ⟨rfl, rfl, by omega, by omega⟩)) | exact .inr (.inr (.inr (.inl ⟨rfl, rfl, by omega, by omega⟩))) | exact .inr (.inr (.inr (.inr ⟨rfl, rfl, by omega, by omega⟩))), by have := HT.out; omega, by have := HT.out; omega, by have := HT.out; omega, H10.out⟩
                case measure => have := HI.out; simp [intOf]; omega
            · as_aux_lemma =>
                go_wp2_with fail
                refine (lk_no HO.out.at' HNN.out.1 (by have := HT.out; omega) (by have := HT.out; omega) z (by omega)).mono ?_
                rintro e w7 ⟨rfl, ht7, ha7⟩
                have H7 : Hid (On w w7 p a m q (t) (n)) := HO.out.turned ht7 ha7
                clear ht7 ha7 r0 r1 e0 e1 e2 e3 hgl
                have H9 := Lib.hid H7.out
                obtain ⟨r0, r1⟩ := H9.out.ref
                go_wp2_with fail
                refine (lk_held0 H9.out.at' (by omega)).mono ?_
                rintro e w9 ⟨rfl, hw9⟩
                subst hw9
                go_wp2_with fail
                refine (lk_check0 H9.out.at' (by omega)).mono ?_
                rintro e w10 ⟨rfl, hb10⟩
                have H10 := Lib.hid (H9.out.below hb10)
                clear hb10 r0 r1
                go_wp2_with fail
                go_roundw
                case rel => exact ⟨i + 1, t, n, false, true, by have := HI.out; omega, by have := HI.out; omega, by go_num, rfl, rfl, by unfold Cls; first | exact .inl ⟨rfl, rfl, by omega⟩ | exact .inr (.inl ⟨rfl, rfl, by omega⟩) | exact .inr (.inr (.inl ⟨rfl, rfl, by omega, by omega⟩)) | exact .inr (.inr (.inr (.inl ⟨rfl, rfl, by omega, by omega⟩))) | exact .inr (.inr (.inr (.inr ⟨rfl, rfl, by omega, by omega⟩))), by have := HT.out; omega, by have := HT.out; omega, by have := HT.out; omega, H10.out⟩
                case measure => have := HI.out; simp [intOf]; omega
          · as_aux_lemma =>
              go_wp2_with fail
              refine (lk_no HO.out.at' HNN.out.1 (by have := HT.out; omega) (by have := HT.out; omega) z (by omega)).mono ?_
              rintro e w7 ⟨rfl, ht7, ha7⟩
              have H7 : Hid (On w w7 p a m q (t) (n)) := HO.out.turned ht7 ha7
              clear ht7 ha7 r0 r1 e0 e1 e2 e3 hgl
              have H9 := Lib.hid H7.out
              obtain ⟨r0, r1⟩ := H9.out.ref
              go_wp2_with fail
              refine (lk_held1 H9.out.at' (by omega)).mono ?_
              rintro e w9 ⟨rfl, hw9⟩
              subst hw9
              go_wp2_with fail
              refine (lk_check0 H9.out.at' (by omega)).mono ?_
              rintro e w10 ⟨rfl, hb10⟩
              have H10 := Lib.hid (H9.out.below hb10)
              clear hb10 r0 r1
              go_wp2_with fail
              go_roundw
              case rel => exact ⟨i + 1, t, n, true, true, by have := HI.out; omega, by have := HI.out; omega, by go_num, rfl, rfl, by unfold Cls; first | exact .inl ⟨rfl, rfl, by omega⟩ | exact .inr (.inl ⟨rfl, rfl, by omega⟩) | exact .inr (.inr (.inl ⟨rfl, rfl, by omega, by omega⟩)) | exact .inr (.inr (.inr (.inl ⟨rfl, rfl, by omega, by omega⟩))) | exact .inr (.inr (.inr (.inr ⟨rfl, rfl, by omega, by omega⟩))), by have := HT.out; omega, by have := HT.out; omega, by have := HT.out; omega, H10.out⟩
              case measure => have := HI.out; simp [intOf]; omega
          · as_aux_lemma =>
              go_wp2_with fail
              refine (lk_no HO.out.at' HNN.out.1 (by have := HT.out; omega) (by have := HT.out; omega) z (by omega)).mono ?_
              rintro e w7 ⟨rfl, ht7, ha7⟩
              have H7 : Hid (On w w7 p a m q (t) (n)) := HO.out.turned ht7 ha7
              clear ht7 ha7 r0 r1 e0 e1 e2 e3 hgl
              have H9 := Lib.hid H7.out
              obtain ⟨r0, r1⟩ := H9.out.ref
              go_wp2_with fail
              refine (lk_held0 H9.out.at' (by omega)).mono ?_
              rintro e w9 ⟨rfl, hw9⟩
              subst hw9
              go_wp2_with fail
              refine (lk_check0 H9.out.at' (by omega)).mono ?_
              rintro e w10 ⟨rfl, hb10⟩
              have H10 := Lib.hid (H9.out.below hb10)
              clear hb10 r0 r1
              go_wp2_with fail
              go_roundw
              case rel => exact ⟨i + 1, t, n, false, true, by have := HI.out; omega, by have := HI.out; omega, by go_num, rfl, rfl, by unfold Cls; first | exact .inl ⟨rfl, rfl, by omega⟩ | exact .inr (.inl ⟨rfl, rfl, by omega⟩) | exact .inr (.inr (.inl ⟨rfl, rfl, by omega, by omega⟩)) | exact .inr (.inr (.inr (.inl ⟨rfl, rfl, by omega, by omega⟩))) | exact .inr (.inr (.inr (.inr ⟨rfl, rfl, by omega, by omega⟩))), by have := HT.out; omega, by have := HT.out; omega, by have := HT.out; omega, H10.out⟩
              case measure => have := HI.out; simp [intOf]; omega
        · rcases HC.out with ⟨rfl, rfl, rfl⟩ | ⟨rfl, rfl, rfl⟩ | ⟨rfl, rfl, hn4, hm4⟩ | ⟨rfl, rfl, hn4, hm4⟩ | ⟨rfl, rfl, hn4, hm4⟩
          · as_aux_lemma =>
              go_wp2_with fail
              refine (lk_drop0 HO.out.at' HNN.out.1 (by have := HT.out; omega) (by have := HT.out; omega) (by omega)).mono ?_
              rintro e w7 ⟨rfl, ht7, ha7⟩
              have H7 : Hid (On w w7 p a m q (t) (0)) := HO.out.turned ht7 ha7
              clear ht7 ha7 r0 r1 e0 e1 e2 e3 hgl
              have H9 := Lib.hid H7.out
              obtain ⟨r0, r1⟩ := H9.out.ref
              go_wp2_with fail
              refine (lk_held0 H9.out.at' (by omega)).mono ?_
              rintro e w9 ⟨rfl, hw9⟩
              subst hw9
              go_wp2_with fail
              refine (lk_check1 H9.out.at').mono ?_
              rintro e w10 ⟨rfl, hb10⟩
              have H10 := Lib.hid (H9.out.below hb10)
              clear hb10 r0 r1
              go_wp2_with fail
              go_roundw
              case rel => exact ⟨i + 1, t, 0, false, false, by have := HI.out; omega, by have := HI.out; omega, by go_num, rfl, rfl, by unfold Cls; first | exact .inl ⟨rfl, rfl, by omega⟩ | exact .inr (.inl ⟨rfl, rfl, by omega⟩) | exact .inr (.inr (.inl ⟨rfl, rfl, by omega, by omega⟩)) | exact .inr (.inr (.inr (.inl ⟨rfl, rfl, by omega, by omega⟩))) | exact .inr (.inr (.inr (.inr ⟨rfl, rfl, by omega, by omega⟩))), by have := HT.out; omega, by have := HT.out; omega, by have := HT.out; omega, H10.out⟩
              case measure => have := HI.out; simp [intOf]; omega
          · as_aux_lemma =>
              go_wp2_with fail
              refine (lk_drop1 HO.out.at' HNN.out.1 (by have := HT.out; omega) (by have := HT.out; omega) (by omega)).mono ?_
              rintro e w7 ⟨rfl, ht7, ha7⟩
              have H7 : Hid (On w w7 p a m q (t) (1 - 1)) := HO.out.turned ht7 ha7
              clear ht7 ha7 r0 r1 e0 e1 e2 e3 hgl
              have H9 := Lib.hid H7.out
              obtain ⟨r0, r1⟩ := H9.out.ref
              go_wp2_with fail
              refine (lk_held0 H9.out.at' (by omega)).mono ?_
              rintro e w9 ⟨rfl, hw9⟩
              subst hw9
              go_wp2_with fail
              refine (lk_check1 H9.out.at').mono ?_
              rintro e w10 ⟨rfl, hb10⟩
              have H10 := Lib.hid (H9.out.below hb10)
              clear hb10 r0 r1
              go_wp2_with fail
              go_roundw
              case rel => exact ⟨i + 1, t, 1 - 1, false, false, by have := HI.out; omega, by have := HI.out; omega, by go_num, rfl, rfl, by unfold Cls; first | exact .inl ⟨rfl, rfl, by omega⟩ | exact .inr (.inl ⟨rfl, rfl, by omega⟩) | exact .inr (.inr (.inl ⟨rfl, rfl, by omega, by omega⟩)) | exact .inr (.inr (.inr (.inl ⟨rfl, rfl, by omega, by omega⟩))) | exact .inr (.inr (.inr (.inr ⟨rfl, rfl, by omega, by omega⟩))), by have := HT.out; omega, by have := HT.out; omega, by have := HT.out; omega, H10.out⟩
              case measure => have := HI.out; simp [intOf]; omega
          · as_aux_lemma =>
              go_wp2_with fail
              refine (lk_drop0 HO.out.at' HNN.out.1 (by have := HT.out; omega) (by have := HT.out; omega) (by omega)).mono ?_
              rintro e w7 ⟨rfl, ht7, ha7⟩
              have H7 : Hid (On w w7 p a m q (t) (n)) := HO.out.turned ht7 ha7
              clear ht7 ha7 r0 r1 e0 e1 e2 e3 hgl
              have H9 := Lib.hid H7.out
              obtain ⟨r0, r1⟩ := H9.out.ref
              go_wp2_with fail
              refine (lk_held0 H9.out.at' (by omega)).mono ?_
              rintro e w9 ⟨rfl, hw9⟩
              subst hw9
              go_wp2_with fail
              refine (lk_check0 H9.out.at' (by omega)).mono ?_
              rintro e w10 ⟨rfl, hb10⟩
              have H10 := Lib.hid (H9.out.below hb10)
              clear hb10 r0 r1
              go_wp2_with fail
              go_roundw
              case rel => exact ⟨i + 1, t, n, false, true, by have := HI.out; omega, by have := HI.out; omega, by go_num, rfl, rfl, by unfold Cls; first | exact .inl ⟨rfl, rfl, by omega⟩ | exact .inr (.inl ⟨rfl, rfl, by omega⟩) | exact .inr (.inr (.inl ⟨rfl, rfl, by omega, by omega⟩)) | exact .inr (.inr (.inr (.inl ⟨rfl, rfl, by omega, by omega⟩))) | exact .inr (.inr (.inr (.inr ⟨rfl, rfl, by omega, by omega⟩))), by have := HT.out; omega, by have := HT.out; omega, by have := HT.out; omega, H10.out⟩
              case measure => have := HI.out; simp [intOf]; omega
          · as_aux_lemma =>
              go_wp2_with fail
              refine (lk_drop1 HO.out.at' HNN.out.1 (by have := HT.out; omega) (by have := HT.out; omega) (by omega)).mono ?_
              rintro e w7 ⟨rfl, ht7, ha7⟩
              have H7 : Hid (On w w7 p a m q (t) (n - 1)) := HO.out.turned ht7 ha7
              clear ht7 ha7 r0 r1 e0 e1 e2 e3 hgl
              have H9 := Lib.hid H7.out
              obtain ⟨r0, r1⟩ := H9.out.ref
              go_wp2_with fail
              refine (lk_held0 H9.out.at' (by omega)).mono ?_
              rintro e w9 ⟨rfl, hw9⟩
              subst hw9
              go_wp2_with fail
              refine (lk_check0 H9.out.at' (by omega)).mono ?_
              rintro e w10 ⟨rfl, hb10⟩
              have H10 := Lib.hid (H9.out.below hb10)
              clear hb10 r0 r1
              go_wp2_with fail
              go_roundw
              case rel => exact ⟨i + 1, t, n - 1, false, true, by have := HI.out; omega, by have := HI.out; omega, by go_num, rfl, rfl, by unfold Cls; first | exact .inl ⟨rfl, rfl, by omega⟩ | exact .inr (.inl ⟨rfl, rfl, by omega⟩) | exact .inr (.inr (.inl ⟨rfl, rfl, by omega, by omega⟩)) | exact .inr (.inr (.inr (.inl ⟨rfl, rfl, by omega, by omega⟩))) | exact .inr (.inr (.inr (.inr ⟨rfl, rfl, by omega, by omega⟩))), by have := HT.out; omega, by have := HT.out; omega, by have := HT.out; omega, H10.out⟩
              case measure => have := HI.out; simp [intOf]; omega
          · as_aux_lemma =>
              go_wp2_with fail
              refine (lk_drop0 HO.out.at' HNN.out.1 (by have := HT.out; omega) (by have := HT.out; omega) (by omega)).mono ?_
              rintro e w7 ⟨rfl, ht7, ha7⟩
              have H7 : Hid (On w w7 p a m q (t) (n)) := HO.out.turned ht7 ha7
              clear ht7 ha7 r0 r1 e0 e1 e2 e3 hgl
              have H9 := Lib.hid H7.out
              obtain ⟨r0, r1⟩ := H9.out.ref
              go_wp2_with fail
              refine (lk_held0 H9.out.at' (by omega)).mono ?_
              rintro e w9 ⟨rfl, hw9⟩
              subst hw9
              go_wp2_with fail
              refine (lk_check0 H9.out.at' (by omega)).mono ?_
              rintro e w10 ⟨rfl, hb10⟩
              have H10 := Lib.hid (H9.out.below hb10)
              clear hb10 r0 r1
              go_wp2_with fail
              go_roundw
              case rel => exact ⟨i + 1, t, n, false, true, by have := HI.out; omega, by have := HI.out; omega, by go_num, rfl, rfl, by unfold Cls; first | exact .inl ⟨rfl, rfl, by omega⟩ | exact .inr (.inl ⟨rfl, rfl, by omega⟩) | exact .inr (.inr (.inl ⟨rfl, rfl, by omega, by omega⟩)) | exact .inr (.inr (.inr (.inl ⟨rfl, rfl, by omega, by omega⟩))) | exact .inr (.inr (.inr (.inr ⟨rfl, rfl, by omega, by omega⟩))), by have := HT.out; omega, by have := HT.out; omega, by have := HT.out; omega, H10.out⟩
              case measure => have := HI.out; simp [intOf]; omega
        · rcases HC.out with ⟨rfl, rfl, rfl⟩ | ⟨rfl, rfl, rfl⟩ | ⟨rfl, rfl, hn4, hm4⟩ | ⟨rfl, rfl, hn4, hm4⟩ | ⟨rfl, rfl, hn4, hm4⟩
          · as_aux_lemma =>
              go_wp2_with fail
              refine (lk_done0 HO.out.at' HNN.out.1 (by have := HT.out; omega) (by have := HT.out; omega) (by omega)).mono ?_
              rintro e w7 ⟨rfl, ht7, ha7⟩
              have H7 : Hid (On w w7 p a m q (t) (0)) := HO.out.turned ht7 ha7
              clear ht7 ha7 r0 r1 e0 e1 e2 e3 hgl
              have H9 := Lib.hid H7.out
              obtain ⟨r0, r1⟩ := H9.out.ref
              go_wp2_with fail
              refine (lk_held0 H9.out.at' (by omega)).mono ?_
              rintro e w9 ⟨rfl, hw9⟩
              subst hw9
              go_wp2_with fail
              refine (lk_check1 H9.out.at').mono ?_
              rintro e w10 ⟨rfl, hb10⟩
              have H10 := Lib.hid (H9.out.below hb10)
              clear hb10 r0 r1
              go_wp2_with fail
              go_roundw
              case rel => exact ⟨i + 1, t, 0, false, false, by have := HI.out; omega, by have := HI.out; omega, by go_num, rfl, rfl, by unfold Cls; first | exact .inl ⟨rfl, rfl, by omega⟩ | exact .inr (.inl ⟨rfl, rfl, by omega⟩) | exact .inr (.inr (.inl ⟨rfl, rfl, by omega, by omega⟩)) | exact .inr (.inr (.inr (.inl ⟨rfl, rfl, by omega, by omega⟩))) | exact .inr (.inr (.inr (.inr ⟨rfl, rfl, by omega, by omega⟩))), by have := HT.out; omega, by have := HT.out; omega, by have := HT.out; omega, H10.out⟩
              case measure => have := HI.out; simp [intOf]; omega
          · as_aux_lemma =>
              go_wp2_with fail
              refine (lk_done1 HO.out.at' HNN.out.1 (by have := HT.out; omega) (by have := HT.out; omega) (by omega) (by have := HT.out; omega)).mono ?_
              rintro e w7 ⟨rfl, ht7, ha7⟩
              have H7 : Hid (On w w7 p a m q (t) (1 + 3)) := HO.out.turned ht7 ha7
              clear ht7 ha7 r0 r1 e0 e1 e2 e3 hgl
              have H9 := Lib.hid H7.out
              obtain ⟨r0, r1⟩ := H9.out.ref
              go_wp2_with fail
              refine (lk_held0 H9.out.at' (by omega)).mono ?_
              rintro e w9 ⟨rfl, hw9⟩
              subst hw9
              go_wp2_with fail
              refine (lk_check0 H9.out.at' (by omega)).mono ?_
              rintro e w10 ⟨rfl, hb10⟩
              have H10 := Lib.hid (H9.out.below hb10)
              clear hb10 r0 r1
              go_wp2_with fail
              go_roundw
              case rel => exact ⟨i + 1, t, 1 + 3, false, true, by have := HI.out; omega, by have := HI.out; omega, by go_num, rfl, rfl, by unfold Cls; first | exact .inl ⟨rfl, rfl, by omega⟩ | exact .inr (.inl ⟨rfl, rfl, by omega⟩) | exact .inr (.inr (.inl ⟨rfl, rfl, by omega, by omega⟩)) | exact .inr (.inr (.inr (.inl ⟨rfl, rfl, by omega, by omega⟩))) | exact .inr (.inr (.inr (.inr ⟨rfl, rfl, by omega, by omega⟩))), by have := HT.out; omega, by have := HT.out; omega, by have := HT.out; omega, H10.out⟩
              case measure => have := HI.out; simp [intOf]; omega
          · as_aux_lemma =>
              go_wp2_with fail
              refine (lk_done0 HO.out.at' HNN.out.1 (by have := HT.out; omega) (by have := HT.out; omega) (by omega)).mono ?_
              rintro e w7 ⟨rfl, ht7, ha7⟩
              have H7 : Hid (On w w7 p a m q (t) (n)) := HO.out.turned ht7 ha7
              clear ht7 ha7 r0 r1 e0 e1 e2 e3 hgl
              have H9 := Lib.hid H7.out
              obtain ⟨r0, r1⟩ := H9.out.ref
              go_wp2_with fail
              refine (lk_held0 H9.out.at' (by omega)).mono ?_
              rintro e w9 ⟨rfl, hw9⟩
              subst hw9
              go_wp2_with fail
              refine (lk_check0 H9.out.at' (by omega)).mono ?_
              rintro e w10 ⟨rfl, hb10⟩
              have H10 := Lib.hid (H9.out.below hb10)
              clear hb10 r0 r1
              go_wp2_with fail
              go_roundw
              case rel => exact ⟨i + 1, t, n, false, true, by have := HI.out; omega, by have := HI.out; omega, by go_num, rfl, rfl, by unfold Cls; first | exact .inl ⟨rfl, rfl, by omega⟩ | exact .inr (.inl ⟨rfl, rfl, by omega⟩) | exact .inr (.inr (.inl ⟨rfl, rfl, by omega, by omega⟩)) | exact .inr (.inr (.inr (.inl ⟨rfl, rfl, by omega, by omega⟩))) | exact .inr (.inr (.inr (.inr ⟨rfl, rfl, by omega, by omega⟩))), by have := HT.out; omega, by have := HT.out; omega, by have := HT.out; omega, H10.out⟩
              case measure => have := HI.out; simp [intOf]; omega
          · as_aux_lemma =>
              go_wp2_with fail
              refine (lk_done1 HO.out.at' HNN.out.1 (by have := HT.out; omega) (by have := HT.out; omega) (by omega) (by have := HT.out; omega)).mono ?_
              rintro e w7 ⟨rfl, ht7, ha7⟩
              have H7 : Hid (On w w7 p a m q (t) (n + 3)) := HO.out.turned ht7 ha7
              clear ht7 ha7 r0 r1 e0 e1 e2 e3 hgl
              have H9 := Lib.hid H7.out
              obtain ⟨r0, r1⟩ := H9.out.ref
              go_wp2_with fail
              refine (lk_held0 H9.out.at' (by omega)).mono ?_
              rintro e w9 ⟨rfl, hw9⟩
              subst hw9
              go_wp2_with fail
              refine (lk_check0 H9.out.at' (by omega)).mono ?_
              rintro e w10 ⟨rfl, hb10⟩
              have H10 := Lib.hid (H9.out.below hb10)
              clear hb10 r0 r1
              go_wp2_with fail
              go_roundw
              case rel => exact ⟨i + 1, t, n + 3, false, true, by have := HI.out; omega, by have := HI.out; omega, by go_num, rfl, rfl, by unfold Cls; first | exact .inl ⟨rfl, rfl, by omega⟩ | exact .inr (.inl ⟨rfl, rfl, by omega⟩) | exact .inr (.inr (.inl ⟨rfl, rfl, by omega, by omega⟩)) | exact .inr (.inr (.inr (.inl ⟨rfl, rfl, by omega, by omega⟩))) | exact .inr (.inr (.inr (.inr ⟨rfl, rfl, by omega, by omega⟩))), by have := HT.out; omega, by have := HT.out; omega, by have := HT.out; omega, H10.out⟩
              case measure => have := HI.out; simp [intOf]; omega
          · as_aux_lemma =>
              go_wp2_with fail
              refine (lk_done0 HO.out.at' HNN.out.1 (by have := HT.out; omega) (by have := HT.out; omega) (by omega)).mono ?_
              rintro e w7 ⟨rfl, ht7, ha7⟩
              have H7 : Hid (On w w7 p a m q (t) (n)) := HO.out.turned ht7 ha7
              clear ht7 ha7 r0 r1 e0 e1 e2 e3 hgl
              have H9 := Lib.hid H7.out
              obtain ⟨r0, r1⟩ := H9.out.ref
              go_wp2_with fail
              refine (lk_held0 H9.out.at' (by omega)).mono ?_
              rintro e w9 ⟨rfl, hw9⟩
              subst hw9
              go_wp2_with fail
              refine (lk_check0 H9.out.at' (by omega)).mono ?_
              rintro e w10 ⟨rfl, hb10⟩
              have H10 := Lib.hid (H9.out.below hb10)
              clear hb10 r0 r1
              go_wp2_with fail
              go_roundw
              case rel => exact ⟨i + 1, t, n, false, true, by have := HI.out; omega, by have := HI.out; omega, by go_num, rfl, rfl, by unfold Cls; first | exact .inl ⟨rfl, rfl, by omega⟩ | exact .inr (.inl ⟨rfl, rfl, by omega⟩) | exact .inr (.inr (.inl ⟨rfl, rfl, by omega, by omega⟩)) | exact .inr (.inr (.inr (.inl ⟨rfl, rfl, by omega, by omega⟩))) | exact .inr (.inr (.inr (.inr ⟨rfl, rfl, by omega, by omega⟩))), by have := HT.out; omega, by have := HT.out; omega, by have := HT.out; omega, H10.out⟩
              case measure => have := HI.out; simp [intOf]; omega
        · have hv0 : 0 ≤ v := HV.out.1
          have hv1 : v ≤ 18446744073709551615 := by have := HV.out.2; omega
          have kv : IntKind.i64.wrap (v % 4) = v % 4 := IntWalk.i64_in _ (by omega)
          rcases HC.out with ⟨rfl, rfl, rfl⟩ | ⟨rfl, rfl, rfl⟩ | ⟨rfl, rfl, hn4, hm4⟩ | ⟨rfl, rfl, hn4, hm4⟩ | ⟨rfl, rfl, hn4, hm4⟩
          · by_cases hv : 0 < v % 4 % 4
            · as_aux_lemma =>
                go_wp2_with fail
                refine (pick_any (v % 4) 4 (by decide) (by decide) _).mono ?_
                rintro e w8 ⟨rfl, hw8⟩
                subst hw8
                clear e0 e1 e2 e3 hgl r0 r1
                go_wp2_with fail
                go_roundw
                case rel => exact ⟨i + 1, t, 0, false, false, by have := HI.out; omega, by have := HI.out; omega, by go_num, rfl, rfl, by unfold Cls; first | exact .inl ⟨rfl, rfl, by omega⟩ | exact .inr (.inl ⟨rfl, rfl, by omega⟩) | exact .inr (.inr (.inl ⟨rfl, rfl, by omega, by omega⟩)) | exact .inr (.inr (.inr (.inl ⟨rfl, rfl, by omega, by omega⟩))) | exact .inr (.inr (.inr (.inr ⟨rfl, rfl, by omega, by omega⟩))), by have := HT.out; omega, by have := HT.out; omega, by have := HT.out; omega, HO.out⟩
                case measure => have := HI.out; simp [intOf]; omega
            · as_aux_lemma =>
                go_wp2_with fail
                refine (pick_any (v % 4) 4 (by decide) (by decide) _).mono ?_
                rintro e w8 ⟨rfl, hw8⟩
                subst hw8
                go_wp2_with fail
                refine (lk_kill0 HO.out.at' HNN.out.1 (by have := HT.out; omega) (by have := HT.out; omega) (by omega)).mono ?_
                rintro e w7 ⟨rfl, ht7, ha7⟩
                have H7 : Hid (On w w7 p a m q (t) (0)) := HO.out.turned ht7 ha7
                clear ht7 ha7 r0 r1 e0 e1 e2 e3 hgl
                have H9 := Lib.hid H7.out
                obtain ⟨r0, r1⟩ := H9.out.ref
                go_wp2_with fail
                refine (lk_held0 H9.out.at' (by omega)).mono ?_
                rintro e w9 ⟨rfl, hw9⟩
                subst hw9
                go_wp2_with fail
                refine (lk_check1 H9.out.at').mono ?_
                rintro e w10 ⟨rfl, hb10⟩
                have H10 := Lib.hid (H9.out.below hb10)
                clear hb10 r0 r1
                go_wp2_with fail
                go_roundw
                case rel => exact ⟨i + 1, t, 0, false, false, by have := HI.out; omega, by have := HI.out; omega, by go_num, rfl, rfl, by unfold Cls; first | exact .inl ⟨rfl, rfl, by omega⟩ | exact .inr (.inl ⟨rfl, rfl, by omega⟩) | exact .inr (.inr (.inl ⟨rfl, rfl, by omega, by omega⟩)) | exact .inr (.inr (.inr (.inl ⟨rfl, rfl, by omega, by omega⟩))) | exact .inr (.inr (.inr (.inr ⟨rfl, rfl, by omega, by omega⟩))), by have := HT.out; omega, by have := HT.out; omega, by have := HT.out; omega, H10.out⟩
                case measure => have := HI.out; simp [intOf]; omega
          · by_cases hv : 0 < v % 4 % 4
            · as_aux_lemma =>
                go_wp2_with fail
                refine (pick_any (v % 4) 4 (by decide) (by decide) _).mono ?_
                rintro e w8 ⟨rfl, hw8⟩
                subst hw8
                clear e0 e1 e2 e3 hgl r0 r1
                go_wp2_with fail
                go_roundw
                case rel => exact ⟨i + 1, t, 1, true, false, by have := HI.out; omega, by have := HI.out; omega, by go_num, rfl, rfl, by unfold Cls; first | exact .inl ⟨rfl, rfl, by omega⟩ | exact .inr (.inl ⟨rfl, rfl, by omega⟩) | exact .inr (.inr (.inl ⟨rfl, rfl, by omega, by omega⟩)) | exact .inr (.inr (.inr (.inl ⟨rfl, rfl, by omega, by omega⟩))) | exact .inr (.inr (.inr (.inr ⟨rfl, rfl, by omega, by omega⟩))), by have := HT.out; omega, by have := HT.out; omega, by have := HT.out; omega, HO.out⟩
                case measure => have := HI.out; simp [intOf]; omega
            · as_aux_lemma =>
                go_wp2_with fail
                refine (pick_any (v % 4) 4 (by decide) (by decide) _).mono ?_
                rintro e w8 ⟨rfl, hw8⟩
                subst hw8
                go_wp2_with fail
                refine (lk_kill1 HO.out.at' HNN.out.1 (by have := HT.out; omega) (by have := HT.out; omega) (by omega) (by have := HT.out; omega)).mono ?_
                rintro e w7 ⟨rfl, ht7, ha7⟩
                have H7 : Hid (On w w7 p a m q (t) (1 + 5)) := HO.out.turned ht7 ha7
                clear ht7 ha7 r0 r1 e0 e1 e2 e3 hgl
                have H9 := Lib.hid H7.out
                obtain ⟨r0, r1⟩ := H9.out.ref
                go_wp2_with fail
                refine (lk_held0 H9.out.at' (by omega)).mono ?_
                rintro e w9 ⟨rfl, hw9⟩
                subst hw9
                go_wp2_with fail
                refine (lk_check0 H9.out.at' (by omega)).mono ?_
                rintro e w10 ⟨rfl, hb10⟩
                have H10 := Lib.hid (H9.out.below hb10)
                clear hb10 r0 r1
                go_wp2_with fail
                go_roundw
                case rel => exact ⟨i + 1, t, 1 + 5, false, true, by have := HI.out; omega, by have := HI.out; omega, by go_num, rfl, rfl, by unfold Cls; first | exact .inl ⟨rfl, rfl, by omega⟩ | exact .inr (.inl ⟨rfl, rfl, by omega⟩) | exact .inr (.inr (.inl ⟨rfl, rfl, by omega, by omega⟩)) | exact .inr (.inr (.inr (.inl ⟨rfl, rfl, by omega, by omega⟩))) | exact .inr (.inr (.inr (.inr ⟨rfl, rfl, by omega, by omega⟩))), by have := HT.out; omega, by have := HT.out; omega, by have := HT.out; omega, H10.out⟩
                case measure => have := HI.out; simp [intOf]; omega
          · by_cases hv : 0 < v % 4 % 4
            · as_aux_lemma =>
                go_wp2_with fail
                refine (pick_any (v % 4) 4 (by decide) (by decide) _).mono ?_
                rintro e w8 ⟨rfl, hw8⟩
                subst hw8
                clear e0 e1 e2 e3 hgl r0 r1
                go_wp2_with fail
                go_roundw
                case rel => exact ⟨i + 1, t, n, false, true, by have := HI.out; omega, by have := HI.out; omega, by go_num, rfl, rfl, by unfold Cls; first | exact .inl ⟨rfl, rfl, by omega⟩ | exact .inr (.inl ⟨rfl, rfl, by omega⟩) | exact .inr (.inr (.inl ⟨rfl, rfl, by omega, by omega⟩)) | exact .inr (.inr (.inr (.inl ⟨rfl, rfl, by omega, by omega⟩))) | exact .inr (.inr (.inr (.inr ⟨rfl, rfl, by omega, by omega⟩))), by have := HT.out; omega, by have := HT.out; omega, by have := HT.out; omega, HO.out⟩
                case measure => have := HI.out; simp [intOf]; omega
            · as_aux_lemma =>
                go_wp2_with fail
                refine (pick_any (v % 4) 4 (by decide) (by decide) _).mono ?_
                rintro e w8 ⟨rfl, hw8⟩
                subst hw8
                go_wp2_with fail
                refine (lk_kill0 HO.out.at' HNN.out.1 (by have := HT.out; omega) (by have := HT.out; omega) (by omega)).mono ?_
                rintro e w7 ⟨rfl, ht7, ha7⟩
                have H7 : Hid (On w w7 p a m q (t) (n)) := HO.out.turned ht7 ha7
                clear ht7 ha7 r0 r1 e0 e1 e2 e3 hgl
                have H9 := Lib.hid H7.out
                obtain ⟨r0, r1⟩ := H9.out.ref
                go_wp2_with fail
                refine (lk_held0 H9.out.at' (by omega)).mono ?_
                rintro e w9 ⟨rfl, hw9⟩
                subst hw9
                go_wp2_with fail
                refine (lk_check0 H9.out.at' (by omega)).mono ?_
                rintro e w10 ⟨rfl, hb10⟩
                have H10 := Lib.hid (H9.out.below hb10)
                clear hb10 r0 r1
                go_wp2_with fail
                go_roundw
                case rel => exact ⟨i + 1, t, n, false, true, by have := HI.out; omega, by have := HI.out; omega, by go_num, rfl, rfl, by unfold Cls; first | exact .inl ⟨rfl, rfl, by omega⟩ | exact .inr (.inl ⟨rfl, rfl, by omega⟩) | exact .inr (.inr (.inl ⟨rfl, rfl, by omega, by omega⟩)) | exact .inr (.inr (.inr (.inl ⟨rfl, rfl, by omega, by omega⟩))) | exact .inr (.inr (.inr (.inr ⟨rfl, rfl, by omega, by omega⟩))), by have := HT.out; omega, by have := HT.out; omega, by have := HT.out; omega, H10.out⟩
                case measure => have := HI.out; simp [intOf]; omega
          · by_cases hv : 0 < v % 4 % 4
            · as_aux_lemma =>
                go_wp2_with fail
                refine (pick_any (v % 4) 4 (by decide) (by decide) _).mono ?_
                rintro e w8 ⟨rfl, hw8⟩
                subst hw8
                clear e0 e1 e2 e3 hgl r0 r1
                go_wp2_with fail
                go_roundw
                case rel => exact ⟨i + 1, t, n, true, true, by have := HI.out; omega, by have := HI.out; omega, by go_num, rfl, rfl, by unfold Cls; first | exact .inl ⟨rfl, rfl, by omega⟩ | exact .inr (.inl ⟨rfl, rfl, by omega⟩) | exact .inr (.inr (.inl ⟨rfl, rfl, by omega, by omega⟩)) | exact .inr (.inr (.inr (.inl ⟨rfl, rfl, by omega, by omega⟩))) | exact .inr (.inr (.inr (.inr ⟨rfl, rfl, by omega, by omega⟩))), by have := HT.out; omega, by have := HT.out; omega, by have := HT.out; omega, HO.out⟩
                case measure => have := HI.out; simp [intOf]; omega
            · as_aux_lemma =>
                go_wp2_with fail
                refine (pick_any (v % 4) 4 (by decide) (by decide) _).mono ?_
                rintro e w8 ⟨rfl, hw8⟩
                subst hw8
                go_wp2_with fail
                refine (lk_kill1 HO.out.at' HNN.out.1 (by have := HT.out; omega) (by have := HT.out; omega) (by omega) (by have := HT.out; omega)).mono ?_
                rintro e w7 ⟨rfl, ht7, ha7⟩
                have H7 : Hid (On w w7 p a m q (t) (n + 5)) := HO.out.turned ht7 ha7
                clear ht7 ha7 r0 r1 e0 e1 e2 e3 hgl
                have H9 := Lib.hid H7.out
                obtain ⟨r0, r1⟩ := H9.out.ref
                go_wp2_with fail
                refine (lk_held0 H9.out.at' (by omega)).mono ?_
                rintro e w9 ⟨rfl, hw9⟩
                subst hw9
                go_wp2_with fail
                refine (lk_check0 H9.out.at' (by omega)).mono ?_
                rintro e w10 ⟨rfl, hb10⟩
                have H10 := Lib.hid (H9.out.below hb10)
                clear hb10 r0 r1
                go_wp2_with fail
                go_roundw
                case rel => exact ⟨i + 1, t, n + 5, false, true, by have := HI.out; omega, by have := HI.out; omega, by go_num, rfl, rfl, by unfold Cls; first | exact .inl ⟨rfl, rfl, by omega⟩ | exact .inr (.inl ⟨rfl, rfl, by omega⟩) | exact .inr (.inr (.inl ⟨rfl, rfl, by omega, by omega⟩)) | exact .inr (.inr (.inr (.inl ⟨rfl, rfl, by omega, by omega⟩))) | exact .inr (.inr (.inr (.inr ⟨rfl, rfl, by omega, by omega⟩))), by have := HT.out; omega, by have := HT.out; omega, by have := HT.out; omega, H10.out⟩
                case measure => have := HI.out; simp [intOf]; omega
          · by_cases hv : 0 < v % 4 % 4
            · as_aux_lemma =>
                go_wp2_with fail
                refine (pick_any (v % 4) 4 (by decide) (by decide) _).mono ?_
                rintro e w8 ⟨rfl, hw8⟩
                subst hw8
                clear e0 e1 e2 e3 hgl r0 r1
                go_wp2_with fail
                go_roundw
                case rel => exact ⟨i + 1, t, n, false, true, by have := HI.out; omega, by have := HI.out; omega, by go_num, rfl, rfl, by unfold Cls; first | exact .inl ⟨rfl, rfl, by omega⟩ | exact .inr (.inl ⟨rfl, rfl, by omega⟩) | exact .inr (.inr (.inl ⟨rfl, rfl, by omega, by omega⟩)) | exact .inr (.inr (.inr (.inl ⟨rfl, rfl, by omega, by omega⟩))) | exact .inr (.inr (.inr (.inr ⟨rfl, rfl, by omega, by omega⟩))), by have := HT.out; omega, by have := HT.out; omega, by have := HT.out; omega, HO.out⟩
                case measure => have := HI.out; simp [intOf]; omega
            · as_aux_lemma =>
                go_wp2_with fail
                refine (pick_any (v % 4) 4 (by decide) (by decide) _).mono ?_
                rintro e w8 ⟨rfl, hw8⟩
                subst hw8
                go_wp2_with fail
                refine (lk_kill0 HO.out.at' HNN.out.1 (by have := HT.out; omega) (by have := HT.out; omega) (by omega)).mono ?_
                rintro e w7 ⟨rfl, ht7, ha7⟩
                have H7 : Hid (On w w7 p a m q (t) (n)) := HO.out.turned ht7 ha7
                clear ht7 ha7 r0 r1 e0 e1 e2 e3 hgl
                have H9 := Lib.hid H7.out
                obtain ⟨r0, r1⟩ := H9.out.ref
                go_wp2_with fail
                refine (lk_held0 H9.out.at' (by omega)).mono ?_
                rintro e w9 ⟨rfl, hw9⟩
                subst hw9
                go_wp2_with fail
                refine (lk_check0 H9.out.at' (by omega)).mono ?_
                rintro e w10 ⟨rfl, hb10⟩
                have H10 := Lib.hid (H9.out.below hb10)
                clear hb10 r0 r1
                go_wp2_with fail
                go_roundw
                case rel => exact ⟨i + 1, t, n, false, true, by have := HI.out; omega, by have := HI.out; omega, by go_num, rfl, rfl, by unfold Cls; first | exact .inl ⟨rfl, rfl, by omega⟩ | exact .inr (.inl ⟨rfl, rfl, by omega⟩) | exact .inr (.inr (.inl ⟨rfl, rfl, by omega, by omega⟩)) | exact .inr (.inr (.inr (.inl ⟨rfl, rfl, by omega, by omega⟩))) | exact .inr (.inr (.inr (.inr ⟨rfl, rfl, by omega, by omega⟩))), by have := HT.out; omega, by have := HT.out; omega, by have := HT.out; omega, H10.out⟩
                case measure => have := HI.out; simp [intOf]; omega
    · have q1 : ¬ (i : Int) < (len : Int) := by omega
      have q3 : decide (i < len) = false := decide_eq_false hgo
      clear hgo hi hi2 hcls
      obtain ⟨r0, r1⟩ := HO.out.ref
      rcases HC.out with ⟨rfl, rfl, rfl⟩ | ⟨rfl, rfl, rfl⟩ | ⟨rfl, rfl, hn4, hm4⟩ | ⟨rfl, rfl, hn4, hm4⟩ | ⟨rfl, rfl, hn4, hm4⟩
      · as_aux_lemma =>
          go_wp2_with fail
          go_ret
          exact ⟨rfl, HO.out.low⟩
      · as_aux_lemma =>
          go_wp2_with fail
          refine (lk_no HO.out.at' HNN.out.1 (by have := HT.out; omega) (by have := HT.out; omega) 0 (by omega)).mono ?_
          rintro e v1 ⟨rfl, ht7, ha7⟩
          have E1 : Hid (On w v1 p a m q t (1)) := HO.out.turned ht7 ha7
          clear ht7 ha7 r0 r1
          obtain ⟨r0, r1⟩ := E1.out.ref
          go_wp2_with fail
          refine (lk_no E1.out.at' HNN.out.1 (by have := HT.out; omega) (by have := HT.out; omega) rd (by omega)).mono ?_
          rintro e v2 ⟨rfl, ht7, ha7⟩
          have E2 : Hid (On w v2 p a m q t (1)) := E1.out.turned ht7 ha7
          clear ht7 ha7 r0 r1
          obtain ⟨r0, r1⟩ := E2.out.ref
          go_wp2_with fail
          go_ret
          exact ⟨rfl, E2.out.low⟩
      · as_aux_lemma =>
          go_wp2_with fail
          refine (lk_no HO.out.at' HNN.out.1 (by have := HT.out; omega) (by have := HT.out; omega) 0 (by omega)).mono ?_
          rintro e v1 ⟨rfl, ht7, ha7⟩
          have E1 : Hid (On w v1 p a m q t (n)) := HO.out.turned ht7 ha7
          clear ht7 ha7 r0 r1
          obtain ⟨r0, r1⟩ := E1.out.ref
          go_wp2_with fail
          go_ret
          exact ⟨rfl, E1.out.low⟩
      · as_aux_lemma =>
          go_wp2_with fail
          refine (lk_no HO.out.at' HNN.out.1 (by have := HT.out; omega) (by have := HT.out; omega) 0 (by omega)).mono ?_
          rintro e v1 ⟨rfl, ht7, ha7⟩
          have E1 : Hid (On w v1 p a m q t (n)) := HO.out.turned ht7 ha7
          clear ht7 ha7 r0 r1
          obtain ⟨r0, r1⟩ := E1.out.ref
          go_wp2_with fail
          refine (lk_no E1.out.at' HNN.out.1 (by have := HT.out; omega) (by have := HT.out; omega) 0 (by omega)).mono ?_
          rintro e v2 ⟨rfl, ht7, ha7⟩
          have E2 : Hid (On w v2 p a m q t (n)) := E1.out.turned ht7 ha7
          clear ht7 ha7 r0 r1
          obtain ⟨r0, r1⟩ := E2.out.ref
          go_wp2_with fail
          refine (lk_no E2.out.at' HNN.out.1 (by have := HT.out; omega) (by have := HT.out; omega) rd (by omega)).mono ?_
          rintro e v3 ⟨rfl, ht7, ha7⟩
          have E3 : Hid (On w v3 p a m q t (n)) := E2.out.turned ht7 ha7
          clear ht7 ha7 r0 r1
          obtain ⟨r0, r1⟩ := E3.out.ref
          go_wp2_with fail
          go_ret
          exact ⟨rfl, E3.out.low⟩
      · as_aux_lemma =>
          go_wp2_with fail
          refine (lk_no HO.out.at' HNN.out.1 (by have := HT.out; omega) (by have := HT.out; omega) 0 (by omega)).mono ?_
          rintro e v1 ⟨rfl, ht7, ha7⟩
          have E1 : Hid (On w v1 p a m q t (n)) := HO.out.turned ht7 ha7
          clear ht7 ha7 r0 r1
          obtain ⟨r0, r1⟩ := E1.out.ref
          go_wp2_with fail
          go_ret
          exact ⟨rfl, E1.out.low⟩
end Go.Proofs.Ythhmbmeajgjhcaa
