/- The reference's Enough. -/
import Derived.Test.YtjlfgmjcmicoaaaRefBound
import Derived.Test.YtjlfgmjcmicoaaaEnough
namespace Go.Proofs.Ytjlfgmjcmicoaaa
open Go.RowKit
set_option maxRecDepth 100000

theorem picks_each (r : Req) (h : isB r = true) (b : Int) (hb : 2 ≤ b ∧ b ≤ 4096) : picksZ r b = b * eachZ r := by
  obtain ⟨h1, h2, _⟩ := (isB_of r).1 h
  unfold picksZ eachZ
  rw [if_pos ⟨hb, h1⟩]
  by_cases h5 : r.d = 5
  · rw [if_pos ⟨h5, h2 h5⟩, if_pos h5]
  · rw [if_neg (fun e => h5 e.1), if_neg h5, Int.mul_one]
theorem picks_gt (r : Req) (h : isB r = true) (b n : Int) (hb : 2 ≤ b ∧ b ≤ 4096) : n < picksZ r b ↔ max 2 (n / eachZ r + 1) ≤ b := by
  rw [picks_each r h b hb]
  have he := (eachZ_ge r h).1
  have := Int.ediv_lt_iff_lt_mul (a := n) (b := b) (c := eachZ r) (by omega)
  rw [← this]
  generalize n / eachZ r = q
  omega

set_option maxHeartbeats 4000000 in
theorem renough_any (r : Req) (t m : Int) (w : World) (h : r.Ok) : Calls Try.prog 19 #[reqV r, .int .i64 t, .int .i64 m] w fun e w' => e = .returned (.int .i64 (enoughZ r t m)) ∧ Below w.heap.size w w' := by
  have HO := Lib.hid h
  have HZ : Hid (enoughZ r t m = if isB r = true ∧ (0 ≤ t ∧ t ≤ 1099511627776) ∧ 0 ≤ m ∧ m ≤ 1099511627776 then (if 4096 < budgetZ r t m then 0 else budgetZ r t m) else 0) := rfl
  obtain ⟨b, hb⟩ : ∃ b, isB r = b := ⟨_, rfl⟩
  have HB := Lib.hid hb
  cases b with
  | false =>
    clear h hb
    go_enter Try.func19, Try.ntmps19
    go_wp2_with fail
    refine (ris_any r _ HO.out).mono ?_
    rw [HB.out]
    rintro e w1 ⟨rfl, hb1⟩
    go_wp2_with fail
    go_ret
    exact ⟨ret_int (by rw [HZ.out, HB.out]; rfl), Below.step ((Below.refl _ _).alloc (Nat.le_refl _) _) hb1⟩
  | true =>
    by_cases ht : 0 ≤ t ∧ t ≤ 1099511627776
    · have Q1 : Hid (decide (0 ≤ t ∧ t ≤ 1099511627776) = true) := by show _ = _; rw [decide_eq_true_iff]; exact ht
      by_cases hm : 0 ≤ m ∧ m ≤ 1099511627776
      · have Q2 : Hid (decide (0 ≤ m ∧ m ≤ 1099511627776) = true) := by show _ = _; rw [decide_eq_true_iff]; exact hm
        have hbr := boundZ_range r t hb ht
        obtain ⟨z, hz⟩ : ∃ z, boundZ r t = z := ⟨_, rfl⟩
        rw [hz] at hbr
        have HZ2 := Lib.hid hz
        obtain ⟨B, hBe⟩ : ∃ B, budgetZ r t m = B := ⟨_, rfl⟩
        have HP : Hid (∀ k : Int, 2 ≤ k ∧ k ≤ 4096 → (z + m < picksZ r k ↔ B ≤ k)) := fun k hk => by
          rw [picks_gt r hb k (z + m) hk, ← hBe, budgetZ, hz]
        have hB2 : 2 ≤ B := by rw [← hBe, budgetZ]; omega
        have HE : Hid (enoughZ r t m = if 4096 < B then 0 else B) := by show _ = _; rw [HZ.out, if_pos ⟨hb, ht, hm⟩, hBe]
        obtain ⟨z1, z2⟩ := hbr
        obtain ⟨m1, m2⟩ := hm
        clear hz hBe hb h ht
        have HB2 := Lib.hid hB2
        clear hB2
        go_enter Try.func19, Try.ntmps19
        go_wp2_with fail
        refine (ris_any r _ HO.out).mono ?_
        rw [HB.out]
        rintro e w1 ⟨rfl, hb1⟩
        have F1 := (fresh_req w r _ rfl).below hb1
        have HF1 := Lib.hid F1
        have hB1 := Lib.hid (Below.step ((Below.refl w.heap.size w).alloc (Nat.le_refl _) _) hb1)
        obtain ⟨c0, c1, c2, c3, c4, c5, c6, c7, c8, c9, c10, c11⟩ := req_cells F1
        clear F1 hb1
        go_wp2_with fail
        refine (rsmall_any t _).mono ?_
        rw [Q1.out]
        rintro e w2 ⟨rfl, rfl⟩
        go_wp2_with fail
        refine (rsmall_any m _).mono ?_
        rw [Q2.out]
        rintro e w2 ⟨rfl, rfl⟩
        go_wp2_with fail
        refine (rbound_any r t _ HO.out).mono ?_
        rw [HZ2.out]
        rintro e W ⟨rfl, hb3⟩
        have HF := Lib.hid (HF1.out.below hb3)
        have HBw := Lib.hid (Below.step hB1.out hb3)
        clear c0 c1 c2 c3 c4 c5 c6 c7 c8 c9 c10 c11 hb3
        go_wp2_with fail
        go_loopw [8] (fun b wr => ∃ k : Nat, 2 ≤ k ∧ k ≤ 4097 ∧ (k : Int) ≤ B ∧ b = .int .i64 k ∧ Below W.heap.size W wr) (fun b _ => 4097 - (intOf b).toNat)
        case atStart => exact ⟨2, by omega, by omega, HB2.out, rfl, Below.refl _ _⟩
        case round =>
          obtain ⟨k, k2, k3, kB, rfl, hBr⟩ := hrel
          obtain ⟨c0, c1, c2, c3, c4, c5, c6, c7, c8, c9, c10, c11⟩ := req_cells (HF.out.below hBr)
          by_cases hk : k ≤ 4096
          · have hkI : (k : Int) ≤ 4096 := by omega
            have hiff := HP.out k (by omega)
            obtain ⟨pb, hpb⟩ : ∃ pb, picksZ r k = pb := ⟨_, rfl⟩
            have HPb := Lib.hid hpb
            rw [hpb] at hiff
            clear hpb
            by_cases hge : B ≤ (k : Int)
            · have hgt : z + m < pb := hiff.2 hge
              clear hiff
              go_wp2_with fail
              refine (rpicks_any r k _).mono ?_
              rw [HPb.out]
              rintro e w3 ⟨rfl, hb3⟩
              go_wp2_with fail
              go_ret
              exact ⟨ret_int (by rw [HE.out, if_neg (by omega)]; omega), Below.step HBw.out (Below.step hBr hb3)⟩
            · have hle : pb ≤ z + m := by have := mt hiff.1 hge; omega
              clear hiff
              go_wp2_with fail
              refine (rpicks_any r k _).mono ?_
              rw [HPb.out]
              rintro e w3 ⟨rfl, hb3⟩
              have hB3 := Below.step hBr hb3
              go_wp2_with fail
              go_roundw
              case rel => exact ⟨k + 1, by omega, by omega, by omega, by go_num, hB3⟩
              case measure => simp [intOf]; omega
          · obtain rfl : k = 4097 := by omega
            rw [show ((4097 : Nat) : Int) = 4097 from rfl] at *
            go_wp2_with fail
            go_ret
            exact ⟨ret_int (by rw [HE.out, if_pos (by omega)]), Below.step HBw.out hBr⟩
      · have Q2 : Hid (decide (0 ≤ m ∧ m ≤ 1099511627776) = false) := by show _ = _; rw [decide_eq_false_iff_not]; exact hm
        have HE : Hid (enoughZ r t m = 0) := by show _ = _; rw [HZ.out, if_neg (fun e => hm e.2.2)]
        clear hm ht hb h
        go_enter Try.func19, Try.ntmps19
        go_wp2_with fail
        refine (ris_any r _ HO.out).mono ?_
        rw [HB.out]
        rintro e w1 ⟨rfl, hb1⟩
        have hB1 := Lib.hid (Below.step ((Below.refl w.heap.size w).alloc (Nat.le_refl _) _) hb1)
        clear hb1
        go_wp2_with fail
        refine (rsmall_any t _).mono ?_
        rw [Q1.out]
        rintro e w2 ⟨rfl, rfl⟩
        go_wp2_with fail
        refine (rsmall_any m _).mono ?_
        rw [Q2.out]
        rintro e w2 ⟨rfl, rfl⟩
        go_wp2_with fail
        go_ret
        exact ⟨ret_int (by rw [HE.out]), hB1.out⟩
    · have Q1 : Hid (decide (0 ≤ t ∧ t ≤ 1099511627776) = false) := by show _ = _; rw [decide_eq_false_iff_not]; exact ht
      have HE : Hid (enoughZ r t m = 0) := by show _ = _; rw [HZ.out, if_neg (fun e => ht e.2.1)]
      clear ht hb h
      go_enter Try.func19, Try.ntmps19
      go_wp2_with fail
      refine (ris_any r _ HO.out).mono ?_
      rw [HB.out]
      rintro e w1 ⟨rfl, hb1⟩
      have hB1 := Lib.hid (Below.step ((Below.refl w.heap.size w).alloc (Nat.le_refl _) _) hb1)
      clear hb1
      go_wp2_with fail
      refine (rsmall_any t _).mono ?_
      rw [Q1.out]
      rintro e w2 ⟨rfl, rfl⟩
      go_wp2_with fail
      go_ret
      exact ⟨ret_int (by rw [HE.out]), hB1.out⟩

end Go.Proofs.Ytjlfgmjcmicoaaa
