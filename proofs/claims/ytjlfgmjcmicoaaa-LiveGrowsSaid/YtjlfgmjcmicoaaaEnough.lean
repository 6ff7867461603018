/- live.Enough. -/
import Derived.Test.YtjlfgmjcmicoaaaPicks
namespace Go.Proofs.Ytjlfgmjcmicoaaa
open Go.RowKit
set_option maxRecDepth 100000

def eachZ (r : Req) : Int := if r.d = 5 then r.lim + 1 else 1
def budgetZ (r : Req) (t m : Int) : Int := max 2 ((boundZ r t + m) / eachZ r + 1)
/-- P29.3: the least budget that is enough. -/
def enoughZ (r : Req) (t m : Int) : Int := if isB r = true ∧ (0 ≤ t ∧ t ≤ 1099511627776) ∧ 0 ≤ m ∧ m ≤ 1099511627776 then (if 4096 < budgetZ r t m then 0 else budgetZ r t m) else 0

theorem inB_two (g a b : Int) : inB g [a, b] = decide ((0 ≤ a ∧ a ≤ g) ∧ 0 ≤ b ∧ b ≤ g) := by
  rw [Bool.eq_iff_iff]; simp [inB]
theorem eachZ_ge (r : Req) (h : isB r = true) : 1 ≤ eachZ r ∧ eachZ r ≤ 4097 := by
  have := (isB_of r).1 h
  unfold eachZ
  split
  · rename_i h5; have := this.2.1 h5; omega
  · omega
theorem picks_two (r : Req) (h : isB r = true) : picksZ r 2 = 2 * eachZ r := by
  have hh := (isB_of r).1 h
  unfold picksZ eachZ
  rw [if_pos ⟨by omega, hh.1⟩]
  by_cases h5 : r.d = 5
  · rw [if_pos ⟨h5, hh.2.1 h5⟩, if_pos h5]
  · rw [if_neg (fun e => h5 e.1), if_neg h5]; rfl
theorem boundZ_range (r : Req) (t : Int) (h : isB r = true) (ht : 0 ≤ t ∧ t ≤ 1099511627776) : 1 ≤ boundZ r t ∧ boundZ r t ≤ 200000000000000 := by
  have hh := (isB_of r).1 h
  have hw := (wayN_le r).1
  unfold boundZ
  rw [if_pos ⟨h, ht⟩]
  by_cases h5 : r.d = 5
  · rw [if_pos h5]
    have hl := hh.2.1 h5
    have m := mul_range (a := 36 * r.lim + t) (b := (wayN r : Int)) (A := 1099511900000) (B := 145) (by omega) (by omega) (by omega) (by omega)
    omega
  · rw [if_neg h5]
    have m := mul_range (a := t + 1) (b := (wayN r : Int)) (A := 1099511900000) (B := 145) (by omega) (by omega) (by omega) (by omega)
    omega

set_option maxHeartbeats 4000000 in
theorem enough_any (r : Req) (t m : Int) (w : World) (h : r.Ok) : Calls Try.prog 15 #[reqV r, .int .i64 t, .int .i64 m] w fun e w' => e = .returned (.int .i64 (enoughZ r t m)) ∧ Below w.heap.size w w' := by
  have HO := Lib.hid h
  have HZ : Hid (enoughZ r t m = if isB r = true ∧ (0 ≤ t ∧ t ≤ 1099511627776) ∧ 0 ≤ m ∧ m ≤ 1099511627776 then (if 4096 < budgetZ r t m then 0 else budgetZ r t m) else 0) := rfl
  obtain ⟨b, hb⟩ : ∃ b, isB r = b := ⟨_, rfl⟩
  have HB := Lib.hid hb
  clear h hb
  cases b with
  | false =>
    go_enter Try.func15, Try.ntmps15
    go_wp2_with fail
    refine (is_any r _ HO.out).mono ?_
    rw [HB.out]
    rintro e w1 ⟨rfl, hb1⟩
    go_wp2_with fail
    go_ret
    exact ⟨ret_int (by rw [HZ.out, HB.out]; rfl), Below.step ((Below.refl _ _).alloc (Nat.le_refl _) _) hb1⟩
  | true =>
    by_cases hT : (0 ≤ t ∧ t ≤ 1099511627776) ∧ 0 ≤ m ∧ m ≤ 1099511627776
    · have HI : Hid (inB 1099511627776 [t, m] = true) := by show _ = _; rw [inB_two]; simpa using hT
      have HQ : Hid (enoughZ r t m = if 4096 < budgetZ r t m then 0 else budgetZ r t m) := by show _ = _; rw [HZ.out, if_pos ⟨HB.out, hT⟩]
      have hbr := boundZ_range r t HB.out hT.1
      have her := eachZ_ge r HB.out
      have HP := Lib.hid (picks_two r HB.out)
      have HG : Hid (budgetZ r t m = max 2 ((boundZ r t + m) / eachZ r + 1)) := rfl
      obtain ⟨z, hz⟩ : ∃ z, boundZ r t = z := ⟨_, rfl⟩
      obtain ⟨x, hx⟩ : ∃ x, eachZ r = x := ⟨_, rfl⟩
      obtain ⟨g, hg⟩ : ∃ g, budgetZ r t m = g := ⟨_, rfl⟩
      rw [hz] at hbr
      rw [hx] at her
      have HZ2 := Lib.hid hz
      have HX := Lib.hid hx
      have HG2 := Lib.hid hg
      clear hz hx hg
      obtain ⟨z1, z2⟩ := hbr
      obtain ⟨x1, x2⟩ := her
      obtain ⟨-, m1, m2⟩ := hT
      have hq0 : 0 ≤ (z + m) / x := Int.ediv_nonneg (by omega) (by omega)
      have hq1 : (z + m) / x ≤ z + m := Int.ediv_le_self _ (by omega)
      go_enter Try.func15, Try.ntmps15
      go_wp2_with fail
      refine (is_any r _ HO.out).mono ?_
      rw [HB.out]
      rintro e w1 ⟨rfl, hb1⟩
      have F1 := (fresh_req w r _ rfl).below hb1
      have hB1 : Below w.heap.size w w1 := Below.step ((Below.refl _ _).alloc (Nat.le_refl _) _) hb1
      clear hb1
      go_wp2_with fail
      refine (within_any 1099511627776 [t, m] _ 2 _ (Fresh.new _ _ _ _ rfl) rfl (by omega)).mono ?_
      rw [HI.out]
      rintro e w2 ⟨rfl, rfl⟩
      have F2 := F1.alloc (.cells #[.int .i64 t, .int .i64 m] 3)
      have hB2 := Below.new hB1 (.cells #[.int .i64 t, .int .i64 m] 3)
      obtain ⟨c0, c1, c2, c3, c4, c5, c6, c7, c8, c9, c10, c11⟩ := req_cells F2
      have HF2 := Lib.hid F2
      have HB2 := Lib.hid hB2
      clear F1 F2 hB1 hB2
      go_wp2_with fail
      refine (bound_any r t _ HO.out).mono ?_
      rw [HZ2.out]
      rintro e w3 ⟨rfl, hb3⟩
      have F3 := HF2.out.below hb3
      have hB3 := Lib.hid (Below.step HB2.out hb3)
      clear c0 c1 c2 c3 c4 c5 c6 c7 c8 c9 c10 c11 hb3
      obtain ⟨c0, c1, c2, c3, c4, c5, c6, c7, c8, c9, c10, c11⟩ := req_cells F3
      clear F3
      go_wp2_with fail
      refine (picks_any r 2 _).mono ?_
      rw [HP.out, HX.out]
      rintro e w4 ⟨rfl, hb4⟩
      have e2 : (2 * x) / 2 = x := by omega
      by_cases hbig : 4096 < (z + m) / x + 1
      all_goals
        go_wp2_with fail
      all_goals
        go_ret
        refine ⟨ret_int ?_, Below.step hB3.out hb4⟩
        rw [HQ.out, HG.out, HZ2.out, HX.out]
        generalize (z + m) / x = q at *
        rw [Int.max_def]
        split <;> (try split) <;> (try split) <;> omega
    · have HI : Hid (inB 1099511627776 [t, m] = false) := by show _ = _; rw [inB_two]; simpa using hT
      have HQ : Hid (enoughZ r t m = 0) := by show _ = _; rw [HZ.out, if_neg (fun e => hT e.2)]
      clear hT
      go_enter Try.func15, Try.ntmps15
      go_wp2_with fail
      refine (is_any r _ HO.out).mono ?_
      rw [HB.out]
      rintro e w1 ⟨rfl, hb1⟩
      go_wp2_with fail
      refine (within_any 1099511627776 [t, m] _ 2 _ (Fresh.new _ _ _ _ (by simp)) rfl (by omega)).mono ?_
      rw [HI.out]
      rintro e w2 ⟨rfl, rfl⟩
      go_wp2_with fail
      go_ret
      exact ⟨ret_int (by rw [HQ.out]), Below.new (Below.step ((Below.refl _ _).alloc (Nat.le_refl _) _) hb1) _⟩

end Go.Proofs.Ytjlfgmjcmicoaaa
