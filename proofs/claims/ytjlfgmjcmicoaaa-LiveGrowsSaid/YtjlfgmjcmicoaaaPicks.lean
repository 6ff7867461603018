/- op.Picks, and the reference's; live.Enough. -/
import Derived.Test.YtjlfgmjcmicoaaaBound
namespace Go.Proofs.Ytjlfgmjcmicoaaa
open Go.RowKit
set_option maxRecDepth 100000

theorem isLimit_any (n : Int) (w : World) : Calls Try.prog 24 #[.int .i64 n] w fun e w' => e = .returned (.bool (decide (0 ≤ n ∧ n ≤ 4096))) ∧ w' = w := by
  by_cases h : 0 ≤ n
  all_goals
    go_enter Try.func24, Try.ntmps24
    go_wp2
    go_ret
    exact ⟨ret_bool (by first | (simp [h]; done) | (simp; omega)), rfl⟩

/-- P22.1: the picks that an op takes. -/
def picksZ (r : Req) (b : Int) : Int := if (2 ≤ b ∧ b ≤ 4096) ∧ 1 ≤ r.d ∧ r.d ≤ 5 then (if r.d = 5 ∧ 0 ≤ r.lim ∧ r.lim ≤ 4096 then b * (r.lim + 1) else b) else 0

set_option maxHeartbeats 4000000 in
theorem picks_any (r : Req) (b : Int) (w : World) : Calls Try.prog 16 #[reqV r, .int .i64 b] w fun e w' => e = .returned (.int .i64 (picksZ r b)) ∧ Below w.heap.size w w' := by
  have HZ : Hid (picksZ r b = if (2 ≤ b ∧ b ≤ 4096) ∧ 1 ≤ r.d ∧ r.d ≤ 5 then (if r.d = 5 ∧ 0 ≤ r.lim ∧ r.lim ≤ 4096 then b * (r.lim + 1) else b) else 0) := rfl
  by_cases hall : (2 ≤ b ∧ b ≤ 4096) ∧ 1 ≤ r.d ∧ r.d ≤ 5
  · by_cases h5 : r.d = 5
    · have q5 : (r.d == 5) = true := by simp [h5]
      by_cases hl : 0 ≤ r.lim ∧ r.lim ≤ 4096
      · have HQ : Hid (picksZ r b = b * (r.lim + 1)) := by show _ = _; rw [HZ.out, if_pos hall, if_pos ⟨h5, hl⟩]
        have HD : Hid (decide (0 ≤ r.lim ∧ r.lim ≤ 4096) = true) := by show _ = _; simpa using hl
        obtain ⟨⟨b1, b2⟩, d1, d2⟩ := hall
        obtain ⟨l1, l2⟩ := hl
        obtain ⟨m1, m2⟩ := mul_range (a := b) (b := r.lim + 1) (A := 4096) (B := 4097) (by omega) (by omega) (by omega) (by omega)
        clear h5
        go_enter Try.func16, Try.ntmps16
        go_wp2_with fail
        refine (isLimit_any _ _).mono ?_
        rw [HD.out]
        rintro e w1 ⟨rfl, rfl⟩
        go_wp2_with fail
        go_ret
        exact ⟨ret_int (by rw [HQ.out]), (Below.refl _ _).alloc (Nat.le_refl _) _⟩
      · have HQ : Hid (picksZ r b = b) := by show _ = _; rw [HZ.out, if_pos hall, if_neg (fun e => hl e.2)]
        have HD : Hid (decide (0 ≤ r.lim ∧ r.lim ≤ 4096) = false) := by show _ = _; simpa using hl
        obtain ⟨⟨b1, b2⟩, d1, d2⟩ := hall
        clear h5 hl
        go_enter Try.func16, Try.ntmps16
        go_wp2_with fail
        refine (isLimit_any _ _).mono ?_
        rw [HD.out]
        rintro e w1 ⟨rfl, rfl⟩
        go_wp2_with fail
        go_ret
        exact ⟨ret_int (by rw [HQ.out]), (Below.refl _ _).alloc (Nat.le_refl _) _⟩
    · have q5 : (r.d == 5) = false := by simp [h5]
      have HQ : Hid (picksZ r b = b) := by show _ = _; rw [HZ.out, if_pos hall, if_neg (fun e => h5 e.1)]
      obtain ⟨⟨b1, b2⟩, d1, d2⟩ := hall
      clear h5
      go_enter Try.func16, Try.ntmps16
      go_wp2_with fail
      go_ret
      exact ⟨ret_int (by rw [HQ.out]), (Below.refl _ _).alloc (Nat.le_refl _) _⟩
  · have HQ : Hid (picksZ r b = 0) := by show _ = _; rw [HZ.out, if_neg hall]
    rcases (show b < 2 ∨ (2 ≤ b ∧ 4096 < b) ∨ (2 ≤ b ∧ b ≤ 4096 ∧ r.d < 1) ∨ (2 ≤ b ∧ b ≤ 4096 ∧ 1 ≤ r.d ∧ 5 < r.d) from by omega) with h | ⟨h, h'⟩ | ⟨h, h', h''⟩ | ⟨h, h', h'', h3⟩
    all_goals
      clear hall
      go_enter Try.func16, Try.ntmps16
      go_wp2_with fail
      go_ret
      exact ⟨ret_int (by rw [HQ.out]), (Below.refl _ _).alloc (Nat.le_refl _) _⟩

set_option maxHeartbeats 4000000 in
theorem rpicks_any (r : Req) (b : Int) (w : World) : Calls Try.prog 26 #[reqV r, .int .i64 b] w fun e w' => e = .returned (.int .i64 (picksZ r b)) ∧ Below w.heap.size w w' := by
  have HZ : Hid (picksZ r b = if (2 ≤ b ∧ b ≤ 4096) ∧ 1 ≤ r.d ∧ r.d ≤ 5 then (if r.d = 5 ∧ 0 ≤ r.lim ∧ r.lim ≤ 4096 then b * (r.lim + 1) else b) else 0) := rfl
  by_cases hall : (2 ≤ b ∧ b ≤ 4096) ∧ 1 ≤ r.d ∧ r.d ≤ 5
  · by_cases h5 : r.d = 5
    · have q5 : (r.d == 5) = true := by simp [h5]
      by_cases hl : 0 ≤ r.lim ∧ r.lim ≤ 4096
      · have HQ : Hid (picksZ r b = b * (r.lim + 1)) := by show _ = _; rw [HZ.out, if_pos hall, if_pos ⟨h5, hl⟩]
        obtain ⟨⟨b1, b2⟩, d1, d2⟩ := hall
        obtain ⟨l1, l2⟩ := hl
        obtain ⟨m1, m2⟩ := mul_range (a := b) (b := r.lim + 1) (A := 4096) (B := 4097) (by omega) (by omega) (by omega) (by omega)
        clear h5
        go_enter Try.func26, Try.ntmps26
        go_wp2_with fail
        go_ret
        exact ⟨ret_int (by rw [HQ.out]), (Below.refl _ _).alloc (Nat.le_refl _) _⟩
      · have HQ : Hid (picksZ r b = b) := by show _ = _; rw [HZ.out, if_pos hall, if_neg (fun e => hl e.2)]
        obtain ⟨⟨b1, b2⟩, d1, d2⟩ := hall
        clear h5
        rcases (show r.lim < 0 ∨ (0 ≤ r.lim ∧ 4096 < r.lim) from by omega) with hl | ⟨hl, hl'⟩
        all_goals
          go_enter Try.func26, Try.ntmps26
          go_wp2_with fail
          go_ret
          exact ⟨ret_int (by rw [HQ.out]), (Below.refl _ _).alloc (Nat.le_refl _) _⟩
    · have q5 : (r.d == 5) = false := by simp [h5]
      have HQ : Hid (picksZ r b = b) := by show _ = _; rw [HZ.out, if_pos hall, if_neg (fun e => h5 e.1)]
      obtain ⟨⟨b1, b2⟩, d1, d2⟩ := hall
      clear h5
      go_enter Try.func26, Try.ntmps26
      go_wp2_with fail
      go_ret
      exact ⟨ret_int (by rw [HQ.out]), (Below.refl _ _).alloc (Nat.le_refl _) _⟩
  · have HQ : Hid (picksZ r b = 0) := by show _ = _; rw [HZ.out, if_neg hall]
    rcases (show r.d < 1 ∨ (1 ≤ r.d ∧ 5 < r.d) ∨ (1 ≤ r.d ∧ r.d ≤ 5 ∧ b < 2) ∨ (1 ≤ r.d ∧ r.d ≤ 5 ∧ 2 ≤ b ∧ 4096 < b) from by omega) with h | ⟨h, h'⟩ | ⟨h, h', h''⟩ | ⟨h, h', h'', h3⟩
    all_goals
      clear hall
      go_enter Try.func26, Try.ntmps26
      go_wp2_with fail
      go_ret
      exact ⟨ret_int (by rw [HQ.out]), (Below.refl _ _).alloc (Nat.le_refl _) _⟩

end Go.Proofs.Ytjlfgmjcmicoaaa
