/- The reference's Is, and small. -/
import Derived.Test.YtjlfgmjcmicoaaaIs
namespace Go.Proofs.Ytjlfgmjcmicoaaa
open Go.RowKit
set_option maxRecDepth 100000

theorem isB_of (r : Req) : isB r = true ↔ (1 ≤ r.d ∧ r.d ≤ 5) ∧ (r.d = 5 → 0 ≤ r.lim ∧ r.lim ≤ 4096) ∧ r.key.size ≤ 16 ∧ r.val.size ≤ 32 ∧ r.old.size ≤ 32 := by
  unfold isB
  simp only [Bool.and_eq_true, Bool.or_eq_true, decide_eq_true_eq, bne_iff_ne, ne_eq]
  constructor
  · rintro ⟨⟨⟨⟨h1, h2⟩, h3⟩, h4⟩, h5⟩
    exact ⟨h1, fun h => h2.elim (fun h2 => absurd h h2) id, h3, h4, h5⟩
  · rintro ⟨h1, h2, h3, h4, h5⟩
    refine ⟨⟨⟨⟨h1, ?_⟩, h3⟩, h4⟩, h5⟩
    by_cases h : r.d = 5
    · exact .inr (h2 h)
    · exact .inl h
theorem isB_no (r : Req) (h : ¬ ((1 ≤ r.d ∧ r.d ≤ 5) ∧ (r.d = 5 → 0 ≤ r.lim ∧ r.lim ≤ 4096) ∧ r.key.size ≤ 16 ∧ r.val.size ≤ 32 ∧ r.old.size ≤ 32)) : isB r = false := by
  cases e : isB r with
  | false => rfl
  | true => exact absurd ((isB_of r).1 e) h

set_option maxHeartbeats 4000000 in
theorem ris_any (r : Req) (w : World) (h : r.Ok) : Calls Try.prog 17 #[reqV r] w fun e w' => e = .returned (.bool (isB r)) ∧ Below w.heap.size w w' := by
  have HN := Lib.hid (isB_no r)
  have HY := Lib.hid (isB_of r).2
  obtain ⟨d, ht, hg, hr, key, val, old, lim, ten, qk, qb, rts⟩ := r
  obtain ⟨h1, h2, h3, h4, h5⟩ := h
  dsimp only at h1 h2 h3 h4 h5 HN HY
  generalize isB _ = res at *
  obtain ⟨dl, du⟩ := h4
  clear h5
  unfold maxLen at h1 h2 h3
  by_cases hall : (1 ≤ d ∧ d ≤ 5) ∧ (d = 5 → 0 ≤ lim ∧ lim ≤ 4096) ∧ key.size ≤ 16 ∧ val.size ≤ 32 ∧ old.size ≤ 32
  · have HR := Lib.hid (HY.out hall)
    obtain ⟨⟨a1, a2⟩, a3, a4, a5, a6⟩ := hall
    by_cases h5 : d = 5
    · subst h5
      obtain ⟨b1, b2⟩ := a3 rfl
      clear a3
      go_enter Try.func17, Try.ntmps17
      go_wp2_with fail
      go_ret
      exact ⟨ret_bool (by rw [HR.out]), (Below.refl _ _).alloc (Nat.le_refl _) _⟩
    · have q5 : ((d : Int) != 5) = true := by simp; omega
      clear a3 h5
      go_enter Try.func17, Try.ntmps17
      go_wp2_with fail
      go_ret
      exact ⟨ret_bool (by rw [HR.out]), (Below.refl _ _).alloc (Nat.le_refl _) _⟩
  · have HR := Lib.hid (HN.out hall)
    have hc : d < 1 ∨ (1 ≤ d ∧ 5 < d) ∨ ((1 ≤ d ∧ d ≤ 5) ∧ (16 < key.size ∨ (key.size ≤ 16 ∧ 32 < val.size) ∨ (key.size ≤ 16 ∧ val.size ≤ 32 ∧ 32 < old.size) ∨ (key.size ≤ 16 ∧ val.size ≤ 32 ∧ old.size ≤ 32 ∧ d = 5 ∧ (lim < 0 ∨ (0 ≤ lim ∧ 4096 < lim))))) := by
      by_cases c1 : d < 1
      · exact .inl c1
      by_cases c2 : 5 < d
      · exact .inr (.inl ⟨by omega, c2⟩)
      refine .inr (.inr ⟨⟨by omega, by omega⟩, ?_⟩)
      by_cases c3 : 16 < key.size
      · exact .inl c3
      by_cases c4 : 32 < val.size
      · exact .inr (.inl ⟨by omega, c4⟩)
      by_cases c5 : 32 < old.size
      · exact .inr (.inr (.inl ⟨by omega, by omega, c5⟩))
      refine .inr (.inr (.inr ⟨by omega, by omega, by omega, ?_⟩))
      by_cases c6 : d = 5
      · refine ⟨c6, ?_⟩
        by_cases c7 : lim < 0
        · exact .inl c7
        · refine .inr ⟨by omega, ?_⟩
          by_cases c8 : 4096 < lim
          · exact c8
          · exact absurd ⟨⟨by omega, by omega⟩, fun _ => ⟨by omega, by omega⟩, by omega, by omega, by omega⟩ hall
      · exact absurd ⟨⟨by omega, by omega⟩, fun h => absurd h c6, by omega, by omega, by omega⟩ hall
    clear hall HN HY
    rcases hc with c | ⟨c, c'⟩ | ⟨⟨k1, k2⟩, c | ⟨c, c'⟩ | ⟨c, c', c''⟩ | ⟨c, c', c'', rfl, c3 | ⟨c3, c4⟩⟩⟩
    all_goals
      go_enter Try.func17, Try.ntmps17
      go_wp2_with fail
      go_ret
      exact ⟨ret_bool (by rw [HR.out] <;> (simp <;> omega)), (Below.refl _ _).alloc (Nat.le_refl _) _⟩

end Go.Proofs.Ytjlfgmjcmicoaaa
