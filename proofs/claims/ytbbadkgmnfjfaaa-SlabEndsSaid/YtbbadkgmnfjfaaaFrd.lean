/- A full slab of 4096 places whose first places are freed one after the other. -/
import Derived.Test.YtbbadkgmnfjfaaaRowD
import Derived.Test.YtbbadkgmnfjfaaaNone
import Derived.Test.YtbbadkgmnfjfaaaLeast
namespace Go.Proofs.Ytbbadkgmnfjfaaa
open Go.RowKit
set_option maxRecDepth 100000
set_option maxHeartbeats 8000000

def frd : Nat → Sb
  | 0 => filled (.int .i64 0) intF 4096 4096
  | m + 1 => relSb (.int .i64 0) (frd m) m 1
theorem frd_len : ∀ m, (frd m).l.length = 4096
  | 0 => filled_len _ _ _ _ (Nat.le_refl _)
  | m + 1 => by
    show (List.set _ _ _).length = _
    rw [List.length_set]
    exact frd_len m
theorem frd_num : ∀ m, (frd m).len = 4096 - (m : Int) ∧ (frd m).left = (m : Int)
  | 0 => ⟨rfl, rfl⟩
  | m + 1 => by
    obtain ⟨h1, h2⟩ := frd_num m
    refine ⟨?_, ?_⟩
    · show (frd m).len - 1 = _
      rw [h1]; omega
    · show (if (1 : Int) < 4294967295 then (frd m).left + 1 else (frd m).left) = _
      rw [if_pos (by decide), h2]; omega
theorem frd_at : ∀ (m j : Nat), j < 4096 → (frd m).l[j]? = some (if j < m then ⟨.int .i64 0, 1, false⟩ else ⟨intF j, 1, true⟩)
  | 0, j, h => by rw [if_neg (by omega)]; exact filled_old _ _ _ _ _ h
  | m + 1, j, h => by
    have hl := frd_len m
    show ((frd m).l.set m ⟨.int .i64 0, 1, false⟩)[j]? = _
    rw [List.getElem?_set]
    by_cases e : m = j
    · subst e
      rw [if_pos rfl, if_pos (by omega), if_pos (by omega)]
    · rw [if_neg e, frd_at m j h]
      by_cases h1 : j < m
      · rw [if_pos h1, if_pos (by omega)]
      · rw [if_neg h1, if_neg (by omega)]
theorem frd_free {W : World} {p a g : Nat} (m j : Nat) (hj : j ≤ m) (hm : m < 4096) (h : Si.At W p a g (frd m)) : ∃ v : Int,
    Calls Try.prog 14 #[.pointer (some ⟨p, 0, none⟩), refV (j : Int) 1] W fun e w' => e = .returned (.int .i64 v) ∧ Turned [a, g] W w' ∧ Si.At w' p a g (frd (if j = m then m + 1 else m)) := by
  have hl := frd_len m
  obtain ⟨n1, n2⟩ := frd_num m
  have ht := frd_at m j (by omega)
  by_cases e : j = m
  · subst e
    rw [if_neg (by omega)] at ht
    rw [if_pos rfl]
    exact ⟨0, Si.free_some h j 1 (by omega) (by omega) (by omega) j _ (live_at ht rfl) ht⟩
  · rw [if_pos (by omega)] at ht
    rw [if_neg e]
    refine ⟨5, (Si.free_none h j 1 (by omega) ?_).mono fun e w' ⟨he, hb⟩ => ⟨he, Turned.of_below hb, h.below hb⟩⟩
    unfold liveAt
    rw [if_pos ⟨by omega, by omega⟩, show (j : Int).toNat = j by omega, ht]
    rfl
theorem frd_free' {W : World} {p a g : Nat} (m j m' : Nat) (x : Int) (hx : x = (j : Int)) (hm' : m' = if j = m then m + 1 else m) (hj : j ≤ m) (hm : m < 4096) (h : Si.At W p a g (frd m)) : ∃ v : Int,
    Calls Try.prog 14 #[.pointer (some ⟨p, 0, none⟩), refV x 1] W fun e w' => e = .returned (.int .i64 v) ∧ Turned [a, g] W w' ∧ Si.At w' p a g (frd m') := by
  subst hx hm'
  exact frd_free m j hj hm h
theorem ut_full : ∀ k, k ≤ 4096 → (Si.ut (frd 0).l 0 k).length = k
  | 0, _ => rfl
  | k + 1, h => by
    rw [Si.ut, if_pos ⟨Nat.zero_le _, by rw [frd_at 0 k (by omega)]; rfl⟩, List.length_append, ut_full k (by omega)]
    rfl
theorem ut_all {xs : List Nat} (h : xs = Si.ut (frd 0).l 0 (frd 0).l.length) : xs.length = 4096 := by
  have h1 := frd_len 0
  obtain ⟨N, hN⟩ : ∃ N, (frd 0).l.length = N := ⟨_, rfl⟩
  rw [hN] at h h1
  rw [h, ut_full N (by omega)]
  exact h1
theorem next_full {pre : List Nat} {x : Nat} (h : Si.NextT (frd 0) 0 (pre ++ [x])) : x = pre.length ∧ x < 4096 ∧ Si.at0 (frd 0) x = ⟨intF x, 1, true⟩ := by
  obtain ⟨k, t, h1, _, _, h3⟩ := h
  obtain ⟨h4, h5⟩ := List.append_inj' h3 rfl
  simp only [List.cons.injEq, and_true] at h5
  subst h5
  have hk : x < 4096 := by have := (List.getElem?_eq_some_iff.1 h1).1; rwa [frd_len] at this
  refine ⟨by rw [h4, ut_full x (by omega)], hk, ?_⟩
  have := frd_at 0 x hk
  rw [if_neg (by omega)] at this
  exact Si.at0_some this
theorem frd_ints : Ints (frd 0) := fun j t hj => by
  have hk : j < 4096 := by have := (List.getElem?_eq_some_iff.1 hj).1; rwa [frd_len] at this
  have := frd_at 0 j hk
  rw [if_neg (by omega), hj] at this
  cases this
  exact ⟨j, rfl⟩
end Go.Proofs.Ytbbadkgmnfjfaaa
