/- The walk of remove. -/
import Derived.Test.YtioacpcmcnjgaaaEdit
namespace Go.Proofs.Ytioacpcmcnjgaaa
open Go.RowKit
set_option maxRecDepth 100000
set_option maxHeartbeats 2000000

theorem remove_any {w : World} {q : Nat} {l : List En} {room : Nat} (hR : RowAt w q l room) (i : Nat) (hi : i < l.length) :
    Calls Try.prog 34 #[.pointer (some ⟨q, 0, none⟩), .int .i64 (i : Int)] w fun e w' => e = .returned (.tuple #[]) ∧ Turned [q] w w' ∧ RowAt w' q (l.eraseIdx i) room := by
  have hlen := hR.len
  obtain ⟨n, hnn⟩ : ∃ n, l.length = n := ⟨_, rfl⟩
  obtain ⟨k, hk⟩ : ∃ k : Nat, (i : Int) + 1 = (k : Int) := ⟨i + 1, by omega⟩
  obtain ⟨o1, ho1, hoi1⟩ : ∃ o, (if 16 = k then (⟨q, 0, none⟩ : Addr) else ⟨q, k, none⟩) = ⟨q, o, none⟩ ∧ (k < n → o = k) := by
    by_cases h : 16 = k
    · exact ⟨0, by rw [if_pos h], fun h2 => by omega⟩
    · exact ⟨k, by rw [if_neg h], fun h2 => rfl⟩
  obtain ⟨o2, ho2, hoi2⟩ : ∃ o, (if 16 = k then (⟨q, 16, none⟩ : Addr) else ⟨q, 16 + k * 2, none⟩) = ⟨q, o, none⟩ ∧ (k < n → o = 16 + k * 2) := by
    by_cases h : 16 = k
    · exact ⟨16, by rw [if_pos h], fun h2 => by omega⟩
    · exact ⟨16 + k * 2, by rw [if_neg h], fun h2 => rfl⟩
  have hkl : k ≤ l.length := by omega
  -- the first copy
  have C1 := fun ty => copy_bytes (W := w.drew) (hR.same rfl) k o1 i (16 - i) (16 - i) (16 - k) hkl (fun h => hoi1 (by omega)) (by omega) (fun h => by omega) ty
  obtain ⟨w1, hw1⟩ : ∃ w1, w1 = w.drew.setCells q i (bytesOf (l.drop k)) := ⟨_, rfl⟩
  have hlen1 : (bytesOf (l.drop k)).length = l.length - k := by rw [bytesOf_length, List.length_drop]
  have is0 : ∀ j, j < 50 → (w.drew.cell? ⟨q, j, none⟩).isSome = true := fun j hj => by
    obtain ⟨v, hv, _⟩ := hR.any j hj
    show (w.cell? ⟨q, j, none⟩).isSome = true
    rw [hv]; rfl
  have cell1 : ∀ j, w1.cell? ⟨q, j, none⟩ = if i ≤ j ∧ j - i < (bytesOf (l.drop k)).length then (bytesOf (l.drop k))[j - i]? else w.cell? ⟨q, j, none⟩ := fun j => by
    rw [hw1]
    exact cell_many (W := w.drew) (fun j hj => is0 _ (by rw [hlen1] at hj; omega)) j
  have hi1 : ∀ j, l.length - 1 ≤ j → w1.cell? ⟨q, j, none⟩ = w.cell? ⟨q, j, none⟩ := fun j hj => by
    rw [cell1, if_neg]
    rintro ⟨h1, h2⟩
    rw [hlen1] at h2
    omega
  have fr1 : ∀ j, j < 50 → w1.frozen? ⟨q, j, none⟩ = false := fun j hj => by
    rw [hw1, World.frozen?_setCells]; exact hR.thaw j hj
  have is1 : ∀ j, j < 50 → (w1.cell? ⟨q, j, none⟩).isSome = true := fun j hj => by
    rw [cell1]; split
    case isTrue h => rw [List.getElem?_eq_getElem h.2]; rfl
    case isFalse => exact is0 j hj
  -- the second copy
  have hs1 : ∀ j (h : j < l.length), w1.cell? ⟨q, 16 + j * 2, none⟩ = some (.int .i64 l[j].2.1) ∧ w1.cell? ⟨q, 16 + j * 2 + 1, none⟩ = some (.int .u32 l[j].2.2) := fun j h => by
    rw [hi1 _ (by omega), hi1 _ (by omega)]; exact ⟨hR.slot j h, hR.gen j h⟩
  have C2 := fun ty => copy_refs (W := w1.drew) (q := q) (l := l) k o2 (16 + i * 2) (16 - i) (16 - i) (16 - k) hkl (fun h => hoi2 (by omega)) (by omega) (fun h => by omega) hs1 is1 fr1 ty
  obtain ⟨w2, hw2⟩ : ∃ w2, w2 = w1.drew.setCells q (16 + i * 2) (refsOf (l.drop k)) := ⟨_, rfl⟩
  have hlen2 : (refsOf (l.drop k)).length = (l.length - k) * 2 := by rw [refsOf_length, List.length_drop]
  have cell2 : ∀ j, w2.cell? ⟨q, j, none⟩ = if 16 + i * 2 ≤ j ∧ j - (16 + i * 2) < (refsOf (l.drop k)).length then (refsOf (l.drop k))[j - (16 + i * 2)]? else w1.cell? ⟨q, j, none⟩ := fun j => by
    rw [hw2]
    exact cell_many (W := w1.drew) (fun j hj => is1 _ (by rw [hlen2] at hj; omega)) j
  have fr2 : ∀ j, j < 50 → w2.frozen? ⟨q, j, none⟩ = false := fun j hj => by
    rw [hw2, World.frozen?_setCells]; exact fr1 j hj
  have is2 : ∀ j, j < 50 → (w2.cell? ⟨q, j, none⟩).isSome = true := fun j hj => by
    rw [cell2]; split
    case isTrue h => rw [List.getElem?_eq_getElem h.2]; rfl
    case isFalse => exact is1 j hj
  rw [hnn] at C1 C2
  rw [← hw1] at C1
  rw [← hw2] at C2
  have n48 : w.cell? ⟨q, 48, none⟩ = some (.int .i64 (n : Int)) := by rw [hR.n, hnn]
  have n48' : w1.cell? ⟨q, 48, none⟩ = some (.int .i64 (n : Int)) := by rw [hi1 _ (by omega), n48]
  have n48'' : w2.cell? ⟨q, 48, none⟩ = some (.int .i64 (n : Int)) := by
    rw [cell2, if_neg (by rintro ⟨h1, h2⟩; rw [hlen2] at h2; omega), n48']
  have f48 := fr2 48 (by omega)
  have T2 : Turned [q] w w2 := by
    rw [hw2, hw1]
    exact (Turned.setCells q (.inl (by simp)) _ _ (Turned.setCells q (.inl (by simp)) _ _ (Turned.refl _ _).drew).drew)
  obtain ⟨w4, hw4⟩ : ∃ w4, w4 = w2.setCell ⟨q, 48, none⟩ (.int .i64 ((n : Int) - 1)) := ⟨_, rfl⟩
  have T4 : Turned [q] w w4 := by
    rw [hw4]
    exact T2.setCell (.inl (by simp)) _ _
  have cell4 : ∀ j, w4.cell? ⟨q, j, none⟩ = if j = 48 then some (.int .i64 ((n : Int) - 1)) else w2.cell? ⟨q, j, none⟩ := fun j => by
    rw [hw4, cell_one (is2 48 (by omega))]
  have R4 : RowAt w4 q (l.eraseIdx i) room := by
    have hll : (l.eraseIdx i).length = n - 1 := by rw [List.length_eraseIdx, if_pos hi, hnn]
    have lo2 : ∀ j, j < 16 → w2.cell? ⟨q, j, none⟩ = w1.cell? ⟨q, j, none⟩ := fun j hj => by
      rw [cell2, if_neg]
      rintro ⟨h1, h2⟩
      omega
    refine ⟨by omega, fun j hj => ?_, fun j hj => ?_, fun j hj => ?_, ?_, ?_, fun j hj => ?_, fun j hj => ?_⟩
    · have hj' := hj
      rw [hll] at hj'
      rw [cell4, if_neg (by omega), lo2 j (by omega), cell1, List.getElem_eraseIdx]
      by_cases h : j < i
      · rw [if_neg (by omega), dif_pos h, hR.byte j (by omega)]
      · rw [if_pos ⟨by omega, by rw [hlen1]; omega⟩, dif_neg h]
        simp only [bytesOf, List.getElem?_map, List.getElem?_drop]
        rw [show k + (j - i) = j + 1 from by omega, List.getElem?_eq_getElem (by omega)]
        rfl
    · have hj' := hj
      rw [hll] at hj'
      rw [cell4, if_neg (by omega), cell2, List.getElem_eraseIdx]
      by_cases h : j < i
      · rw [if_neg (by omega), dif_pos h, (hs1 j (by omega)).1]
      · rw [if_pos ⟨by omega, by rw [hlen2]; omega⟩, dif_neg h]
        have := (refs_get (l.drop k) (j - i) (by rw [List.length_drop]; omega)).1
        rw [show 16 + j * 2 - (16 + i * 2) = (j - i) * 2 from by omega, this, List.getElem_drop]
        simp only [show k + (j - i) = j + 1 from by omega]
    · have hj' := hj
      rw [hll] at hj'
      rw [cell4, if_neg (by omega), cell2, List.getElem_eraseIdx]
      by_cases h : j < i
      · rw [if_neg (by omega), dif_pos h, (hs1 j (by omega)).2]
      · rw [if_pos ⟨by omega, by rw [hlen2]; omega⟩, dif_neg h]
        have := (refs_get (l.drop k) (j - i) (by rw [List.length_drop]; omega)).2
        rw [show 16 + j * 2 + 1 - (16 + i * 2) = (j - i) * 2 + 1 from by omega, this, List.getElem_drop]
        simp only [show k + (j - i) = j + 1 from by omega]
    · rw [cell4, if_pos rfl, hll]
      rw [show ((n - 1 : Nat) : Int) = (n : Int) - 1 from by omega]
    · rw [cell4, if_neg (by omega), cell2, if_neg (by rintro ⟨h1, h2⟩; rw [hlen2] at h2; omega), hi1 _ (by omega), hR.room]
    · rw [cell4]
      split
      · exact ⟨_, rfl, rfl⟩
      · rw [cell2]
        split
        case isTrue h => exact ⟨_, List.getElem?_eq_getElem h.2, refs_one _ _ (List.getElem_mem _)⟩
        case isFalse =>
          rw [cell1]
          split
          case isTrue h => exact ⟨_, List.getElem?_eq_getElem h.2, bytes_one _ _ (List.getElem_mem _)⟩
          case isFalse => exact hR.any j hj
    · rw [hw4, World.frozen?_setCell]
      exact fr2 j hj
  have H4 := Lib.hid (And.intro T4 R4)
  have HW4 := Lib.hid hw4
  clear T4 R4 hw4 cell4 T2
  have i0 : (0 : Int) ≤ (i : Int) := by omega
  have i1 : (k : Int) ≤ (n : Int) := by omega
  have n16 : (n : Int) ≤ 16 := by omega
  have n0 : (1 : Int) ≤ (n : Int) := by omega
  have k0 : (0 : Int) ≤ (k : Int) := by omega
  have k1 : (k : Int) ≤ 16 := by omega
  have i16 : (i : Int) ≤ 16 := by omega
  have e16 : (if 16 = i then (⟨q, 0, none⟩ : Addr) else ⟨q, i, none⟩) = ⟨q, i, none⟩ := if_neg (by omega)
  have e16' : (if 16 = i then (⟨q, 16, none⟩ : Addr) else ⟨q, 16 + i * 2, none⟩) = ⟨q, 16 + i * 2, none⟩ := if_neg (by omega)
  clear hR hi1 cell1 cell2 fr1 is1 is0 hs1 hw1 hw2 hlen1 hlen2 hoi1 hoi2 fr2 is2 hi hkl hlen
  go_enter Try.func34, Try.ntmps34
  go_wp2_with fail
  go_region
  go_wp2_with fail
  go_region
  go_wp2_with fail
  rw [← HW4.out]
  go_end0
  exact ⟨rfl, H4.out⟩
end Go.Proofs.Ytioacpcmcnjgaaa
