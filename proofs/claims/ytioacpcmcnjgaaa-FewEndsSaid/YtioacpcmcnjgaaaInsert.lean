/- The walk of insert. -/
import Derived.Test.YtioacpcmcnjgaaaEdit
namespace Go.Proofs.Ytioacpcmcnjgaaa
open Go.RowKit
set_option maxRecDepth 100000
set_option maxHeartbeats 2000000

theorem insert_any {w : World} {q : Nat} {l : List En} {room : Nat} (hR : RowAt w q l room) (hn : l.length < 16) (i : Nat) (hi : i ≤ l.length) (b : UInt8) (s g : Int) :
    Calls Try.prog 31 #[.pointer (some ⟨q, 0, none⟩), .int .i64 (i : Int), .int .u8 (b.toNat : Int), .agg #[.int .i64 s, .int .u32 g]] w fun e w' => e = .returned (.tuple #[]) ∧ Turned [q] w w' ∧ RowAt w' q (l.insertIdx i (b, s, g)) room := by
  obtain ⟨w0, hw0⟩ : ∃ w0, w0 = w.alloc (.cells #[.int .i64 s, .int .u32 g] 35) := ⟨_, rfl⟩
  have hB0 : Below w.heap.size w w0 := by rw [hw0]; exact Below.new (Below.refl _ _) _
  have hbox : Fresh w0 w.heap.size #[.int .i64 s, .int .u32 g] 35 := by rw [hw0]; exact Fresh.new _ _ _ _ rfl
  have hR0 := hR.below hB0
  have hqb : q < w.heap.size := hR.lt
  obtain ⟨n, hnn⟩ : ∃ n, l.length = n := ⟨_, rfl⟩
  obtain ⟨k, hk⟩ : ∃ k : Nat, (i : Int) + 1 = (k : Int) := ⟨i + 1, by omega⟩
  obtain ⟨o1, ho1, hoi1⟩ : ∃ o, (if 16 = k then (⟨q, 0, none⟩ : Addr) else ⟨q, k, none⟩) = ⟨q, o, none⟩ ∧ (i < n → o = i + 1) := by
    by_cases h : 16 = k
    · exact ⟨0, by rw [if_pos h], fun h2 => by omega⟩
    · exact ⟨k, by rw [if_neg h], fun h2 => by omega⟩
  obtain ⟨o2, ho2, hoi2⟩ : ∃ o, (if 16 = k then (⟨q, 16, none⟩ : Addr) else ⟨q, 16 + k * 2, none⟩) = ⟨q, o, none⟩ ∧ (i < n → o = 16 + (i + 1) * 2) := by
    by_cases h : 16 = k
    · exact ⟨16, by rw [if_pos h], fun h2 => by omega⟩
    · exact ⟨16 + k * 2, by rw [if_neg h], fun h2 => by omega⟩
  -- the first copy
  have C1 := fun ty => copy_bytes (W := w0.drew) (hR0.same rfl) i i o1 (16 - k) (16 - k) (16 - i) hi (fun _ => rfl) (by omega) (fun h => by have := hoi1 (by omega); omega) ty
  obtain ⟨w1, hw1⟩ : ∃ w1, w1 = w0.drew.setCells q o1 (bytesOf (l.drop i)) := ⟨_, rfl⟩
  have hlen1 : (bytesOf (l.drop i)).length = l.length - i := by rw [bytesOf_length, List.length_drop]
  have is0 : ∀ j, j < 50 → (w0.drew.cell? ⟨q, j, none⟩).isSome = true := fun j hj => by
    obtain ⟨v, hv, _⟩ := hR0.any j hj
    show (w0.cell? ⟨q, j, none⟩).isSome = true
    rw [hv]; rfl
  have cell1 : ∀ j, w1.cell? ⟨q, j, none⟩ = if o1 ≤ j ∧ j - o1 < (bytesOf (l.drop i)).length then (bytesOf (l.drop i))[j - o1]? else w0.cell? ⟨q, j, none⟩ := fun j => by
    rw [hw1]
    exact cell_many (W := w0.drew) (fun j hj => is0 _ (by rw [hlen1] at hj; have := hoi1 (by omega); omega)) j
  have hi1 : ∀ j, i + 1 + (l.length - i) ≤ j → w1.cell? ⟨q, j, none⟩ = w0.cell? ⟨q, j, none⟩ := fun j hj => by
    rw [cell1, if_neg]
    rintro ⟨h1, h2⟩
    rw [hlen1] at h2
    have := hoi1 (by omega)
    omega
  have fr1 : ∀ j, j < 50 → w1.frozen? ⟨q, j, none⟩ = false := fun j hj => by
    rw [hw1, World.frozen?_setCells]; exact hR0.thaw j hj
  have is1 : ∀ j, j < 50 → (w1.cell? ⟨q, j, none⟩).isSome = true := fun j hj => by
    rw [cell1]; split
    case isTrue h => rw [List.getElem?_eq_getElem h.2]; rfl
    case isFalse => exact is0 j hj
  -- the second copy
  have hs1 : ∀ j (h : j < l.length), w1.cell? ⟨q, 16 + j * 2, none⟩ = some (.int .i64 l[j].2.1) ∧ w1.cell? ⟨q, 16 + j * 2 + 1, none⟩ = some (.int .u32 l[j].2.2) := fun j h => by
    rw [hi1 _ (by omega), hi1 _ (by omega)]; exact ⟨hR0.slot j h, hR0.gen j h⟩
  have C2 := fun ty => copy_refs (W := w1.drew) (q := q) (l := l) i (16 + i * 2) o2 (16 - k) (16 - k) (16 - i) hi (fun _ => rfl) (by omega) (fun h => by have := hoi2 (by omega); omega) hs1 is1 fr1 ty
  obtain ⟨w2, hw2⟩ : ∃ w2, w2 = w1.drew.setCells q o2 (refsOf (l.drop i)) := ⟨_, rfl⟩
  have hlen2 : (refsOf (l.drop i)).length = (l.length - i) * 2 := by rw [refsOf_length, List.length_drop]
  have cell2 : ∀ j, w2.cell? ⟨q, j, none⟩ = if o2 ≤ j ∧ j - o2 < (refsOf (l.drop i)).length then (refsOf (l.drop i))[j - o2]? else w1.cell? ⟨q, j, none⟩ := fun j => by
    rw [hw2]
    exact cell_many (W := w1.drew) (fun j hj => is1 _ (by rw [hlen2] at hj; have := hoi2 (by omega); omega)) j
  have fr2 : ∀ j, j < 50 → w2.frozen? ⟨q, j, none⟩ = false := fun j hj => by
    rw [hw2, World.frozen?_setCells]; exact fr1 j hj
  have is2 : ∀ j, j < 50 → (w2.cell? ⟨q, j, none⟩).isSome = true := fun j hj => by
    rw [cell2]; split
    case isTrue h => rw [List.getElem?_eq_getElem h.2]; rfl
    case isFalse => exact is1 j hj
  rw [hnn] at C1 C2
  rw [← hw1] at C1
  rw [← hw2] at C2
  have n48 : w0.cell? ⟨q, 48, none⟩ = some (.int .i64 (n : Int)) := by rw [hR0.n, hnn]
  have n48' : w1.cell? ⟨q, 48, none⟩ = some (.int .i64 (n : Int)) := by rw [hi1 _ (by omega), n48]
  have n48'' : w2.cell? ⟨q, 48, none⟩ = some (.int .i64 (n : Int)) := by
    rw [cell2, if_neg (by rintro ⟨h1, h2⟩; rw [hlen2] at h2; have := hoi2 (by omega); omega), n48']
  have f48 := fr2 48 (by omega)
  have T2 : Turned [q] w w2 := by
    have t0 : Turned [q] w w0 := .of_below hB0
    rw [hw2, hw1]
    exact (Turned.setCells q (.inl (by simp)) _ _ (Turned.setCells q (.inl (by simp)) _ _ t0.drew).drew)
  have TB : Turned [q] w0 w2 := by
    rw [hw2, hw1]
    exact (Turned.setCells q (.inl (by simp)) _ _ (Turned.setCells q (.inl (by simp)) _ _ (Turned.refl _ _).drew).drew)
  have hbox2 := TB.other hbox (by simp; omega)
  have b0 : w2.cell? ⟨w.heap.size, 0, none⟩ = some (.int .i64 s) := hbox2.cell 0
  have b1 : w2.cell? ⟨w.heap.size, 1, none⟩ = some (.int .u32 g) := hbox2.cell 1
  obtain ⟨x0, hx0⟩ := Option.isSome_iff_exists.1 (is2 i (by omega))
  obtain ⟨x1, hx1⟩ := Option.isSome_iff_exists.1 (is2 (16 + i * 2) (by omega))
  obtain ⟨x2, hx2⟩ := Option.isSome_iff_exists.1 (is2 (16 + i * 2 + 1) (by omega))
  have f0 := fr2 i (by omega)
  have f1 := fr2 (16 + i * 2) (by omega)
  have f2 := fr2 (16 + i * 2 + 1) (by omega)
  have i0 : (0 : Int) ≤ (i : Int) := by omega
  have i1 : (i : Int) ≤ (n : Int) := by omega
  have i2 : (i : Int) < 16 := by omega
  have n16 : (n : Int) ≤ 16 := by omega
  have n15 : (n : Int) ≤ 15 := by omega
  have k0 : (0 : Int) ≤ (k : Int) := by omega
  have k1 : (k : Int) ≤ 16 := by omega
  have i16 : (i : Int) ≤ 16 := by omega
  obtain ⟨w4, hw4⟩ : ∃ w4, w4 = ((((w2.setCell ⟨q, i, none⟩ (.int .u8 (b.toNat : Int))).setCell ⟨q, 16 + i * 2, none⟩ (.int .i64 s)).setCell ⟨q, 16 + i * 2 + 1, none⟩ (.int .u32 g)).setCell ⟨q, 48, none⟩ (.int .i64 ((n : Int) + 1))).drew := ⟨_, rfl⟩
  have T4 : Turned [q] w w4 := by
    rw [hw4]
    exact ((((T2.setCell (.inl (by simp)) _ _).setCell (.inl (by simp)) _ _).setCell (.inl (by simp)) _ _).setCell (.inl (by simp)) _ _).drew
  have cell4 : ∀ j, w4.cell? ⟨q, j, none⟩ = if j = 48 then some (.int .i64 ((n : Int) + 1)) else if j = 16 + i * 2 + 1 then some (.int .u32 g) else if j = 16 + i * 2 then some (.int .i64 s) else if j = i then some (.int .u8 (b.toNat : Int)) else w2.cell? ⟨q, j, none⟩ := fun j => by
    have s1 : ∀ j, j < 50 → ((w2.setCell ⟨q, i, none⟩ (.int .u8 (b.toNat : Int))).cell? ⟨q, j, none⟩).isSome = true := fun j hj => by
      rw [cell_one (is2 i (by omega))]; split
      · rfl
      · exact is2 j hj
    have s2 : ∀ j, j < 50 → (((w2.setCell ⟨q, i, none⟩ (.int .u8 (b.toNat : Int))).setCell ⟨q, 16 + i * 2, none⟩ (.int .i64 s)).cell? ⟨q, j, none⟩).isSome = true := fun j hj => by
      rw [cell_one (s1 _ (by omega))]; split
      · rfl
      · exact s1 j hj
    have s3 : ∀ j, j < 50 → ((((w2.setCell ⟨q, i, none⟩ (.int .u8 (b.toNat : Int))).setCell ⟨q, 16 + i * 2, none⟩ (.int .i64 s)).setCell ⟨q, 16 + i * 2 + 1, none⟩ (.int .u32 g)).cell? ⟨q, j, none⟩).isSome = true := fun j hj => by
      rw [cell_one (s2 _ (by omega))]; split
      · rfl
      · exact s2 j hj
    rw [hw4]
    show (World.setCell _ _ _).cell? _ = _
    rw [cell_one (s3 48 (by omega)), cell_one (s2 _ (by omega)), cell_one (s1 _ (by omega)), cell_one (is2 i (by omega))]
  have R4 : RowAt w4 q (l.insertIdx i (b, s, g)) room := by
    have hll : (l.insertIdx i (b, s, g)).length = n + 1 := by rw [List.length_insertIdx, if_pos hi, hnn]
    have lo2 : ∀ j, j < 16 → w2.cell? ⟨q, j, none⟩ = w1.cell? ⟨q, j, none⟩ := fun j hj => by
      rw [cell2, if_neg]
      rintro ⟨h1, h2⟩
      rw [hlen2] at h2
      have := hoi2 (by omega)
      omega
    refine ⟨by omega, fun j hj => ?_, fun j hj => ?_, fun j hj => ?_, ?_, ?_, fun j hj => ?_, fun j hj => ?_⟩
    · rw [hll] at hj
      rw [cell4, if_neg (by omega), if_neg (by omega), if_neg (by omega)]
      rcases Nat.lt_trichotomy j i with h | h | h
      · rw [if_neg (by omega), lo2 j (by omega), cell1, if_neg (by rintro ⟨h1, h2⟩; rw [hlen1] at h2; have := hoi1 (by omega); omega), hR0.byte j (by omega), List.getElem_insertIdx_of_lt h]
      · subst h
        rw [if_pos rfl, List.getElem_insertIdx_self]
      · have e1 := hoi1 (by omega)
        rw [if_neg (by omega), lo2 j (by omega), cell1, if_pos ⟨by omega, by rw [hlen1]; omega⟩, List.getElem_insertIdx_of_gt h]
        simp only [bytesOf, List.getElem?_map, List.getElem?_drop]
        rw [show i + (j - o1) = j - 1 from by omega, List.getElem?_eq_getElem (by omega)]
        rfl
    · rw [hll] at hj
      rw [cell4, if_neg (by omega), if_neg (by omega)]
      rcases Nat.lt_trichotomy j i with h | h | h
      · rw [if_neg (by omega), if_neg (by omega), cell2, if_neg (by rintro ⟨h1, h2⟩; rw [hlen2] at h2; have := hoi2 (by omega); omega), (hs1 j (by omega)).1, List.getElem_insertIdx_of_lt h]
      · subst h
        rw [if_pos rfl, List.getElem_insertIdx_self]
      · have e2 := hoi2 (by omega)
        rw [if_neg (by omega), if_neg (by omega), cell2, if_pos ⟨by omega, by rw [hlen2]; omega⟩, List.getElem_insertIdx_of_gt h]
        have := (refs_get (l.drop i) (j - 1 - i) (by rw [List.length_drop]; omega)).1
        rw [show 16 + j * 2 - o2 = (j - 1 - i) * 2 from by omega, this, List.getElem_drop]
        simp only [show i + (j - 1 - i) = j - 1 from by omega]
    · rw [hll] at hj
      rw [cell4, if_neg (by omega)]
      rcases Nat.lt_trichotomy j i with h | h | h
      · rw [if_neg (by omega), if_neg (by omega), if_neg (by omega), cell2, if_neg (by rintro ⟨h1, h2⟩; rw [hlen2] at h2; have := hoi2 (by omega); omega), (hs1 j (by omega)).2, List.getElem_insertIdx_of_lt h]
      · subst h
        rw [if_pos rfl, List.getElem_insertIdx_self]
      · have e2 := hoi2 (by omega)
        rw [if_neg (by omega), if_neg (by omega), if_neg (by omega), cell2, if_pos ⟨by omega, by rw [hlen2]; omega⟩, List.getElem_insertIdx_of_gt h]
        have := (refs_get (l.drop i) (j - 1 - i) (by rw [List.length_drop]; omega)).2
        rw [show 16 + j * 2 + 1 - o2 = (j - 1 - i) * 2 + 1 from by omega, this, List.getElem_drop]
        simp only [show i + (j - 1 - i) = j - 1 from by omega]
    · rw [cell4, if_pos rfl, hll]
      rw [show ((n + 1 : Nat) : Int) = (n : Int) + 1 from by omega]
    · rw [cell4, if_neg (by omega), if_neg (by omega), if_neg (by omega), if_neg (by omega), cell2, if_neg (by rintro ⟨h1, h2⟩; rw [hlen2] at h2; have := hoi2 (by omega); omega), hi1 _ (by omega), hR0.room]
    · rw [cell4]
      split
      · exact ⟨_, rfl, rfl⟩
      · split
        · exact ⟨_, rfl, rfl⟩
        · split
          · exact ⟨_, rfl, rfl⟩
          · split
            · exact ⟨_, rfl, rfl⟩
            · rw [cell2]
              split
              case isTrue h => exact ⟨_, List.getElem?_eq_getElem h.2, refs_one _ _ (List.getElem_mem _)⟩
              case isFalse =>
                rw [cell1]
                split
                case isTrue h => exact ⟨_, List.getElem?_eq_getElem h.2, bytes_one _ _ (List.getElem_mem _)⟩
                case isFalse => exact hR0.any j hj
    · rw [hw4]
      show (World.setCell _ _ _).frozen? _ = _
      rw [World.frozen?_setCell, World.frozen?_setCell, World.frozen?_setCell, World.frozen?_setCell]
      exact fr2 j hj
  have H4 := Lib.hid (And.intro T4 R4)
  have HW4 := Lib.hid hw4
  clear T4 R4 hw4 cell4 T2 TB hbox2
  have HW0 := Lib.hid hw0
  clear hR hB0 hbox hR0 hi1 cell1 cell2 fr1 is1 is0 hs1 hw1 hw2 hlen1 hlen2 hoi1 hoi2 fr2 is2 hn hi
  go_enter Try.func31, Try.ntmps31
  go_wp2_with fail
  rw [← HW0.out]
  clear hw0
  go_region
  go_wp2_with fail
  go_region
  go_wp2_with fail
  go_region
  go_wp2_with fail
  rw [← HW4.out]
  go_end0
  exact ⟨rfl, H4.out⟩
end Go.Proofs.Ytioacpcmcnjgaaa
