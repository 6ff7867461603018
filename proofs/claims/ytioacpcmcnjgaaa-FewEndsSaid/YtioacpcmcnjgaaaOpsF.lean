/- The methods, each as one contract; sorted rows; the examples of the chapter. -/
import Derived.Test.YtioacpcmcnjgaaaAllF
namespace Go.Proofs.Ytioacpcmcnjgaaa
open Go.RowKit
set_option maxRecDepth 100000
set_option maxHeartbeats 2000000

def putS (b : UInt8) (s g : Int) (l : List En) (room : Nat) : List En := if isIn b l = true ∨ l.length = room then l else l.insertIdx (placeIx b l) (b, s, g)
def takeS (b : UInt8) (l : List En) : List En := if isIn b l = true then l.eraseIdx (placeIx b l) else l
def turnS (b : UInt8) (s g : Int) (l : List En) : List En := if isIn b l = true then l.set (placeIx b l) (b, s, g) else l
def refOf (b : UInt8) (l : List En) : Value := if isIn b l = true then refV (atOf b l).2.1 (atOf b l).2.2 else refV 0 0
theorem put_any {W : World} {p q : Nat} {l : List En} {room : Nat} (h : FewAt W p q l room) (hr : room ≤ 16) (hle : l.length ≤ room) (b : UInt8) (s g : Int) :
    Calls Try.prog 12 #[.pointer (some ⟨p, 0, none⟩), .int .u8 (b.toNat : Int), refV s g] W fun e w' => e = .returned (.int .i64 (putE b l room)) ∧ Turned [q] W w' ∧ FewAt w' p q (putS b s g l room) room := by
  by_cases hi : isIn b l = true ∨ l.length = room
  · refine (put_no h b s g hi).mono ?_
    rintro e w' ⟨rfl, hb⟩
    exact ⟨rfl, .of_below hb, by rw [putS, if_pos hi]; exact h.below hb⟩
  · have h1 : isIn b l = false := by cases hx : isIn b l with | false => rfl | true => exact (hi (.inl hx)).elim
    have h2 : l.length ≠ room := fun e => hi (.inr e)
    refine (put_yes h hr b s g h1 h2 hle).mono ?_
    rintro e w' ⟨rfl, ht, hf⟩
    exact ⟨by rw [putE, h1, if_neg (by simp), if_neg h2], ht, by rw [putS, if_neg hi]; exact hf⟩
theorem take_any {W : World} {p q : Nat} {l : List En} {room : Nat} (h : FewAt W p q l room) (b : UInt8) :
    Calls Try.prog 14 #[.pointer (some ⟨p, 0, none⟩), .int .u8 (b.toNat : Int)] W fun e w' => e = .returned (.tuple #[refOf b l, .int .i64 (if isIn b l = true then 0 else 5)]) ∧ Turned [q] W w' ∧ FewAt w' p q (takeS b l) room := by
  cases hi : isIn b l
  · refine (take_no h b hi).mono ?_
    rintro e w' ⟨rfl, hb⟩
    exact ⟨by rw [refOf, hi]; rfl, .of_below hb, by rw [takeS, hi]; exact h.below hb⟩
  · refine (take_yes h b hi).mono ?_
    rintro e w' ⟨rfl, ht, hf⟩
    exact ⟨by rw [refOf, hi]; rfl, ht, by rw [takeS, hi]; exact hf⟩
theorem turn_any {W : World} {p q : Nat} {l : List En} {room : Nat} (h : FewAt W p q l room) (b : UInt8) (s g : Int) :
    Calls Try.prog 17 #[.pointer (some ⟨p, 0, none⟩), .int .u8 (b.toNat : Int), refV s g] W fun e w' => e = .returned (.int .i64 (if isIn b l = true then 0 else 5)) ∧ Turned [q] W w' ∧ FewAt w' p q (turnS b s g l) room := by
  cases hi : isIn b l
  · refine (turn_no h b s g hi).mono ?_
    rintro e w' ⟨rfl, hb⟩
    exact ⟨rfl, .of_below hb, by rw [turnS, hi]; exact h.below hb⟩
  · refine (turn_yes h b s g hi).mono ?_
    rintro e w' ⟨rfl, ht, hf⟩
    exact ⟨rfl, ht, by rw [turnS, hi]; exact hf⟩
theorem finds_any {W : World} {p q : Nat} {l : List En} {room : Nat} (h : FewAt W p q l room) (b : UInt8) :
    Calls Try.prog 15 #[.pointer (some ⟨p, 0, none⟩), .int .u8 (b.toNat : Int)] W fun e w' => e = .returned (.tuple #[refOf b l, .bool (isIn b l)]) ∧ Below W.heap.size W w' := find_any h b

/-- The bytes rise. -/
abbrev Srt (l : List En) : Prop := l.Pairwise (fun a b => a.1.toNat < b.1.toNat)
theorem place_split (b : UInt8) : ∀ l : List En, Srt l → (∀ j (h : j < l.length), j < placeIx b l → l[j].1.toNat < b.toNat) ∧ (∀ j (h : j < l.length), placeIx b l ≤ j → b.toNat ≤ l[j].1.toNat) := by
  intro l hs
  have h1 : ∀ j (h : j < l.length), j < placeIx b l → l[j].1.toNat < b.toNat := fun j h hj => by
    have := List.not_of_lt_findIdx hj
    simp at this
    exact this
  refine ⟨h1, fun j h hj => ?_⟩
  have hp : placeIx b l < l.length := by omega
  have h2 : b.toNat ≤ (l[placeIx b l]'hp).1.toNat := by
    have := List.findIdx_getElem (p := fun x : En => decide (b.toNat ≤ x.1.toNat)) (xs := l) (w := hp)
    exact of_decide_eq_true this
  rcases Nat.lt_or_eq_of_le hj with hlt | heq
  · have := List.pairwise_iff_getElem.1 hs _ _ hp h hlt
    omega
  · subst heq; exact h2
theorem isIn_iff {b : UInt8} {l : List En} (hs : Srt l) : isIn b l = true ↔ ∃ x ∈ l, x.1 = b := by
  constructor
  · intro h
    obtain ⟨s, g, ha, _⟩ := isIn_at h
    exact ⟨_, List.mem_of_getElem? ha, rfl⟩
  · rintro ⟨x, hx, rfl⟩
    obtain ⟨j, hj, rfl⟩ := List.getElem_of_mem hx
    obtain ⟨h1, h2⟩ := place_split l[j].1 l hs
    have hle : placeIx l[j].1 l ≤ j := by
      rcases Nat.lt_or_ge j (placeIx l[j].1 l) with h | h
      · have := h1 j hj h; omega
      · exact h
    have hp : placeIx l[j].1 l < l.length := by omega
    have e : placeIx l[j].1 l = j := by
      rcases Nat.lt_or_eq_of_le hle with h | h
      · have a1 := List.pairwise_iff_getElem.1 hs _ _ hp hj h
        have a2 := h2 _ hp (Nat.le_refl _)
        omega
      · exact h
    rw [isIn, e, List.getElem?_eq_getElem hj]
    simp
theorem srt_insert {b : UInt8} {l : List En} (hs : Srt l) (hn : isIn b l = false) (s g : Int) : Srt (l.insertIdx (placeIx b l) (b, s, g)) := by
  have hle : placeIx b l ≤ l.length := firstIx_le _ _
  obtain ⟨h1, h2⟩ := place_split b l hs
  have hne : ∀ j (h : j < l.length), l[j].1 ≠ b := fun j h e => by
    have := (isIn_iff hs).2 ⟨l[j], List.getElem_mem h, e⟩
    rw [hn] at this; cases this
  have hne' : ∀ j (h : j < l.length), l[j].1.toNat ≠ b.toNat := fun j h e => hne j h (UInt8.toNat_inj.1 e)
  rw [Srt, List.pairwise_iff_getElem]
  intro i j hi hj hij
  have hll : (l.insertIdx (placeIx b l) (b, s, g)).length = l.length + 1 := by rw [List.length_insertIdx, if_pos hle]
  obtain ⟨k, hk⟩ : ∃ k, placeIx b l = k := ⟨_, rfl⟩
  simp only [hk] at hle h1 h2 hll hi hj ⊢
  rcases Nat.lt_trichotomy i k with hik | hik | hik
  · rw [List.getElem_insertIdx_of_lt hik]
    rcases Nat.lt_trichotomy j k with hjk | hjk | hjk
    · rw [List.getElem_insertIdx_of_lt hjk]
      exact List.pairwise_iff_getElem.1 hs _ _ _ _ hij
    · subst hjk
      rw [List.getElem_insertIdx_self]
      exact h1 i (by omega) hik
    · rw [List.getElem_insertIdx_of_gt hjk]
      exact List.pairwise_iff_getElem.1 hs _ _ _ _ (by omega)
  · subst hik
    rw [List.getElem_insertIdx_self, List.getElem_insertIdx_of_gt hij]
    have a1 := h2 (j - 1) (by omega) (by omega)
    have a2 := hne' (j - 1) (by omega)
    show b.toNat < _
    omega
  · rw [List.getElem_insertIdx_of_gt hik, List.getElem_insertIdx_of_gt (by omega)]
    exact List.pairwise_iff_getElem.1 hs _ _ _ _ (by omega)
theorem srt_put {b : UInt8} {l : List En} (hs : Srt l) (s g : Int) (room : Nat) : Srt (putS b s g l room) := by
  unfold putS
  split
  · exact hs
  · rename_i h
    exact srt_insert hs (by cases hx : isIn b l with | false => rfl | true => exact (h (.inl hx)).elim) s g
theorem srt_take {b : UInt8} {l : List En} (hs : Srt l) : Srt (takeS b l) := by
  unfold takeS
  split
  · exact hs.sublist (List.eraseIdx_sublist _ _)
  · exact hs
theorem take_not {b : UInt8} {l : List En} (hs : Srt l) : isIn b (takeS b l) = false := by
  cases hx : isIn b (takeS b l) with
  | false => rfl
  | true =>
    exfalso
    obtain ⟨x, hm, rfl⟩ := (isIn_iff (srt_take hs)).1 hx
    unfold takeS at hm
    split at hm
    case isTrue h =>
      obtain ⟨s, g, ha, _⟩ := isIn_at h
      obtain ⟨hlt, hge⟩ := List.getElem?_eq_some_iff.1 ha
      obtain ⟨j, hj, he⟩ := List.getElem_of_mem hm
      rw [List.getElem_eraseIdx] at he
      rw [List.length_eraseIdx, if_pos hlt] at hj
      split at he
      case isTrue h2 =>
        have := List.pairwise_iff_getElem.1 hs _ _ (by omega) hlt h2
        rw [he, hge] at this
        exact Nat.lt_irrefl _ this
      case isFalse h2 =>
        have := List.pairwise_iff_getElem.1 hs _ _ hlt (show j + 1 < l.length by omega) (by omega)
        rw [he, hge] at this
        exact Nat.lt_irrefl _ this
    case isFalse h =>
      exact h ((isIn_iff hs).2 ⟨x, hm, rfl⟩)
theorem place_le (b : UInt8) (l : List En) : placeIx b l ≤ l.length := firstIx_le _ _
theorem put_len (b : UInt8) (s g : Int) (l : List En) (room : Nat) : (putS b s g l room).length = if isIn b l = true ∨ l.length = room then l.length else l.length + 1 := by
  unfold putS
  split
  · rfl
  · rw [List.length_insertIdx, if_pos (place_le _ _)]
theorem take_len (b : UInt8) (l : List En) : (takeS b l).length = if isIn b l = true then l.length - 1 else l.length := by
  unfold takeS
  split
  · rename_i h; rw [List.length_eraseIdx, if_pos (isIn_lt h)]
  · rfl
theorem mem_put {b : UInt8} {s g : Int} {l : List En} {room : Nat} (h : ¬ (isIn b l = true ∨ l.length = room)) (x : En) : x ∈ putS b s g l room ↔ x = (b, s, g) ∨ x ∈ l := by
  unfold putS
  rw [if_neg h, List.mem_insertIdx (place_le _ _)]
end Go.Proofs.Ytioacpcmcnjgaaa
