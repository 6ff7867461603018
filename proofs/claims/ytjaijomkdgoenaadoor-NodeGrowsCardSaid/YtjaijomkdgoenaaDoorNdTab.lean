/- The child tables of a node, few and many alike: all that they hold lies behind B. -/
import Derived.Test.YtjaijomkdgoenaaDoorGNd
import Derived.Test.YtjaijomkdgoenaaDoorFwFew2
import Derived.Test.YtjaijomkdgoenaaDoorMnManyAll
namespace Go.Proofs.YtjaijomkdgoenaaDoor.Nd
open Go.RowKit
open Mn
set_option maxRecDepth 1000000
set_option maxHeartbeats 4000000

/-- A few behind B. -/
def FTab (W : World) (B p : Nat) (l : List En) (room : Nat) : Prop := ∃ q, Fw.FewAt W p q l room ∧ B ≤ p ∧ B ≤ q ∧ Srt l ∧ l.length ≤ room ∧ room ≤ 16
/-- A many behind B. -/
def MTab (W : World) (B p : Nat) (l : List En) (room : Nat) : Prop := ∃ q e, ManyAt W p q e l room ∧ B ≤ p ∧ B ≤ q ∧ B ≤ e ∧ l.length ≤ room ∧ room ≤ 256

theorem FTab.below {W W' : World} {B p : Nat} {l : List En} {room : Nat} (h : FTab W B p l room) (hb : Below W.heap.size W W') : FTab W' B p l room := by
  obtain ⟨q, h1, h2⟩ := h; exact ⟨q, h1.below hb, h2⟩
theorem MTab.below {W W' : World} {B p : Nat} {l : List En} {room : Nat} (h : MTab W B p l room) (hb : Below W.heap.size W W') : MTab W' B p l room := by
  obtain ⟨q, e, h1, h2⟩ := h; exact ⟨q, e, h1.below hb, h2⟩
theorem FTab.srt {W : World} {B p : Nat} {l : List En} {room : Nat} (h : FTab W B p l room) : Srt l := by
  obtain ⟨q, h1, h2, h3, h4, h5⟩ := h; exact h4
theorem MTab.srt {W : World} {B p : Nat} {l : List En} {room : Nat} (h : MTab W B p l room) : Srt l := by
  obtain ⟨q, e, h1, h2, h3, h4⟩ := h; exact h1.srt
theorem FTab.low {W : World} {B p : Nat} {l : List En} {room : Nat} (h : FTab W B p l room) : B ≤ p ∧ p < W.heap.size := by
  obtain ⟨q, h1, h2, _⟩ := h; exact ⟨h2, h1.lt⟩
theorem MTab.low {W : World} {B p : Nat} {l : List En} {room : Nat} (h : MTab W B p l room) : B ≤ p ∧ p < W.heap.size := by
  obtain ⟨q, e, h1, h2, _⟩ := h; exact ⟨h2, h1.lt.1⟩

theorem putS_le {b : UInt8} {s g : Int} {l : List En} {room : Nat} (h : l.length ≤ room) : (putS b s g l room).length ≤ room := by
  rw [Mn.put_len]
  split
  · exact h
  · rename_i h2
    have : l.length ≠ room := fun e => h2 (.inr e)
    omega

theorem fput_any {W : World} {B p : Nat} {l : List En} {room : Nat} (h : FTab W B p l room) (b : UInt8) (s g : Int) :
    Calls Tryd.prog 85 #[.pointer (some ⟨p, 0, none⟩), .int .u8 (b.toNat : Int), refV s g] W fun e w' => e = .returned (.int .i64 (putE b l room)) ∧ Below B W w' ∧ FTab w' B p (putS b s g l room) room := by
  obtain ⟨q, h1, h2, h3, h4, h5, h6⟩ := h
  have hBW : B ≤ W.heap.size := by have := h1.lt; omega
  by_cases hi : isIn b l = true ∨ l.length = room
  · refine (Fw.put_no h1 b s g hi).mono ?_
    rintro e w' ⟨he, hb⟩
    refine ⟨he, hb.mono hBW, ?_⟩
    rw [putS, if_pos hi]
    exact ⟨q, h1.below hb, h2, h3, h4, h5, h6⟩
  · have hi1 : isIn b l = false := by
      cases hx : isIn b l with
      | false => rfl
      | true => exact absurd (Or.inl hx) hi
    have hi2 : l.length ≠ room := fun e => hi (.inr e)
    refine (Fw.put_yes h1 h6 b s g hi1 hi2 h5).mono ?_
    rintro e w' ⟨he, ht, hf⟩
    have hl := putS_le (b := b) (s := s) (g := g) h5
    have hs := srt_put (b := b) h4 s g room
    have ep : putS b s g l room = l.insertIdx (placeIx b l) (b, s, g) := by rw [putS, if_neg hi]
    have ee : putE b l room = 0 := by
      show (if isIn b l = true then (8 : Int) else if l.length = room then 14 else 0) = 0
      rw [if_neg (by rw [hi1]; simp), if_neg hi2]
    rw [ep] at hl hs ⊢
    rw [ee]
    exact ⟨he, ht.below (Below.refl _ _ |>.mono hBW) (by intro k hk; simp at hk; omega) hBW, q, hf, h2, h3, hs, hl, h6⟩

theorem mput_any {W : World} {B p : Nat} {l : List En} {room : Nat} (h : MTab W B p l room) (b : UInt8) (s g : Int) :
    Calls Tryd.prog 99 #[.pointer (some ⟨p, 0, none⟩), .int .u8 (b.toNat : Int), refV s g] W fun e w' => e = .returned (.int .i64 (putE b l room)) ∧ Below B W w' ∧ MTab w' B p (putS b s g l room) room := by
  obtain ⟨q, e, h1, h2, h3, h4, h5, h6⟩ := h
  have hBW : B ≤ W.heap.size := by have := h1.lt.1; omega
  refine (put_any h1 h6 h5 b s g).mono ?_
  rintro e' w' ⟨he, e2, h7, ht, hf⟩
  refine ⟨he, ht.below (Below.refl _ _ |>.mono hBW) (by intro k hk; simp at hk; omega) hBW, q, e2, hf, h2, h3, by omega, putS_le h5, h6⟩

theorem takeS_le {b : UInt8} {l : List En} {room : Nat} (h : l.length ≤ room) : (takeS b l).length ≤ room := by
  rw [Mn.take_len]; split <;> omega

theorem ftake_any {W : World} {B p : Nat} {l : List En} {room : Nat} (h : FTab W B p l room) (b : UInt8) :
    Calls Tryd.prog 86 #[.pointer (some ⟨p, 0, none⟩), .int .u8 (b.toNat : Int)] W fun e w' => e = .returned (.tuple #[refOf b l, .int .i64 (if isIn b l = true then 0 else 5)]) ∧ Below B W w' ∧ FTab w' B p (takeS b l) room := by
  obtain ⟨q, h1, h2, h3, h4, h5, h6⟩ := h
  have hBW : B ≤ W.heap.size := by have := h1.lt; omega
  have hl := takeS_le (b := b) h5
  have hs := srt_take (b := b) h4
  cases hi : isIn b l with
  | false =>
    refine (Fw.take_no h1 b hi).mono ?_
    rintro e w' ⟨he, hb⟩
    have e1 : takeS b l = l := by rw [takeS, if_neg (by rw [hi]; simp)]
    have e2 : refOf b l = refV 0 0 := by rw [refOf, if_neg (by rw [hi]; simp)]
    rw [e1, e2]
    exact ⟨he, hb.mono hBW, q, h1.below hb, h2, h3, h4, h5, h6⟩
  | true =>
    refine (Fw.take_yes h1 b hi).mono ?_
    rintro e w' ⟨he, ht, hf⟩
    have e1 : takeS b l = l.eraseIdx (placeIx b l) := by rw [takeS, if_pos hi]
    have e2 : refOf b l = refV (atOf b l).2.1 (atOf b l).2.2 := by rw [refOf, if_pos hi]
    rw [e1] at hl hs ⊢
    rw [e2]
    exact ⟨he, ht.below (Below.refl _ _ |>.mono hBW) (by intro k hk; simp at hk; omega) hBW, q, hf, h2, h3, hs, hl, h6⟩

theorem mtake_any {W : World} {B p : Nat} {l : List En} {room : Nat} (h : MTab W B p l room) (b : UInt8) :
    Calls Tryd.prog 100 #[.pointer (some ⟨p, 0, none⟩), .int .u8 (b.toNat : Int)] W fun e w' => e = .returned (.tuple #[refOf b l, .int .i64 (if isIn b l = true then 0 else 5)]) ∧ Below B W w' ∧ MTab w' B p (takeS b l) room := by
  obtain ⟨q, e, h1, h2, h3, h4, h5, h6⟩ := h
  have hBW : B ≤ W.heap.size := by have := h1.lt.1; omega
  refine (take_any h1 b).mono ?_
  rintro e' w' ⟨he, ht, hf⟩
  exact ⟨he, ht.below (Below.refl _ _ |>.mono hBW) (by intro k hk; simp at hk; omega) hBW, q, e, hf, h2, h3, h4, takeS_le h5, h6⟩

theorem fturn_any {W : World} {B p : Nat} {l : List En} {room : Nat} (h : FTab W B p l room) (b : UInt8) (s g : Int) :
    Calls Tryd.prog 87 #[.pointer (some ⟨p, 0, none⟩), .int .u8 (b.toNat : Int), refV s g] W fun e w' => e = .returned (.int .i64 (if isIn b l = true then 0 else 5)) ∧ Below B W w' ∧ FTab w' B p (turnS b s g l) room := by
  obtain ⟨q, h1, h2, h3, h4, h5, h6⟩ := h
  have hBW : B ≤ W.heap.size := by have := h1.lt; omega
  have hl : (turnS b s g l).length ≤ room := by rw [Mn.turn_len]; exact h5
  have hs := srt_turn (b := b) h4 s g
  cases hi : isIn b l with
  | false =>
    refine (Fw.turn_no h1 b s g hi).mono ?_
    rintro e w' ⟨he, hb⟩
    have e1 : turnS b s g l = l := by rw [turnS, if_neg (by rw [hi]; simp)]
    rw [e1]
    exact ⟨he, hb.mono hBW, q, h1.below hb, h2, h3, h4, h5, h6⟩
  | true =>
    refine (Fw.turn_yes h1 b s g hi).mono ?_
    rintro e w' ⟨he, ht, hf⟩
    have e1 : turnS b s g l = l.set (placeIx b l) (b, s, g) := by rw [turnS, if_pos hi]
    rw [e1] at hl hs ⊢
    exact ⟨he, ht.below (Below.refl _ _ |>.mono hBW) (by intro k hk; simp at hk; omega) hBW, q, hf, h2, h3, hs, hl, h6⟩

theorem mturn_any {W : World} {B p : Nat} {l : List En} {room : Nat} (h : MTab W B p l room) (b : UInt8) (s g : Int) :
    Calls Tryd.prog 101 #[.pointer (some ⟨p, 0, none⟩), .int .u8 (b.toNat : Int), refV s g] W fun e w' => e = .returned (.int .i64 (if isIn b l = true then 0 else 5)) ∧ Below B W w' ∧ MTab w' B p (turnS b s g l) room := by
  obtain ⟨q, e, h1, h2, h3, h4, h5, h6⟩ := h
  have hBW : B ≤ W.heap.size := by have := h1.lt.1; omega
  refine (turn_any h1 b s g).mono ?_
  rintro e' w' ⟨he, ht, hf⟩
  exact ⟨he, ht.below (Below.refl _ _ |>.mono hBW) (by intro k hk; simp at hk; omega) hBW, q, e, hf, h2, h3, h4, by rw [Mn.turn_len]; exact h5, h6⟩

theorem fnew_any (room : Nat) (h : room = 4 ∨ room = 16) (W : World) :
    Calls Tryd.prog 42 #[.int .i64 (room : Int)] W fun e w' => ∃ p, e = .returned (.tuple #[.pointer (some ⟨p, 0, none⟩), .int .i64 0]) ∧ Below W.heap.size W w' ∧ FTab w' W.heap.size p [] room := by
  refine (Fw.new_yes room h W).mono ?_
  rintro e w' ⟨he, hb, hf⟩
  exact ⟨_, he, hb, _, hf, by omega, by omega, List.Pairwise.nil, Nat.zero_le _, by omega⟩
theorem mnew_any (room : Nat) (h : room = 48 ∨ room = 256) (W : World) :
    Calls Tryd.prog 43 #[.int .i64 (room : Int)] W fun e w' => ∃ p, e = .returned (.tuple #[.pointer (some ⟨p, 0, none⟩), .int .i64 0]) ∧ Below W.heap.size W w' ∧ MTab w' W.heap.size p [] room := by
  refine (new_yes room h W).mono ?_
  rintro e w' ⟨he, hb, hf⟩
  exact ⟨_, he, hb, _, _, hf, by omega, by omega, by omega, Nat.zero_le _, by omega⟩
end Go.Proofs.YtjaijomkdgoenaaDoor.Nd
