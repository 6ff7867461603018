/- The examples of the chapter. -/
import Derived.Test.YtiifogbdoajnoaaManyNext
namespace Go.Proofs.Ytiifogbdoajnoaa
open Go.RowKit
set_option maxRecDepth 100000
set_option maxHeartbeats 4000000

theorem ManyAt.apart {W : World} {p q e : Nat} {l : List En} {room : Nat} (h : ManyAt W p q e l room) {B : Nat} {cs : Array Value} {t : TypeId} (hf : Fresh W B cs t) (h1 : t ≠ 67) (h2 : t ≠ 80) : B ≠ q ∧ B ≠ e := by
  obtain ⟨es, cs, v, hr, _, hl⟩ := h.row
  have hb := hr.box
  unfold Fresh at hf hb
  have n1 : B ≠ q := by rintro rfl; rw [hf] at hb; cases hb; exact h1 rfl
  refine ⟨n1, ?_⟩
  rcases hr.ty with h3 | ⟨cur, h3⟩
  · rw [h3]; exact n1
  · rintro rfl; rw [hf] at h3; cases h3; exact h2 rfl
/-- A table of the call's own. -/
structure On (w W : World) (p q e : Nat) (l : List En) (room : Nat) : Prop where
  many : ManyAt W p q e l room
  low : Below w.heap.size w W
  hq : w.heap.size ≤ q
  he : w.heap.size ≤ e
theorem On.below {w W W' : World} {p q e : Nat} {l : List En} {room : Nat} (h : On w W p q e l room) (hb : Below W.heap.size W W') : On w W' p q e l room :=
  ⟨h.many.below hb, h.low.trans (hb.mono h.low.size), h.hq, h.he⟩
theorem On.turn {w W W' : World} {p q e e2 : Nat} {l l' : List En} {room : Nat} (h : On w W p q e l room) (ht : Turned [q, e] W W') (h2 : e2 = e ∨ W.heap.size ≤ e2) (hm : ManyAt W' p q e2 l' room) : On w W' p q e2 l' room :=
  ⟨hm, ht.below h.low (by have := h.hq; have := h.he; simp; omega) h.low.size, h.hq, by have := h.he; have := h.low.size; omega⟩
theorem put_on {w W : World} {p q e : Nat} {l : List En} {room : Nat} (h : On w W p q e l room) (hr : room ≤ 256) (b : UInt8) (z v s g : Int) (l' : List En) (hz : (b.toNat : Int) = z) (hl : l.length ≤ room) (hv : putE b l room = v) (hl' : putS b s g l room = l') :
    Calls Try.prog 12 #[.pointer (some ⟨p, 0, none⟩), .int .u8 z, .agg #[.int .i64 s, .int .u32 g]] W fun e' w' => e' = .returned (.int .i64 v) ∧ ∃ e2, On w w' p q e2 l' room ∧ Turned [q, e] W w' := by
  subst hz hv hl'
  refine (put_any h.many hr hl b s g).mono ?_
  rintro e' w' ⟨rfl, e2, h2, ht, hf⟩
  exact ⟨rfl, e2, h.turn ht h2 hf, ht⟩
theorem take_on {w W : World} {p q e : Nat} {l : List En} {room : Nat} (h : On w W p q e l room) (b : UInt8) (z v : Int) (V : Value) (l' : List En) (hz : (b.toNat : Int) = z) (hv : (if isIn b l = true then 0 else 5) = v) (hV : refOf b l = V) (hl' : takeS b l = l') :
    Calls Try.prog 14 #[.pointer (some ⟨p, 0, none⟩), .int .u8 z] W fun e' w' => e' = .returned (.tuple #[V, .int .i64 v]) ∧ On w w' p q e l' room ∧ Turned [q, e] W w' := by
  subst hz hv hl' hV
  refine (take_any h.many b).mono ?_
  rintro e' w' ⟨rfl, ht, hf⟩
  exact ⟨rfl, h.turn ht (.inl rfl) hf, ht⟩
/-- The row of the example while it is filled. -/
def rowB (b : Nat) : List En := (List.range (b - 10)).map fun i => (UInt8.ofNat (10 + i), ((10 + i : Nat) : Int), 1)
theorem rowB_put : ∀ b, b < 58 → 10 ≤ b → putE (UInt8.ofNat b) (rowB b) 48 = 0 ∧ putS (UInt8.ofNat b) (b : Int) 1 (rowB b) 48 = rowB (b + 1) ∧ (rowB b).length ≤ 48 := by decide +kernel
def rowC : List En := takeS 20 (rowB 58)
def rowD : List En := putS 58 7 0 rowC 48
theorem row_facts : (rowB 58).length ≤ 48 ∧ putE 58 (rowB 58) 48 = 14 ∧ putS 58 0 0 (rowB 58) 48 = rowB 58 ∧ isIn 20 (rowB 58) = true ∧ atOf 20 (rowB 58) = (20, 20, 1) ∧ rowC.length ≤ 48 ∧ putE 58 rowC 48 = 0 ∧ rowD.length = 48 ∧ rowD[nextIx 20 rowD]? = some (21, 21, 1) := by decide +kernel
theorem awake_any (w : World) : Calls Try.prog 7 #[] w fun e w' => e = .returned (.bool true) ∧ Below w.heap.size w w' := by
  have HNew : Hid (∀ W : World, Calls Try.prog 8 #[.int .i64 48] W fun e w' => e = .returned (.tuple #[.pointer (some ⟨W.heap.size + 1, 0, none⟩), .int .i64 0]) ∧ Below W.heap.size W w' ∧ ManyAt w' (W.heap.size + 1) W.heap.size W.heap.size [] 48) := Lib.hid fun W => new_yes 48 (.inl rfl) W
  go_enter Try.func7, Try.ntmps7
  go_wp2_with (go_at_call 8; refine (HNew.out _).mono ?_; rintro e w1 ⟨rfl, hb1, hf1⟩)
  obtain ⟨p, hp⟩ : ∃ p, p = w.heap.size + 1 := ⟨_, rfl⟩
  obtain ⟨q, hq⟩ : ∃ q, q = w.heap.size := ⟨_, rfl⟩
  rw [← hp] at hf1 ⊢
  have O1 : Hid (On w w1 p q q (rowB 10) 48) := ⟨by rw [hq]; exact hf1, hb1, by omega, by omega⟩
  clear hb1 hf1 hp hq HNew
  go_loopw [3] (fun iv wr => ∃ (b e : Nat), 10 ≤ b ∧ b ≤ 58 ∧ iv = .int .i64 (b : Int) ∧ On w wr p q e (rowB b) 48) (fun iv _ => 58 - (intOf iv).toNat)
  case atStart => exact ⟨10, q, by omega, by omega, rfl, O1.out⟩
  case round =>
    clear O1
    obtain ⟨b, e, hb1, hb2, rfl, hO⟩ := hrel
    by_cases hlt : b < 58
    · have bl : (b : Int) < 58 := by omega
      obtain ⟨e1, e2, e3⟩ := rowB_put b hlt hb1
      have hz : (((UInt8.ofNat b).toNat : Nat) : Int) = (b : Int) := by
        have : b % 256 = b := Nat.mod_eq_of_lt (by omega)
        simp; omega
      have HP := Lib.hid (put_on hO (by omega) (UInt8.ofNat b) (b : Int) 0 (b : Int) 1 _ hz e3 e1 e2)
      have hw : IntKind.u8.wrap (b : Int) = (b : Int) := by simp [IntKind.wrap, IntKind.bits, IntKind.signed]; omega
      clear hO e1 e2 e3 hz
      go_wp2_with (go_at_call 12; with_reducible refine HP.out.mono ?_; rintro e' w2 ⟨rfl, e2, hO2, -⟩; have HO2 := Lib.hid hO2; clear hO2)
      go_roundw
      case rel => exact ⟨b + 1, e2, by omega, by omega, by first | rfl | go_num, HO2.out⟩
      case measure => simp [intOf] <;> omega
    · obtain rfl : b = 58 := by omega
      obtain ⟨f1, f2, f3, f4, f5, f6, f7, f8, f9⟩ := row_facts
      have HP1 := Lib.hid (put_on hO (by omega) 58 58 14 0 0 (rowB 58) rfl f1 f2 f3)
      have HT : Hid (∀ e W, On w W p q e (rowB 58) 48 → Calls Try.prog 14 #[.pointer (some ⟨p, 0, none⟩), .int .u8 20] W fun e' w' => e' = .returned (.tuple #[.agg #[.int .i64 20, .int .u32 1], .int .i64 0]) ∧ On w w' p q e rowC 48 ∧ Turned [q, e] W w') := Lib.hid fun e W h => take_on h 20 20 0 (.agg #[.int .i64 20, .int .u32 1]) rowC rfl (by rw [f4]; rfl) (by rw [refOf, f4, if_pos rfl, f5]) rfl
      have HP2 : Hid (∀ e W, On w W p q e rowC 48 → Calls Try.prog 12 #[.pointer (some ⟨p, 0, none⟩), .int .u8 58, .agg #[.int .i64 7, .int .u32 0]] W fun e' w' => e' = .returned (.int .i64 0) ∧ ∃ e2, On w w' p q e2 rowD 48 ∧ Turned [q, e] W w') := Lib.hid fun e W h => put_on h (by omega) 58 58 0 7 0 rowD rfl f6 f7 rfl
      have HN : Hid (∀ e W, On w W p q e rowD 48 → Calls Try.prog 16 #[.pointer (some ⟨p, 0, none⟩), .int .i64 20] W fun e' w' => e' = .returned (.tuple #[.int .u8 21, .agg #[.int .i64 21, .int .u32 1], .bool true]) ∧ Below W.heap.size W w') := Lib.hid fun e W h => by
        have := next_any h.many 20
        rw [show nextV 20 rowD = .tuple #[.int .u8 21, .agg #[.int .i64 21, .int .u32 1], .bool true] from by rw [nextV, f9]; rfl] at this
        exact this
      have HL : Hid (∀ e W, On w W p q e rowD 48 → Calls Try.prog 18 #[.pointer (some ⟨p, 0, none⟩)] W fun e' w' => e' = .returned (.int .i64 48) ∧ w' = W) := Lib.hid fun e W h => by
        have := len_any h.many
        rw [f8] at this
        exact this
      have HRm : Hid (∀ e W, On w W p q e rowD 48 → Calls Try.prog 19 #[.pointer (some ⟨p, 0, none⟩)] W fun e' w' => e' = .returned (.int .i64 48) ∧ w' = W) := Lib.hid fun e W h => room_any h.many
      clear f1 f2 f3 f4 f5 f6 f7 f8 f9 hb1 hb2 hlt hO
      rw [show ((58 : Nat) : Int) = (58 : Int) from rfl]
      go_upto_region 8 with (go_at_call 12; with_reducible refine HP1.out.mono ?_; rintro e' w2 ⟨rfl, e2, hO2, -⟩; have HO2 := Lib.hid hO2; clear hO2)
      go_upto_region 9 with (go_at_call 14; with_reducible refine (HT.out _ _ HO2.out).mono ?_; rintro e' w3 ⟨rfl, hO3, -⟩)
      obtain ⟨W3, hW3⟩ : ∃ W, W = w3.alloc (.cells #[.int .i64 20, .int .u32 1] 35) := ⟨_, rfl⟩
      rw [← hW3]
      have O3 : On w W3 p q e2 rowC 48 := by rw [hW3]; exact hO3.below (Below.new (Below.refl _ _) _)
      have X3 : Fresh W3 w3.heap.size #[.int .i64 20, .int .u32 1] 35 := by rw [hW3]; exact Fresh.new _ _ _ _ rfl
      have HO3 := Lib.hid (And.intro O3 X3)
      clear hW3 hO3 O3 X3
      go_upto_region 10 with (go_at_call 12; with_reducible refine (HP2.out _ _ HO3.out.1).mono ?_; rintro e' w4 ⟨rfl, e4, hO4, hT4⟩)
      have X4 := hT4.other HO3.out.2 (by have := HO3.out.1.many.apart HO3.out.2 (by decide) (by decide); simp; exact this)
      have HO4 := Lib.hid (And.intro hO4 X4)
      clear hO4 hT4 X4
      go_upto_region 11 with (go_at_call 16; with_reducible refine (HN.out _ _ HO4.out.1).mono ?_; rintro e' w5 ⟨rfl, hb5⟩)
      obtain ⟨W5, hW5⟩ : ∃ W, W = w5.alloc (.cells #[.int .i64 21, .int .u32 1] 35) := ⟨_, rfl⟩
      rw [← hW5]
      have B5 : Below w4.heap.size w4 W5 := by rw [hW5]; exact Below.new hb5 _
      have O5 := HO4.out.1.below B5
      have X5 := HO4.out.2.below B5
      have Y5 : Fresh W5 w5.heap.size #[.int .i64 21, .int .u32 1] 35 := by rw [hW5]; exact Fresh.new _ _ _ _ rfl
      have a0 := (X5.cell 0).trans rfl
      have c0 := (Y5.cell 0).trans rfl
      simp only [List.getElem?_toArray, List.getElem?_cons_zero, List.getElem?_cons_succ] at a0 c0
      have HO5 := Lib.hid O5
      clear hW5 B5 O5 X5 Y5 hb5
      go_wp2_with (first
        | (go_at_call 18; with_reducible refine (HL.out _ _ HO5.out).mono ?_; rintro e' w6 ⟨rfl, hw6⟩; replace hw6 := hw6.symm; subst hw6)
        | (go_at_call 19; with_reducible refine (HRm.out _ _ HO5.out).mono ?_; rintro e' w6 ⟨rfl, hw6⟩; replace hw6 := hw6.symm; subst hw6))
      go_ret
      exact ⟨rfl, HO5.out.low⟩
end Go.Proofs.Ytiifogbdoajnoaa
