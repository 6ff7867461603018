/- The examples of the chapter. -/
import Derived.Test.YtioacpcmcnjgaaaOpsF
import Derived.Deep.RegionHeld3
namespace Go.Proofs.Ytioacpcmcnjgaaa
open Go.RowKit
set_option maxRecDepth 100000
set_option maxHeartbeats 4000000

structure On (w W : World) (p q B : Nat) (l : List En) : Prop where
  few : FewAt W p q l 4
  box : Fresh W B #[.int .i64 1, .int .u32 1] 35
  low : Below w.heap.size w W
  hq : w.heap.size ≤ q
  ne : B ≠ q
theorem On.turned {w W W' : World} {p q B : Nat} {l l' : List En} (h : On w W p q B l) (ht : Turned [q] W W') (hf : FewAt W' p q l' 4) : On w W' p q B l' :=
  ⟨hf, ht.other h.box (by simp; exact h.ne), ht.below h.low (by simp; exact h.hq) h.low.size, h.hq, h.ne⟩
theorem On.below {w W W' : World} {p q B : Nat} {l : List En} (h : On w W p q B l) (hb : Below W.heap.size W W') : On w W' p q B l :=
  ⟨h.few.below hb, h.box.below hb, h.low.trans (hb.mono h.low.size), h.hq, h.ne⟩
theorem On.drew {w W : World} {p q B : Nat} {l : List En} (h : On w W p q B l) : On w W.drew p q B l := ⟨h.few.drew, h.box, h.low.drew, h.hq, h.ne⟩
theorem On.ref {w W : World} {p q B : Nat} {l : List En} (h : On w W p q B l) : W.cell? ⟨B, 0, none⟩ = some (.int .i64 1) ∧ W.cell? ⟨B, 1, none⟩ = some (.int .u32 1) := ⟨(h.box.cell 0).trans rfl, (h.box.cell 1).trans rfl⟩
theorem put_on {w W : World} {p q B : Nat} {l : List En} (h : On w W p q B l) (b : UInt8) (z v : Int) (l' : List En) (hz : (b.toNat : Int) = z) (hl : l.length ≤ 4) (hv : putE b l 4 = v) (hl' : putS b 1 1 l 4 = l') :
    Calls Try.prog 12 #[.pointer (some ⟨p, 0, none⟩), .int .u8 z, .agg #[.int .i64 1, .int .u32 1]] W fun e w' => e = .returned (.int .i64 v) ∧ On w w' p q B l' := by
  subst hz hv hl'
  refine (put_any h.few (by omega) hl b 1 1).mono ?_
  rintro e w' ⟨rfl, ht, hf⟩
  exact ⟨rfl, h.turned ht hf⟩
theorem next_on {w W : World} {p q B : Nat} {l : List En} (h : On w W p q B l) (f : Int) (V : Value) (hV : nextV f l = V) :
    Calls Try.prog 16 #[.pointer (some ⟨p, 0, none⟩), .int .i64 f] W fun e w' => e = .returned V ∧ On w w' p q B l := by
  subst hV
  refine (next_any h.few f).mono ?_
  rintro e w' ⟨rfl, hb⟩
  exact ⟨rfl, h.below hb⟩

def Bx (W : World) (q B : Nat) : Prop := Fresh W B #[.int .i64 1, .int .u32 1] 35 ∧ B ≠ q
theorem Bx.turned {W W' : World} {q B : Nat} (h : Bx W q B) (ht : Turned [q] W W') : Bx W' q B := ⟨ht.other h.1 (by simp; exact h.2), h.2⟩
theorem Bx.drew {W : World} {q B : Nat} (h : Bx W q B) : Bx W.drew q B := h
theorem Bx.ref {W : World} {q B : Nat} (h : Bx W q B) : W.cell? ⟨B, 0, none⟩ = some (.int .i64 1) ∧ W.cell? ⟨B, 1, none⟩ = some (.int .u32 1) := ⟨(h.1.cell 0).trans rfl, (h.1.cell 1).trans rfl⟩
theorem put_on2 {w W : World} {p q B : Nat} {l : List En} (h : On w W p q B l) (b : UInt8) (z v : Int) (l' : List En) (hz : (b.toNat : Int) = z) (hl : l.length ≤ 4) (hv : putE b l 4 = v) (hl' : putS b 1 1 l 4 = l') :
    Calls Try.prog 12 #[.pointer (some ⟨p, 0, none⟩), .int .u8 z, .agg #[.int .i64 1, .int .u32 1]] W fun e w' => e = .returned (.int .i64 v) ∧ On w w' p q B l' ∧ Turned [q] W w' := by
  subst hz hv hl'
  refine (put_any h.few (by omega) hl b 1 1).mono ?_
  rintro e w' ⟨rfl, ht, hf⟩
  exact ⟨rfl, h.turned ht hf, ht⟩
theorem take_on {w W : World} {p q B : Nat} {l : List En} (h : On w W p q B l) (b : UInt8) (z v : Int) (V : Value) (l' : List En) (hz : (b.toNat : Int) = z) (hv : (if isIn b l = true then 0 else 5) = v) (hV : refOf b l = V) (hl' : takeS b l = l') :
    Calls Try.prog 14 #[.pointer (some ⟨p, 0, none⟩), .int .u8 z] W fun e w' => e = .returned (.tuple #[V, .int .i64 v]) ∧ On w w' p q B l' ∧ Turned [q] W w' := by
  subst hz hv hl' hV
  refine (take_any h.few b).mono ?_
  rintro e w' ⟨rfl, ht, hf⟩
  exact ⟨rfl, h.turned ht hf, ht⟩

theorem awake_any (w : World) : Calls Try.prog 7 #[] w fun e w' => e = .returned (.bool true) ∧ Below w.heap.size w w' := by
  have HNew : Hid (∀ W : World, Calls Try.prog 8 #[.int .i64 4] W fun e w' => e = .returned (.tuple #[.pointer (some ⟨W.heap.size + 1, 0, none⟩), .int .i64 0]) ∧ Below W.heap.size W w' ∧ FewAt w' (W.heap.size + 1) W.heap.size [] 4) := Lib.hid fun W => new_yes 4 (.inl rfl) W
  go_enter Try.func7, Try.ntmps7
  go_upto_region 3 with (go_at_call 8; refine (HNew.out _).mono ?_; rintro e w1 ⟨rfl, hb1, hf1⟩)
  obtain ⟨p, hp⟩ : ∃ p, p = w.heap.size + 1 := ⟨_, rfl⟩
  obtain ⟨q, hq⟩ : ∃ q, q = w.heap.size := ⟨_, rfl⟩
  rw [← hp, ← hq] at hf1
  rw [← hp]
  obtain ⟨B, hB⟩ : ∃ B, B = w1.heap.size := ⟨_, rfl⟩
  rw [← hB]
  obtain ⟨W1, hW1⟩ : ∃ W1, W1 = w1.alloc (.cells #[.int .i64 1, .int .u32 1] 35) := ⟨_, rfl⟩
  rw [← hW1]
  have O1 : Hid (On w W1 p q B []) := by
    have hl := hf1.row.lt
    show On _ _ _ _ _ _
    rw [hW1]
    exact ⟨hf1.below (Below.new (Below.refl _ _) _), Fresh.new _ _ _ _ hB.symm, Below.new hb1 _, by omega, by omega⟩
  clear hW1 hB hb1 hf1 hp hq
  obtain ⟨r0, r1⟩ := O1.out.ref
  go_region_held3 (fun W' => W'.cell? ⟨B, 0, none⟩ = some (.int .i64 1) ∧ W'.cell? ⟨B, 1, none⟩ = some (.int .u32 1))
    (first | go_keep | exact O4.out.ref | exact O3.out.ref | exact O2.out.ref)
    (first
      | (have _t := O3
         go_at_call 12
         refine (put_on O3.out 7 7 0 [(3, 1, 1), (7, 1, 1), (9, 1, 1)] rfl (by decide) (by decide) (by decide)).mono ?_
         rintro e w4 ⟨rfl, h⟩
         have O4 := Lib.hid h
         clear h)
      | (have _t := O2
         go_at_call 12
         refine (put_on O2.out 3 3 0 [(3, 1, 1), (9, 1, 1)] rfl (by decide) (by decide) (by decide)).mono ?_
         rintro e w3 ⟨rfl, h⟩
         have O3 := Lib.hid h
         clear h)
      | (go_at_call 12
         refine (put_on O1.out.drew 9 9 0 [(9, 1, 1)] rfl (by decide) (by decide) (by decide)).mono ?_
         rintro e w2 ⟨rfl, h⟩
         have O2 := Lib.hid h
         clear h))
  clear r0 r1
  go_upto_region 5 with (go_at_call 16; refine (next_on O4.out 4 (.tuple #[.int .u8 7, .agg #[.int .i64 1, .int .u32 1], .bool true]) rfl).mono ?_; rintro e w5 ⟨rfl, h⟩; have O5 := Lib.hid h; clear h)
  obtain ⟨B8, hB8⟩ : ∃ B, B = w5.heap.size := ⟨_, rfl⟩
  rw [← hB8]
  obtain ⟨W5, hW5⟩ : ∃ W5, W5 = w5.alloc (.cells #[.int .i64 1, .int .u32 1] 35) := ⟨_, rfl⟩
  rw [← hW5]
  have O6 : Hid (On w W5 p q B [(3, 1, 1), (7, 1, 1), (9, 1, 1)]) := by show On _ _ _ _ _ _; rw [hW5]; exact O5.out.below (Below.new (Below.refl _ _) _)
  have X6 : Hid (Bx W5 q B8) := by
    have := O5.out.few.row.lt
    show Bx _ _ _
    rw [hW5]; exact ⟨Fresh.new _ _ _ _ hB8.symm, by omega⟩
  clear hW5 hB8
  obtain ⟨r0, r1⟩ := O6.out.ref
  go_region_held3 (fun W' => W'.cell? ⟨B, 0, none⟩ = some (.int .i64 1) ∧ W'.cell? ⟨B, 1, none⟩ = some (.int .u32 1))
    (first | go_keep | exact O9.out.ref | exact O8.out.ref | exact O7.out.ref)
    (first
      | (have _t := O8
         go_at_call 12
         refine (put_on2 O8.out 2 2 14 [(1, 1, 1), (3, 1, 1), (7, 1, 1), (9, 1, 1)] rfl (by decide) (by decide) (by decide)).mono ?_
         rintro e w9 ⟨rfl, h, ht⟩
         have O9 := Lib.hid h
         have X9 := Lib.hid (X8.out.turned ht)
         clear h ht)
      | (have _t := O7
         go_at_call 12
         refine (put_on2 O7.out 1 1 0 [(1, 1, 1), (3, 1, 1), (7, 1, 1), (9, 1, 1)] rfl (by decide) (by decide) (by decide)).mono ?_
         rintro e w8 ⟨rfl, h, ht⟩
         have O8 := Lib.hid h
         have X8 := Lib.hid (X7.out.turned ht)
         clear h ht)
      | (go_at_call 12
         refine (put_on2 O6.out.drew 3 3 8 [(3, 1, 1), (7, 1, 1), (9, 1, 1)] rfl (by decide) (by decide) (by decide)).mono ?_
         rintro e w7 ⟨rfl, h, ht⟩
         have O7 := Lib.hid h
         have X7 := Lib.hid (X6.out.drew.turned ht)
         clear h ht))
  clear r0 r1
  go_upto_region 7 with (go_at_call 14; refine (take_on O9.out 3 3 0 (.agg #[.int .i64 1, .int .u32 1]) [(1, 1, 1), (7, 1, 1), (9, 1, 1)] rfl (by decide) rfl (by decide)).mono ?_; rintro e w10 ⟨rfl, h, ht⟩; have O10 := Lib.hid h; have X10 := Lib.hid (X9.out.turned ht); clear h ht)
  obtain ⟨B13, hB13⟩ : ∃ B, B = w10.heap.size := ⟨_, rfl⟩
  rw [← hB13]
  obtain ⟨W10, hW10⟩ : ∃ W, W = w10.alloc (.cells #[.int .i64 1, .int .u32 1] 35) := ⟨_, rfl⟩
  rw [← hW10]
  have low10 : Below w10.heap.size w10 W10 := by rw [hW10]; exact Below.new (Below.refl _ _) _
  have O11 := Lib.hid (O10.out.below low10)
  have F8 := Lib.hid (X10.out.1.below low10)
  have F13 : Hid (Fresh W10 B13 #[.int .i64 1, .int .u32 1] 35) := by show Fresh _ _ _ _; rw [hW10]; exact Fresh.new _ _ _ _ hB13.symm
  clear hW10 hB13 low10
  go_upto_region 8 with (go_at_call 16; refine (next_any O11.out.few 0).mono ?_; rintro e w12 ⟨rfl, hb⟩; have O12 := Lib.hid (O11.out.below hb); have F8' := Lib.hid (F8.out.below hb); have F13' := Lib.hid (F13.out.below hb); rw [show nextV 0 [(1, 1, 1), (7, 1, 1), (9, 1, 1)] = .tuple #[.int .u8 1, .agg #[.int .i64 1, .int .u32 1], .bool true] from rfl]; clear hb)
  obtain ⟨W12, hW12⟩ : ∃ W, W = w12.alloc (.cells #[.int .i64 1, .int .u32 1] 35) := ⟨_, rfl⟩
  rw [← hW12]
  have low12 : Below w12.heap.size w12 W12 := by rw [hW12]; exact Below.new (Below.refl _ _) _
  have O13 := Lib.hid (O12.out.below low12)
  have G8 := Lib.hid (F8'.out.below low12)
  have G13 := Lib.hid (F13'.out.below low12)
  clear hW12 low12
  obtain ⟨r0, r1⟩ := O13.out.ref
  have a0 := (G8.out.cell 0).trans rfl
  have a1 := (G8.out.cell 1).trans rfl
  have c0 := (G13.out.cell 0).trans rfl
  have c1 := (G13.out.cell 1).trans rfl
  simp only [List.getElem?_toArray, List.getElem?_cons_zero, List.getElem?_cons_succ] at a0 a1 c0 c1
  have HL : Hid (Calls Try.prog 18 #[.pointer (some ⟨p, 0, none⟩)] W12 fun e w' => e = .returned (.int .i64 3) ∧ w' = W12) := Lib.hid (len_any O13.out.few)
  go_wp2_with (go_at_call 18; refine HL.out.mono ?_; rintro e w1 ⟨rfl, hw⟩; replace hw := hw.symm; subst hw)
  go_ret
  exact ⟨rfl, O13.out.low⟩
end Go.Proofs.Ytioacpcmcnjgaaa
