/- The methods of a table: Put, Next, New, Copy. -/
import Derived.Test.YtjaijomkdgoenaaDoorFwFew
import Derived.Deep.RegionWith
namespace Go.Proofs.YtjaijomkdgoenaaDoor.Fw
open Go.RowKit
set_option maxRecDepth 100000
set_option maxHeartbeats 2000000

/-- The error of Put. -/
def putE (b : UInt8) (l : List En) (room : Nat) : Int := if isIn b l = true then 8 else if l.length = room then 14 else 0
theorem put_no {W : World} {p q : Nat} {l : List En} {room : Nat} (h : FewAt W p q l room) (b : UInt8) (s g : Int) (hi : isIn b l = true ∨ l.length = room) :
    Calls Tryd.prog 85 #[.pointer (some ⟨p, 0, none⟩), .int .u8 (b.toNat : Int), refV s g] W fun e w' => e = .returned (.int .i64 (putE b l room)) ∧ Below W.heap.size W w' := by
  obtain ⟨W0, hO⟩ := h.opened s g
  have p0 := hO.few.ptr
  have HN := Lib.hid (isNil_any hO.few)
  have HP := place_any b hO.few.row
  have HW0 := Lib.hid hO.is
  have HO := Lib.hid hO
  cases hin : isIn b l
  · have hr : l.length = room := by rcases hi with h1 | h1 <;> simp_all
    have hE : putE b l room = 14 := by rw [putE, hin, if_neg (by simp), if_pos hr]
    rw [hE]
    rw [hin] at HP
    replace HP := Lib.hid HP
    have HR := Lib.hid hr
    clear hO h hi hin hr hE
    go_enter Tryd.func85, Tryd.ntmps85
    go_upto_region 6 with (first
      | (rw [← HW0.out]; go_at_call 89; refine HN.out.mono ?_; rintro e w1 ⟨rfl, rfl⟩)
      | (go_at_call 91; refine HP.out.mono ?_; rintro e w1 ⟨rfl, hb1⟩))
    have h1 := HO.out.few.below hb1
    have p1 := h1.ptr
    have n1 := h1.row.n
    have r1 := h1.row.room
    rw [HR.out] at n1
    clear h1
    have HB := Lib.hid (Below.step HO.out.low hb1)
    clear hb1
    go_region
    go_wp2_with fail
    go_ret
    exact ⟨rfl, HB.out.drew⟩
  · have hE : putE b l room = 8 := by rw [putE, hin, if_pos rfl]
    rw [hE]
    rw [hin] at HP
    replace HP := Lib.hid HP
    clear hO h hi hin hE
    go_enter Tryd.func85, Tryd.ntmps85
    go_wp2_with (first
      | (rw [← HW0.out]; go_at_call 89; refine HN.out.mono ?_; rintro e w1 ⟨rfl, rfl⟩)
      | (go_at_call 91; refine HP.out.mono ?_; rintro e w1 ⟨rfl, hb1⟩))
    go_ret
    exact ⟨rfl, Below.step HO.out.low hb1⟩
theorem put_yes {W : World} {p q : Nat} {l : List En} {room : Nat} (h : FewAt W p q l room) (hr : room ≤ 16) (b : UInt8) (s g : Int) (hi : isIn b l = false) (hne : l.length ≠ room) (hle : l.length ≤ room) :
    Calls Tryd.prog 85 #[.pointer (some ⟨p, 0, none⟩), .int .u8 (b.toNat : Int), refV s g] W fun e w' => e = .returned (.int .i64 0) ∧ Turned [q] W w' ∧ FewAt w' p q (l.insertIdx (placeIx b l) (b, s, g)) room := by
  obtain ⟨W0, hO⟩ := h.opened s g
  have p0 := hO.few.ptr
  have HN := Lib.hid (isNil_any hO.few)
  have HP := place_any b hO.few.row
  have HW0 := Lib.hid hO.is
  have HO := Lib.hid hO
  rw [hi] at HP
  have hpl : placeIx b l ≤ l.length := firstIx_le _ _
  obtain ⟨i, hix⟩ : ∃ i, placeIx b l = i := ⟨_, rfl⟩
  rw [hix] at HP hpl ⊢
  replace HP := Lib.hid HP
  have HH := Lib.hid h
  have q0 : ((l.length : Int) == (room : Int)) = false := by rw [beq_eq_false_iff_ne]; omega
  have hlt : l.length < 16 := by omega
  have HL := Lib.hid (And.intro hlt hpl)
  clear hO h hi hix hne hle hr hlt hpl
  go_enter Tryd.func85, Tryd.ntmps85
  go_upto_region 6 with (first
    | (rw [← HW0.out]; go_at_call 89; refine HN.out.mono ?_; rintro e w1 ⟨rfl, rfl⟩)
    | (go_at_call 91; refine HP.out.mono ?_; rintro e w1 ⟨rfl, hb1⟩))
  have h1 := HO.out.few.below hb1
  have bx := HO.out.box.below hb1
  have p1 := h1.ptr
  have n1 := h1.row.n
  have r1 := h1.row.room
  have b0 := bx.cell 0
  have b1 := bx.cell 1
  simp only [List.getElem?_toArray, List.getElem?_cons_zero, List.getElem?_cons_succ] at b0 b1
  have HB := Lib.hid (Below.step HO.out.low hb1)
  have HI : Hid (∀ W', FewAt W' p q l room → Calls Tryd.prog 92 #[.pointer (some ⟨q, 0, none⟩), .int .i64 (i : Int), .int .u8 (b.toNat : Int), .agg #[.int .i64 s, .int .u32 g]] W' fun e w' => e = .returned (.tuple #[]) ∧ Turned [q] W' w' ∧ RowAt w' q (l.insertIdx i (b, s, g)) room) := Lib.hid fun W' h' => insert_any h'.row HL.out.1 i HL.out.2 b s g
  have H1 := Lib.hid h1
  clear h1 bx hb1
  go_region
  go_wp2_with fail
  go_region_with (go_at_call 92; refine (HI.out _ (H1.out.drew.drew)).mono ?_; rintro e w3 ⟨rfl, ht3, hr3⟩)
  all_goals
    go_wp2_with fail
    go_ret
    have T3 : Turned [q] W w3 := ((Turned.of_below HB.out).drew.drew).trans ht3
    exact ⟨rfl, T3, HH.out.moved T3 hr3⟩

/-- The place of the first byte from a number on. -/
def nextIx (f : Int) (l : List En) : Nat := firstIx (fun c => decide (f ≤ (c.toNat : Int))) l
def nextV (f : Int) (l : List En) : Value := match l[nextIx f l]? with
  | some x => .tuple #[.int .u8 (x.1.toNat : Int), refV x.2.1 x.2.2, .bool true]
  | none => .tuple #[.int .u8 0, refV 0 0, .bool false]
theorem new_no (r : Int) (h4 : r ≠ 4) (h16 : r ≠ 16) (w : World) :
    Calls Tryd.prog 42 #[.int .i64 r] w fun e w' => e = .returned (.tuple #[.pointer none, .int .i64 2]) ∧ w' = w := by
  have q1 : (r != 4) = true := by simpa using h4
  have q2 : (r != 16) = true := by simpa using h16
  have q3 : (r != 4 && r != 16) = true := by rw [q1, q2]; rfl
  have H := Lib.hid q3
  clear h4 h16
  go_enter Tryd.func42, Tryd.ntmps42
  go_wp2
  all_goals first
    | (go_ret2; exact ⟨rfl, rfl⟩)
    | (exfalso; have := H.out; simp_all; done)
theorem any_cells {W : World} {q : Nat} {cs : Array Value} {T : TypeId} (h : Fresh W q cs T) (hs : cs.size = 50) (ha : cs.toList.all (·.oneCell') = true) (j : Nat) (hj : j < 50) : ∃ v, W.cell? ⟨q, j, none⟩ = some v ∧ v.oneCell' = true := by
  have hlt : j < cs.size := by omega
  refine ⟨cs[j], by rw [h.cell, Array.getElem?_eq_getElem hlt], ?_⟩
  rw [List.all_eq_true] at ha
  exact ha _ (by simp)
def row0 (r : Int) : Array Value := #[.int .u8 0, .int .u8 0, .int .u8 0, .int .u8 0, .int .u8 0, .int .u8 0, .int .u8 0, .int .u8 0, .int .u8 0, .int .u8 0, .int .u8 0, .int .u8 0, .int .u8 0, .int .u8 0, .int .u8 0, .int .u8 0,
  .int .i64 0, .int .u32 0, .int .i64 0, .int .u32 0, .int .i64 0, .int .u32 0, .int .i64 0, .int .u32 0, .int .i64 0, .int .u32 0, .int .i64 0, .int .u32 0, .int .i64 0, .int .u32 0, .int .i64 0, .int .u32 0,
  .int .i64 0, .int .u32 0, .int .i64 0, .int .u32 0, .int .i64 0, .int .u32 0, .int .i64 0, .int .u32 0, .int .i64 0, .int .u32 0, .int .i64 0, .int .u32 0, .int .i64 0, .int .u32 0, .int .i64 0, .int .u32 0, .int .i64 0, .int .i64 r]
theorem row0_at {W : World} {q : Nat} {T : TypeId} (room : Nat) (h : Fresh W q (row0 (room : Int)) T) : RowAt W q [] room :=
  ⟨by simp, fun j hj => by simp at hj, fun j hj => by simp at hj, fun j hj => by simp at hj, h.cell 48, h.cell 49, any_cells h rfl rfl, fun j _ => h.thawed j⟩
theorem new_yes (room : Nat) (h : room = 4 ∨ room = 16) (w : World) :
    Calls Tryd.prog 42 #[.int .i64 (room : Int)] w fun e w' => e = .returned (.tuple #[.pointer (some ⟨w.heap.size + 1, 0, none⟩), .int .i64 0]) ∧ Below w.heap.size w w' ∧ FewAt w' (w.heap.size + 1) w.heap.size [] room := by
  obtain ⟨W0, hW0⟩ : ∃ W0, W0 = (w.alloc (.cells (row0 (room : Int)) 84)).alloc (.cells #[.pointer (some ⟨w.heap.size, 0, none⟩)] 86) := ⟨_, rfl⟩
  have low : Below w.heap.size w W0 := by rw [hW0]; exact Below.new (Below.new (Below.refl _ _) _) _
  have F : FewAt W0 (w.heap.size + 1) w.heap.size [] room := by
    rw [hW0]
    refine ⟨((Fresh.new _ _ _ _ (by simp)).cell 0).trans rfl, row0_at room ((Fresh.new _ _ _ _ rfl).alloc _), by omega⟩
  have FIN := Lib.hid (And.intro low F)
  have HW0 := Lib.hid hW0
  unfold row0 at HW0
  clear low F hW0
  rcases h with rfl | rfl
  all_goals
    go_enter Tryd.func42, Tryd.ntmps42
    go_wp2
    go_ret2
    exact ⟨rfl, by have := FIN.out; rw [HW0.out] at this; exact this⟩
end Go.Proofs.YtjaijomkdgoenaaDoor.Fw
