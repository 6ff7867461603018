/- The examples of the chapter. -/
import Derived.Test.YtjlfgmjcmicoaaaFair
namespace Go.Proofs.Ytjlfgmjcmicoaaa
open Go.RowKit
set_option maxRecDepth 100000

def ab : ByteArray := ⟨#[97, 98]⟩
def rOf (d lim : Int) : Req := ⟨d, 0, 0, 0, ab, ⟨#[]⟩, ⟨#[]⟩, lim, 0, 0, 0, 0⟩
theorem rOf_ok (d lim : Int) (h1 : -9223372036854775808 ≤ d ∧ d ≤ 9223372036854775807) (h2 : -9223372036854775808 ≤ lim ∧ lim ≤ 9223372036854775807) : (rOf d lim).Ok :=
  ⟨show ab.size ≤ maxLen by decide, show (⟨#[]⟩ : ByteArray).size ≤ maxLen by decide, show (⟨#[]⟩ : ByteArray).size ≤ maxLen by decide, h1, h2⟩
theorem way1 : wayN (rOf 1 0) = 19 := by decide
theorem way2 : wayN (rOf 2 0) = 22 := by decide
theorem way3 : wayN (rOf 3 0) = 25 := by decide
theorem way5 : wayN (rOf 5 2) = 139 := by decide
theorem bd1 : boundZ (rOf 2 0) 0 = 23 := by decide
theorem bd2 : boundZ (rOf 2 0) 2 = 67 := by decide
theorem bd3 : boundZ (rOf 5 2) 1 = 10149 := by decide
theorem en1 : enoughZ (rOf 1 0) 0 0 = 21 := by decide
theorem en2 : enoughZ (rOf 5 2) 0 0 = 3337 := by decide
theorem fa1 : fairB (rOf 2 0) ⟨24, 0, 0, 1⟩ = true := by decide
theorem fa2 : fairB (rOf 2 0) ⟨25, 0, 0, 1⟩ = false := by decide
theorem fa3 : fairB (rOf 2 0) ⟨20, 2, 0, 0⟩ = false := by decide

theorem ok1 : (rOf 1 0).Ok := rOf_ok 1 0 (by decide) (by decide)
theorem ok2 : (rOf 2 0).Ok := rOf_ok 2 0 (by decide) (by decide)
theorem ok3 : (rOf 3 0).Ok := rOf_ok 3 0 (by decide) (by decide)
theorem ok5 : (rOf 5 2).Ok := rOf_ok 5 2 (by decide) (by decide)

set_option maxHeartbeats 8000000 in
theorem awake_any (w : World) : Calls Try.prog 8 #[] w fun e w' => e = .returned (.bool true) ∧ Below w.heap.size w w' := by
  have FG0 : Hid (Fresh (((w.alloc (.cells #[.int .i64 1, .int .i64 0, .int .u32 0, .int .u8 0, .string ⟨#[97, 98]⟩, .string ⟨#[]⟩, .string ⟨#[]⟩, .int .i64 0, .int .i64 0, .int .u64 0, .int .u64 0, .int .u8 0] 31)).alloc (.cells #[.int .i64 2, .int .i64 0, .int .u32 0, .int .u8 0, .string ⟨#[97, 98]⟩, .string ⟨#[]⟩, .string ⟨#[]⟩, .int .i64 0, .int .i64 0, .int .u64 0, .int .u64 0, .int .u8 0] 31)).alloc (.cells #[.int .i64 5, .int .i64 0, .int .u32 0, .int .u8 0, .string ⟨#[97, 98]⟩, .string ⟨#[]⟩, .string ⟨#[]⟩, .int .i64 2, .int .i64 0, .int .u64 0, .int .u64 0, .int .u8 0] 31)) w.heap.size (Req.cells (rOf 1 0)) 31) := ((Fresh.new w w.heap.size (Req.cells (rOf 1 0)) 31 rfl).alloc _).alloc _
  have FP0 : Hid (Fresh (((w.alloc (.cells #[.int .i64 1, .int .i64 0, .int .u32 0, .int .u8 0, .string ⟨#[97, 98]⟩, .string ⟨#[]⟩, .string ⟨#[]⟩, .int .i64 0, .int .i64 0, .int .u64 0, .int .u64 0, .int .u8 0] 31)).alloc (.cells #[.int .i64 2, .int .i64 0, .int .u32 0, .int .u8 0, .string ⟨#[97, 98]⟩, .string ⟨#[]⟩, .string ⟨#[]⟩, .int .i64 0, .int .i64 0, .int .u64 0, .int .u64 0, .int .u8 0] 31)).alloc (.cells #[.int .i64 5, .int .i64 0, .int .u32 0, .int .u8 0, .string ⟨#[97, 98]⟩, .string ⟨#[]⟩, .string ⟨#[]⟩, .int .i64 2, .int .i64 0, .int .u64 0, .int .u64 0, .int .u8 0] 31)) (w.heap.size + 1) (Req.cells (rOf 2 0)) 31) := (Fresh.new (w.alloc (.cells #[.int .i64 1, .int .i64 0, .int .u32 0, .int .u8 0, .string ⟨#[97, 98]⟩, .string ⟨#[]⟩, .string ⟨#[]⟩, .int .i64 0, .int .i64 0, .int .u64 0, .int .u64 0, .int .u8 0] 31)) (w.heap.size + 1) (Req.cells (rOf 2 0)) 31 (by simp)).alloc _
  have FS0 : Hid (Fresh (((w.alloc (.cells #[.int .i64 1, .int .i64 0, .int .u32 0, .int .u8 0, .string ⟨#[97, 98]⟩, .string ⟨#[]⟩, .string ⟨#[]⟩, .int .i64 0, .int .i64 0, .int .u64 0, .int .u64 0, .int .u8 0] 31)).alloc (.cells #[.int .i64 2, .int .i64 0, .int .u32 0, .int .u8 0, .string ⟨#[97, 98]⟩, .string ⟨#[]⟩, .string ⟨#[]⟩, .int .i64 0, .int .i64 0, .int .u64 0, .int .u64 0, .int .u8 0] 31)).alloc (.cells #[.int .i64 5, .int .i64 0, .int .u32 0, .int .u8 0, .string ⟨#[97, 98]⟩, .string ⟨#[]⟩, .string ⟨#[]⟩, .int .i64 2, .int .i64 0, .int .u64 0, .int .u64 0, .int .u8 0] 31)) (w.heap.size + 1 + 1) (Req.cells (rOf 5 2)) 31) := Fresh.new ((w.alloc (.cells #[.int .i64 1, .int .i64 0, .int .u32 0, .int .u8 0, .string ⟨#[97, 98]⟩, .string ⟨#[]⟩, .string ⟨#[]⟩, .int .i64 0, .int .i64 0, .int .u64 0, .int .u64 0, .int .u8 0] 31)).alloc (.cells #[.int .i64 2, .int .i64 0, .int .u32 0, .int .u8 0, .string ⟨#[97, 98]⟩, .string ⟨#[]⟩, .string ⟨#[]⟩, .int .i64 0, .int .i64 0, .int .u64 0, .int .u64 0, .int .u8 0] 31)) (w.heap.size + 1 + 1) (Req.cells (rOf 5 2)) 31 (by simp)
  have B0 : Hid (Below w.heap.size w (((w.alloc (.cells #[.int .i64 1, .int .i64 0, .int .u32 0, .int .u8 0, .string ⟨#[97, 98]⟩, .string ⟨#[]⟩, .string ⟨#[]⟩, .int .i64 0, .int .i64 0, .int .u64 0, .int .u64 0, .int .u8 0] 31)).alloc (.cells #[.int .i64 2, .int .i64 0, .int .u32 0, .int .u8 0, .string ⟨#[97, 98]⟩, .string ⟨#[]⟩, .string ⟨#[]⟩, .int .i64 0, .int .i64 0, .int .u64 0, .int .u64 0, .int .u8 0] 31)).alloc (.cells #[.int .i64 5, .int .i64 0, .int .u32 0, .int .u8 0, .string ⟨#[97, 98]⟩, .string ⟨#[]⟩, .string ⟨#[]⟩, .int .i64 2, .int .i64 0, .int .u64 0, .int .u64 0, .int .u8 0] 31))) := (((Below.refl w.heap.size w).alloc (Nat.le_refl _) _).alloc (by simp) _).alloc (by simp; omega) _
  go_enter Try.func8, Try.ntmps8
  go_wp2_with fail
  refine (way_any (rOf 1 0) _ ok1).mono ?_
  rw [way1]
  rintro e w1 ⟨rfl, hb1⟩
  have FG1 := Lib.hid (FG0.out.below hb1)
  have FP1 := Lib.hid (FP0.out.below hb1)
  have FS1 := Lib.hid (FS0.out.below hb1)
  have B1 := Lib.hid (Below.step B0.out hb1)
  clear hb1 FG0 FP0 FS0 B0
  obtain ⟨c0, c1, c2, c3, c4, c5, c6, c7, c8, c9, c10, c11⟩ := req_cells FP1.out
  go_wp2_with fail
  refine (way_any (rOf 2 0) _ ok2).mono ?_
  rw [way2]
  rintro e w2 ⟨rfl, hb2⟩
  have FG2 := Lib.hid (FG1.out.below hb2)
  have FP2 := Lib.hid (FP1.out.below hb2)
  have FS2 := Lib.hid (FS1.out.below hb2)
  have B2 := Lib.hid (Below.step B1.out hb2)
  clear hb2 FG1 FP1 FS1 B1 c0 c1 c2 c3 c4 c5 c6 c7 c8 c9 c10 c11
  go_wp2_with fail
  refine (way_any (rOf 3 0) _ ok3).mono ?_
  rw [way3]
  rintro e w3 ⟨rfl, hb3⟩
  have FG3 := Lib.hid (FG2.out.below hb3)
  have FP3 := Lib.hid (FP2.out.below hb3)
  have FS3 := Lib.hid (FS2.out.below hb3)
  have B3 := Lib.hid (Below.step B2.out hb3)
  clear hb3 FG2 FP2 FS2 B2
  obtain ⟨c0, c1, c2, c3, c4, c5, c6, c7, c8, c9, c10, c11⟩ := req_cells FS3.out
  go_wp2_with fail
  refine (way_any (rOf 5 2) _ ok5).mono ?_
  rw [way5]
  rintro e w4 ⟨rfl, hb4⟩
  have FG4 := Lib.hid (FG3.out.below hb4)
  have FP4 := Lib.hid (FP3.out.below hb4)
  have FS4 := Lib.hid (FS3.out.below hb4)
  have B4 := Lib.hid (Below.step B3.out hb4)
  clear hb4 FG3 FP3 FS3 B3 c0 c1 c2 c3 c4 c5 c6 c7 c8 c9 c10 c11
  obtain ⟨c0, c1, c2, c3, c4, c5, c6, c7, c8, c9, c10, c11⟩ := req_cells FP4.out
  go_wp2_with fail
  refine (bound_any (rOf 2 0) 0 _ ok2).mono ?_
  rw [bd1]
  rintro e w5 ⟨rfl, hb5⟩
  have FG5 := Lib.hid (FG4.out.below hb5)
  have FP5 := Lib.hid (FP4.out.below hb5)
  have FS5 := Lib.hid (FS4.out.below hb5)
  have B5 := Lib.hid (Below.step B4.out hb5)
  clear hb5 FG4 FP4 FS4 B4 c0 c1 c2 c3 c4 c5 c6 c7 c8 c9 c10 c11
  obtain ⟨c0, c1, c2, c3, c4, c5, c6, c7, c8, c9, c10, c11⟩ := req_cells FP5.out
  go_wp2_with fail
  refine (bound_any (rOf 2 0) 2 _ ok2).mono ?_
  rw [bd2]
  rintro e w6 ⟨rfl, hb6⟩
  have FG6 := Lib.hid (FG5.out.below hb6)
  have FP6 := Lib.hid (FP5.out.below hb6)
  have FS6 := Lib.hid (FS5.out.below hb6)
  have B6 := Lib.hid (Below.step B5.out hb6)
  clear hb6 FG5 FP5 FS5 B5 c0 c1 c2 c3 c4 c5 c6 c7 c8 c9 c10 c11
  obtain ⟨c0, c1, c2, c3, c4, c5, c6, c7, c8, c9, c10, c11⟩ := req_cells FS6.out
  go_wp2_with fail
  refine (bound_any (rOf 5 2) 1 _ ok5).mono ?_
  rw [bd3]
  rintro e w7 ⟨rfl, hb7⟩
  have FG7 := Lib.hid (FG6.out.below hb7)
  have FP7 := Lib.hid (FP6.out.below hb7)
  have FS7 := Lib.hid (FS6.out.below hb7)
  have B7 := Lib.hid (Below.step B6.out hb7)
  clear hb7 FG6 FP6 FS6 B6 c0 c1 c2 c3 c4 c5 c6 c7 c8 c9 c10 c11
  obtain ⟨c0, c1, c2, c3, c4, c5, c6, c7, c8, c9, c10, c11⟩ := req_cells FG7.out
  go_wp2_with fail
  refine (enough_any (rOf 1 0) 0 0 _ ok1).mono ?_
  rw [en1]
  rintro e w8 ⟨rfl, hb8⟩
  have FG8 := Lib.hid (FG7.out.below hb8)
  have FP8 := Lib.hid (FP7.out.below hb8)
  have FS8 := Lib.hid (FS7.out.below hb8)
  have B8 := Lib.hid (Below.step B7.out hb8)
  clear hb8 FG7 FP7 FS7 B7 c0 c1 c2 c3 c4 c5 c6 c7 c8 c9 c10 c11
  obtain ⟨c0, c1, c2, c3, c4, c5, c6, c7, c8, c9, c10, c11⟩ := req_cells FS8.out
  go_wp2_with fail
  refine (enough_any (rOf 5 2) 0 0 _ ok5).mono ?_
  rw [en2]
  rintro e w9 ⟨rfl, hb9⟩
  have FG9 := Lib.hid (FG8.out.below hb9)
  have FP9 := Lib.hid (FP8.out.below hb9)
  have FS9 := Lib.hid (FS8.out.below hb9)
  have B9 := Lib.hid (Below.step B8.out hb9)
  clear hb9 FG8 FP8 FS8 B8 c0 c1 c2 c3 c4 c5 c6 c7 c8 c9 c10 c11
  obtain ⟨c0, c1, c2, c3, c4, c5, c6, c7, c8, c9, c10, c11⟩ := req_cells FP9.out
  go_wp2_with fail
  refine (fair_any (rOf 2 0) ⟨24, 0, 0, 1⟩ _ ok2).mono ?_
  rw [fa1]
  rintro e w10 ⟨rfl, hb10⟩
  have FG10 := Lib.hid (FG9.out.below hb10)
  have FP10 := Lib.hid (FP9.out.below hb10)
  have FS10 := Lib.hid (FS9.out.below hb10)
  have B10 := Lib.hid (Below.step B9.out hb10)
  clear hb10 FG9 FP9 FS9 B9 c0 c1 c2 c3 c4 c5 c6 c7 c8 c9 c10 c11
  obtain ⟨c0, c1, c2, c3, c4, c5, c6, c7, c8, c9, c10, c11⟩ := req_cells FP10.out
  go_wp2_with fail
  refine (fair_any (rOf 2 0) ⟨25, 0, 0, 1⟩ _ ok2).mono ?_
  rw [fa2]
  rintro e w11 ⟨rfl, hb11⟩
  have FG11 := Lib.hid (FG10.out.below hb11)
  have FP11 := Lib.hid (FP10.out.below hb11)
  have FS11 := Lib.hid (FS10.out.below hb11)
  have B11 := Lib.hid (Below.step B10.out hb11)
  clear hb11 FG10 FP10 FS10 B10 c0 c1 c2 c3 c4 c5 c6 c7 c8 c9 c10 c11
  obtain ⟨c0, c1, c2, c3, c4, c5, c6, c7, c8, c9, c10, c11⟩ := req_cells FP11.out
  go_wp2_with fail
  refine (fair_any (rOf 2 0) ⟨20, 2, 0, 0⟩ _ ok2).mono ?_
  rw [fa3]
  rintro e w12 ⟨rfl, hb12⟩
  have FG12 := Lib.hid (FG11.out.below hb12)
  have FP12 := Lib.hid (FP11.out.below hb12)
  have FS12 := Lib.hid (FS11.out.below hb12)
  have B12 := Lib.hid (Below.step B11.out hb12)
  clear hb12 FG11 FP11 FS11 B11 c0 c1 c2 c3 c4 c5 c6 c7 c8 c9 c10 c11
  go_wp2_with fail
  go_ret
  exact ⟨rfl, B12.out⟩

end Go.Proofs.Ytjlfgmjcmicoaaa
