/- The examples of the chapter. -/
import Derived.Test.YtcfkaginjcgmhaaDoorRefs3
namespace Go.Proofs.YtcfkaginjcgmhaaDoor
open Go.RowKit
set_option maxRecDepth 100000
set_option maxHeartbeats 4000000

theorem rz0 : readZ (⟨#[51, 46, 50, 46, 114, 115]⟩ : ByteArray).data.toList = some (3, 2, 5) := readZ_some (by decide) (by simp [textL, Lib.decDigits, lettersL])
theorem rz1 : readZ (⟨#[51, 46, 50, 46]⟩ : ByteArray).data.toList = none := by
  unfold readZ; exact if_neg (fun h => absurd h.1 (by decide))
theorem rz2 : readZ (⟨#[48, 51, 46, 50, 46, 114]⟩ : ByteArray).data.toList = none := by
  have h : looseL (⟨#[48, 51, 46, 50, 46, 114]⟩ : ByteArray).data.toList = ⟨3, 2, 0, 2, 1⟩ := rfl
  unfold readZ; rw [h]; exact if_neg (fun h => absurd h.2 (by simp [textL, Lib.decDigits, lettersL]))
theorem rz3 : readZ (⟨#[51, 46, 50, 46, 115, 114]⟩ : ByteArray).data.toList = none := by
  have h : looseL (⟨#[51, 46, 50, 46, 115, 114]⟩ : ByteArray).data.toList = ⟨3, 2, 0, 2, 5⟩ := rfl
  unfold readZ; rw [h]; exact if_neg (fun h => absurd h.2 (by simp [textL, Lib.decDigits, lettersL]))
theorem rz4 : readZ (⟨#[49, 55, 46, 49, 46, 114]⟩ : ByteArray).data.toList = none := by
  unfold readZ; exact if_neg (fun h => absurd h.1 (by decide))
theorem tz0 : textB 3 2 5 = ⟨#[51, 46, 50, 46, 114, 115]⟩ := bytes_ext (by rw [textB_list]; simp [textL, Lib.decDigits, lettersL])

theorem awake_any (w : World) (htab : Tab w) (herr : Errs w) :
    Calls Tryd.prog 10 #[] w fun e w' => e = .returned (.bool true) ∧ Below w.heap.size w w' := by
  have HT := Lib.hid htab
  have HE := Lib.hid herr
  have HB0 := Lib.hid ((Below.refl w.heap.size w).alloc (Nat.le_refl _) (.cells #[.int .i64 3, .int .u32 2, .int .u8 5] 25))
  have HF0 := Lib.hid (Fresh.new w _ #[.int .i64 3, .int .u32 2, .int .u8 5] 25 rfl)
  clear htab herr
  go_enter Tryd.func10, Tryd.ntmps10
  go_wp2_with fail
  refine (show_yes 3 2 5 (by decide) _ (HT.out.on HB0.out)).mono ?_
  rw [tz0]
  rintro e w1 ⟨rfl, hb1⟩
  have HB1 := Lib.hid (Below.step HB0.out hb1)
  have HF1 := Lib.hid (HF0.out.below hb1)
  clear hb1
  go_wp2_with fail
  refine (read_any _ _ (by decide) (HT.out.on HB1.out) (HE.out.on HB1.out)).mono ?_
  rw [rz0]
  rintro e w2 ⟨rfl, hb2⟩
  have HB2 := Lib.hid (Below.step HB1.out hb2)
  have HF2 := Lib.hid (HF1.out.below hb2)
  clear hb2
  have hrv : readV (some (3, 2, 5)) = .tuple #[hv (3 : Nat) (2 : Nat) (5 : Nat), .int .i64 0] := rfl
  rw [hrv]
  go_wp2_with fail
  have hrn : readV none = .tuple #[hv 0 0 0, .int .i64 7] := rfl
  go_loopw [0, 7, 8, 9] (fun x i y z wr => ∃ k : Nat, k ≤ 4 ∧ i = .int .i64 k ∧ Below w.heap.size w wr ∧ Fresh wr w.heap.size #[.int .i64 3, .int .u32 2, .int .u8 5] 25 ∧ Fresh wr w2.heap.size #[.int .i64 3, .int .u32 2, .int .u8 5] 25 ∧ Fresh wr (w2.heap.size + 1) #[.string ⟨#[51, 46, 50, 46]⟩, .string ⟨#[48, 51, 46, 50, 46, 114]⟩, .string ⟨#[51, 46, 50, 46, 115, 114]⟩, .string ⟨#[49, 55, 46, 49, 46, 114]⟩] 9) (fun x i y z _ => 4 - (intOf i).toNat)
  case atStart => exact ⟨0, by omega, rfl, Below.new (Below.new HB2.out _) _, (HF2.out.alloc _).alloc _, (Fresh.new _ _ _ _ rfl).alloc _, Fresh.new _ _ _ _ (by simp)⟩
  case round =>
    obtain ⟨k, hk, rfl, hB, hF, hG, hS⟩ := hrel
    have s0 := hS.cell 0
    have s1 := hS.cell 1
    have s2 := hS.cell 2
    have s3 := hS.cell 3
    simp only [List.getElem?_toArray, List.getElem?_cons_zero, List.getElem?_cons_succ] at s0 s1 s2 s3
    rcases (show k = 0 ∨ k = 1 ∨ k = 2 ∨ k = 3 ∨ k = 4 from by omega) with rfl | rfl | rfl | rfl | rfl
    · go_wp2_with fail
      refine (read_any _ _ (by decide) (HT.out.on hB) (HE.out.on hB)).mono ?_
      rw [rz1, hrn]
      rintro e w3 ⟨rfl, hb3⟩
      have HB3 := Lib.hid (Below.step hB hb3)
      have HF3 := Lib.hid (hF.below hb3)
      have HS3 := Lib.hid (hS.below hb3)
      have HG3 := Lib.hid (hG.below hb3)
      clear hb3
      go_wp2_with fail
      exact ⟨⟨1, by omega, rfl, Below.new HB3.out _, HF3.out.alloc _, HG3.out.alloc _, HS3.out.alloc _⟩, by simp [intOf]⟩
    · go_wp2_with fail
      refine (read_any _ _ (by decide) (HT.out.on hB) (HE.out.on hB)).mono ?_
      rw [rz2, hrn]
      rintro e w3 ⟨rfl, hb3⟩
      have HB3 := Lib.hid (Below.step hB hb3)
      have HF3 := Lib.hid (hF.below hb3)
      have HS3 := Lib.hid (hS.below hb3)
      have HG3 := Lib.hid (hG.below hb3)
      clear hb3
      go_wp2_with fail
      exact ⟨⟨2, by omega, rfl, Below.new HB3.out _, HF3.out.alloc _, HG3.out.alloc _, HS3.out.alloc _⟩, by simp [intOf]⟩
    · go_wp2_with fail
      refine (read_any _ _ (by decide) (HT.out.on hB) (HE.out.on hB)).mono ?_
      rw [rz3, hrn]
      rintro e w3 ⟨rfl, hb3⟩
      have HB3 := Lib.hid (Below.step hB hb3)
      have HF3 := Lib.hid (hF.below hb3)
      have HS3 := Lib.hid (hS.below hb3)
      have HG3 := Lib.hid (hG.below hb3)
      clear hb3
      go_wp2_with fail
      exact ⟨⟨3, by omega, rfl, Below.new HB3.out _, HF3.out.alloc _, HG3.out.alloc _, HS3.out.alloc _⟩, by simp [intOf]⟩
    · go_wp2_with fail
      refine (read_any _ _ (by decide) (HT.out.on hB) (HE.out.on hB)).mono ?_
      rw [rz4, hrn]
      rintro e w3 ⟨rfl, hb3⟩
      have HB3 := Lib.hid (Below.step hB hb3)
      have HF3 := Lib.hid (hF.below hb3)
      have HS3 := Lib.hid (hS.below hb3)
      have HG3 := Lib.hid (hG.below hb3)
      clear hb3
      go_wp2_with fail
      exact ⟨⟨4, by omega, rfl, Below.new HB3.out _, HF3.out.alloc _, HG3.out.alloc _, HS3.out.alloc _⟩, by simp [intOf]⟩
    · have c0 := hF.cell 0
      have c1 := hF.cell 1
      have c2 := hF.cell 2
      have d0 := hG.cell 0
      have d1 := hG.cell 1
      have d2 := hG.cell 2
      simp only [List.getElem?_toArray, List.getElem?_cons_zero, List.getElem?_cons_succ] at c0 c1 c2 d0 d1 d2
      have HF3 := Lib.hid hF
      have HB3 := Lib.hid hB
      clear hF hG hS hB s0 s1 s2 s3
      go_wp2_with fail
      refine (allows_any 3 2 5 1 (by decide) _).mono ?_
      rw [show allowsZ 3 2 5 1 = true from by decide]
      rintro e w4 ⟨rfl, hb4⟩
      have HB4 := Lib.hid (Below.step HB3.out hb4)
      have HF4 := Lib.hid (HF3.out.below hb4)
      clear hb4 c0 c1 c2 d0 d1 d2
      have c0 := HF4.out.cell 0
      have c1 := HF4.out.cell 1
      have c2 := HF4.out.cell 2
      simp only [List.getElem?_toArray, List.getElem?_cons_zero, List.getElem?_cons_succ] at c0 c1 c2
      go_wp2_with fail
      refine (allows_any 3 2 5 5 (by decide) _).mono ?_
      rw [show allowsZ 3 2 5 5 = true from by decide]
      rintro e w5 ⟨rfl, hb5⟩
      have HB5 := Lib.hid (Below.step HB4.out hb5)
      have HF5 := Lib.hid (HF4.out.below hb5)
      clear hb5 c0 c1 c2 
      have c0 := HF5.out.cell 0
      have c1 := HF5.out.cell 1
      have c2 := HF5.out.cell 2
      simp only [List.getElem?_toArray, List.getElem?_cons_zero, List.getElem?_cons_succ] at c0 c1 c2
      go_wp2_with fail
      refine (allows_any 3 2 5 6 (by decide) _).mono ?_
      rw [show allowsZ 3 2 5 6 = true from by decide]
      rintro e w6 ⟨rfl, hb6⟩
      have HB6 := Lib.hid (Below.step HB5.out hb6)
      have HF6 := Lib.hid (HF5.out.below hb6)
      clear hb6 c0 c1 c2 
      have c0 := HF6.out.cell 0
      have c1 := HF6.out.cell 1
      have c2 := HF6.out.cell 2
      simp only [List.getElem?_toArray, List.getElem?_cons_zero, List.getElem?_cons_succ] at c0 c1 c2
      go_wp2_with fail
      refine (allows_any 3 2 5 2 (by decide) _).mono ?_
      rw [show allowsZ 3 2 5 2 = false from by decide]
      rintro e w7 ⟨rfl, hb7⟩
      have HB7 := Lib.hid (Below.step HB6.out hb7)
      have HF7 := Lib.hid (HF6.out.below hb7)
      clear hb7 c0 c1 c2 
      have c0 := HF7.out.cell 0
      have c1 := HF7.out.cell 1
      have c2 := HF7.out.cell 2
      simp only [List.getElem?_toArray, List.getElem?_cons_zero, List.getElem?_cons_succ] at c0 c1 c2
      go_wp2_with fail
      go_ret
      exact ⟨rfl, HB7.out⟩

end Go.Proofs.YtcfkaginjcgmhaaDoor
