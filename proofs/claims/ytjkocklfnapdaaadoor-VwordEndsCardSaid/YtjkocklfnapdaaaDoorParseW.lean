/- The walk of Parse: it finds the word whose text it is given, or says that there is none. -/
import Derived.Test.YtjkocklfnapdaaaDoorParse
namespace Go.Proofs.YtjkocklfnapdaaaDoor
open Go.RowKit
set_option maxRecDepth 100000
set_option maxHeartbeats 1000000

theorem list_eq_of {s : ByteArray} {l : List UInt8} (h : s.data.toList = l) : s = ⟨l.toArray⟩ := bytes_ext (by simp [h])

theorem parse_yes (s : ByteArray) (m : Nat) (w : World) (hs : s.size ≤ 1000) (hm : m < 18446744073709551616) (h : s.data.toList = showL m) (htab : Tab w) :
    Calls Tryd.prog 22 #[.string s] w fun e w' => e = .returned (.tuple #[.int .u64 m, .int .i64 0]) ∧ Below w.heap.size w w' := by
  have HT := Lib.hid htab
  have hb : showB m = s := bytes_ext (by rw [showB_list, h])
  have HB := Lib.hid hb
  rw [showL_eq] at h
  have a := cut_dead _ (decide (m / 2 % 2 = 1)) (no_dead (m / 4) (decide (m % 2 = 1)))
  have b := cut_plus (m / 4) (decide (m % 2 = 1))
  obtain ⟨D1, hD1⟩ : ∃ D : ByteArray, (⟨(Lib.decDigits (m / 4) ++ plusL (decide (m % 2 = 1))).toArray⟩ : ByteArray) = D := ⟨_, rfl⟩
  obtain ⟨D2, hD2⟩ : ∃ D : ByteArray, (⟨(Lib.decDigits (m / 4)).toArray⟩ : ByteArray) = D := ⟨_, rfl⟩
  have l1 : D1.data.toList = Lib.decDigits (m / 4) ++ plusL (decide (m % 2 = 1)) := by rw [← hD1]
  have l2 : D2.data.toList = Lib.decDigits (m / 4) := by rw [← hD2]
  have a1 : Hid ((⟨(Lib.trimSuffix s.data.toList [120]).toArray⟩ : ByteArray) = D1) := by show _ = _; rw [h, a.2, hD1]
  have a2 : Hid (Lib.hasSuffix s.data.toList [120] = decide (m / 2 % 2 = 1)) := by show _ = _; rw [h]; exact a.1
  have b1 : Hid ((⟨(Lib.trimSuffix D1.data.toList [43]).toArray⟩ : ByteArray) = D2) := by show _ = _; rw [l1, b.2, hD2]
  have b2 : Hid (Lib.hasSuffix D1.data.toList [43] = decide (m % 2 = 1)) := by show _ = _; rw [l1]; exact b.1
  have z2 : D2.size ≤ 20 := by rw [← hD2]; exact dec_size (m / 4) (by omega)
  have z1 : D1.size ≤ 1000 := by
    have e : D1.size ≤ D2.size + 1 := by
      rw [Lib.size_eq, Lib.size_eq, l1, l2]
      unfold plusL; split <;> simp
    omega
  have P : Hid (Lib.parseUintB 64 D2.data.toList = .ok (m / 4)) := by show _ = _; rw [l2]; exact parse_dec (m / 4) (by omega)
  have V : Hid (VN ((m / 4 : Nat) : Int) (decide (m % 2 = 1)) (decide (m / 2 % 2 = 1)) = m) := by
    show _ = _
    unfold VN
    rcases (show (m % 2 = 0 ∨ m % 2 = 1) ∧ (m / 2 % 2 = 0 ∨ m / 2 % 2 = 1) from by omega) with ⟨h1 | h1, h2 | h2⟩ <;> rw [h1, h2] <;> simp <;> omega
  have M4 : Hid (((m / 4 : Nat) : Int) < 4611686018427387904) := by show _ < _; omega
  have HM := Lib.hid hm
  have HS := Lib.hid hs
  have Z1 : Hid (D1.size ≤ 9223372036854775807) := Nat.le_trans z1 (by decide)
  have Z2 : Hid (D2.size ≤ maxLen) := Nat.le_trans z2 (by decide)
  have Z3 : Hid (D2.size ≤ 281474976710656) := Nat.le_trans z2 (by decide)
  clear hs hm h a b htab hb hD1 hD2 l1 l2 z1 z2
  generalize m / 4 = v at *
  generalize decide (m % 2 = 1) = l at *
  generalize decide (m / 2 % 2 = 1) = d at *
  go_enter Tryd.func22, Tryd.ntmps22
  go_wp2_with fail
  refine (Tryd.strings_CutSuffix s _ _ (Nat.le_trans HS.out (by decide))).mono ?_
  rw [a1.out, a2.out]
  rintro e w1 ⟨rfl, rfl⟩
  go_wp2_with fail
  refine (Tryd.strings_CutSuffix D1 _ _ Z1.out).mono ?_
  rw [b1.out, b2.out]
  rintro e w1 ⟨rfl, rfl⟩
  go_wp2_with fail
  refine (pu_ok D2 Z2.out Z3.out v P.out _).mono ?_
  rintro e w1 ⟨rfl, hb1⟩
  go_wp2_with fail
  refine (new_yes v l d _ (by omega) M4.out).mono ?_
  rw [V.out]
  rintro e w2 ⟨rfl, rfl⟩
  go_wp2_with fail
  refine (show_any m _ HM.out (HT.out.on hb1)).mono ?_
  rw [HB.out]
  rintro e w3 ⟨rfl, hb3⟩
  go_wp2_with fail
  go_ret2
  exact ⟨rfl, Below.step hb1 hb3⟩

/-- Where no word has this text. -/
theorem parse_no (s : ByteArray) (w : World) (hs : s.size ≤ 1000) (h : ∀ m, m < 18446744073709551616 → showL m ≠ s.data.toList) (htab : Tab w) (herr : Errs w) :
    Calls Tryd.prog 22 #[.string s] w fun e w' => e = .returned (.tuple #[.int .u64 0, .int .i64 7]) ∧ Below w.heap.size w w' := by
  have HT := Lib.hid htab
  have HE := Lib.hid herr
  have HN := Lib.hid h
  obtain ⟨D1, hD1⟩ : ∃ D : ByteArray, (⟨(Lib.trimSuffix s.data.toList [120]).toArray⟩ : ByteArray) = D := ⟨_, rfl⟩
  obtain ⟨D2, hD2⟩ : ∃ D : ByteArray, (⟨(Lib.trimSuffix D1.data.toList [43]).toArray⟩ : ByteArray) = D := ⟨_, rfl⟩
  have tl : ∀ (l p : List UInt8), (Lib.trimSuffix l p).length ≤ l.length := fun l p => by unfold Lib.trimSuffix; split <;> simp
  have z1 : D1.size ≤ 1000 := by
    have := tl s.data.toList [120]
    rw [Lib.size_eq] at hs ⊢
    rw [← hD1]; simp only [List.toList_toArray] at *; omega
  have z2 : D2.size ≤ 1000 := by
    have := tl D1.data.toList [43]
    rw [Lib.size_eq] at z1 ⊢
    rw [← hD2]; simp only [List.toList_toArray] at *; omega
  have A1 := Lib.hid hD1
  have B1 := Lib.hid hD2
  have HS := Lib.hid hs
  have Z1 : Hid (D1.size ≤ 9223372036854775807) := Nat.le_trans z1 (by decide)
  have Z2 : Hid (D2.size ≤ maxLen) := Nat.le_trans z2 (by decide)
  have Z3 : Hid (D2.size ≤ 281474976710656) := Nat.le_trans z2 (by decide)
  clear hs htab herr h hD1 hD2 z1 z2 tl
  by_cases hp : ∃ u, Lib.parseUintB 64 D2.data.toList = .ok u
  · obtain ⟨u, hu⟩ := hp
    have hmax := Lib.parseUintM_le 18446744073709551615 D2.data.toList 0 u (by omega) (by
      unfold Lib.parseUintB at hu
      split at hu
      · cases hu
      · exact hu)
    have P := Lib.hid hu
    clear hu
    by_cases h62 : u < 4611686018427387904
    · generalize hl : Lib.hasSuffix s.data.toList [120] = d at *
      generalize hd : Lib.hasSuffix D1.data.toList [43] = l at *
      have HL := Lib.hid hl
      have HD := Lib.hid hd
      have W := VN_W (u : Int) l d (by omega) (by omega)
      obtain ⟨m, hm⟩ : ∃ m : Nat, VN (u : Int) l d = m := ⟨(VN (u : Int) l d).toNat, by have := W.1; omega⟩
      rw [hm] at W
      have HM : Hid (m < 18446744073709551616) := by show _ < _; have := W.2; omega
      have V := Lib.hid hm
      have hne : ((showB m).toList == s.toList) = false := by
        rw [beq_eq_false_iff_ne, ByteArray.toList_eq, ByteArray.toList_eq, showB_list]
        exact HN.out m HM.out
      have U0 : Hid ((0 : Int) ≤ u) := by show _ ≤ _; omega
      have U1 : Hid ((u : Int) < 4611686018427387904) := by show _ < _; omega
      clear hl hd W hm hmax h62
      go_enter Tryd.func22, Tryd.ntmps22
      go_wp2_with fail
      refine (Tryd.strings_CutSuffix s _ _ (Nat.le_trans HS.out (by decide))).mono ?_
      rw [A1.out, HL.out]
      rintro e w1 ⟨rfl, rfl⟩
      go_wp2_with fail
      refine (Tryd.strings_CutSuffix D1 _ _ Z1.out).mono ?_
      rw [B1.out, HD.out]
      rintro e w1 ⟨rfl, rfl⟩
      go_wp2_with fail
      refine (pu_ok D2 Z2.out Z3.out u P.out _).mono ?_
      rintro e w1 ⟨rfl, hb1⟩
      go_wp2_with fail
      refine (new_yes u l d _ U0.out U1.out).mono ?_
      rw [V.out]
      rintro e w2 ⟨rfl, rfl⟩
      go_wp2_with fail
      refine (show_any m _ HM.out (HT.out.on hb1)).mono ?_
      rintro e w3 ⟨rfl, hb3⟩
      go_wp2_with fail
      go_ret2
      exact ⟨rfl, Below.step hb1 hb3⟩
    · generalize hl : Lib.hasSuffix s.data.toList [120] = d at *
      generalize hd : Lib.hasSuffix D1.data.toList [43] = l at *
      have HL := Lib.hid hl
      have HD := Lib.hid hd
      have U1 : Hid (4611686018427387904 ≤ (u : Int)) := by show _ ≤ _; omega
      clear hl hd hmax h62
      go_enter Tryd.func22, Tryd.ntmps22
      go_wp2_with fail
      refine (Tryd.strings_CutSuffix s _ _ (Nat.le_trans HS.out (by decide))).mono ?_
      rw [A1.out, HL.out]
      rintro e w1 ⟨rfl, rfl⟩
      go_wp2_with fail
      refine (Tryd.strings_CutSuffix D1 _ _ Z1.out).mono ?_
      rw [B1.out, HD.out]
      rintro e w1 ⟨rfl, rfl⟩
      go_wp2_with fail
      refine (pu_ok D2 Z2.out Z3.out u P.out _).mono ?_
      rintro e w1 ⟨rfl, hb1⟩
      go_wp2_with fail
      refine (new_no u l d _ U1.out).mono ?_
      rintro e w2 ⟨rfl, rfl⟩
      go_wp2_with fail
      go_ret2
      exact ⟨rfl, hb1⟩
  · have P : Hid (∀ u, Lib.parseUintB 64 D2.data.toList ≠ .ok u) := fun u hu => hp ⟨u, hu⟩
    clear hp
    generalize hl : Lib.hasSuffix s.data.toList [120] = d at *
    generalize hd : Lib.hasSuffix D1.data.toList [43] = l at *
    have HL := Lib.hid hl
    have HD := Lib.hid hd
    clear hl hd
    go_enter Tryd.func22, Tryd.ntmps22
    go_wp2_with fail
    refine (Tryd.strings_CutSuffix s _ _ (Nat.le_trans HS.out (by decide))).mono ?_
    rw [A1.out, HL.out]
    rintro e w1 ⟨rfl, rfl⟩
    go_wp2_with fail
    refine (Tryd.strings_CutSuffix D1 _ _ Z1.out).mono ?_
    rw [B1.out, HD.out]
    rintro e w1 ⟨rfl, rfl⟩
    go_wp2_with fail
    refine (pu_bad D2 Z3.out P.out _ HE.out).mono ?_
    rintro e w1 ⟨x, N, rfl, hb1⟩
    go_wp2_with fail
    go_ret2
    exact ⟨rfl, hb1⟩

end Go.Proofs.YtjkocklfnapdaaaDoor
