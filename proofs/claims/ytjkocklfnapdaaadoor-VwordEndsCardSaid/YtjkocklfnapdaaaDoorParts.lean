/- The walk of VwordParts. -/
import Derived.Test.YtjkocklfnapdaaaDoorParseW
import Derived.Test.YtjkocklfnapdaaaDoorTurns
namespace Go.Proofs.YtjkocklfnapdaaaDoor
open Go.RowKit
set_option maxRecDepth 100000
set_option maxHeartbeats 2000000

theorem showB_size (m : Nat) (h : m < 18446744073709551616) : (showB m).size ≤ 1000 := by
  have h1 := dec_size (m / 4) (by omega)
  rw [Lib.size_eq] at h1 ⊢
  rw [showB_list, showL_eq]
  simp only [List.length_append]
  have e1 : (plusL (decide (m % 2 = 1))).length ≤ 1 := by unfold plusL; split <;> simp
  have e2 : (deadL (decide (m / 2 % 2 = 1))).length ≤ 1 := by unfold deadL; split <;> simp
  simp at h1
  omega

theorem VN_back (m : Nat) : VN ((m : Int) / 4) ((m : Int) % 2 != 0) ((m : Int) / 2 % 2 != 0) = m := by
  unfold VN
  have e1 : ((m : Int) % 2 != 0) = decide ((m : Int) % 2 = 1) := by rw [Bool.eq_iff_iff]; simp; omega
  have e2 : ((m : Int) / 2 % 2 != 0) = decide ((m : Int) / 2 % 2 = 1) := by rw [Bool.eq_iff_iff]; simp; omega
  rw [e1, e2]
  by_cases h1 : (m : Int) % 2 = 1 <;> by_cases h2 : (m : Int) / 2 % 2 = 1 <;> simp [h1, h2] <;> omega

theorem parts_walk (m o : Nat) (w : World) (hm : m < 18446744073709551616) (ho : o < 18446744073709551616) (htab : Tab w) :
    Calls Tryd.prog 7 #[.int .u64 m, .int .u64 o] w fun e w' => e = .returned (.bool true) ∧ Below w.heap.size w w' := by
  have WM : Hid (W64 (m : Int)) := ⟨by omega, by omega⟩
  have WO : Hid (W64 (o : Int)) := ⟨by omega, by omega⟩
  have HT := Lib.hid htab
  have HM := Lib.hid hm
  have HO := Lib.hid ho
  have q1 : ((showB m).toList == (showB o).toList) = ((m : Int) == (o : Int)) := by
    rw [Bool.eq_iff_iff, beq_iff_eq, beq_iff_eq, ByteArray.toList_eq, ByteArray.toList_eq, showB_list, showB_list]
    exact ⟨fun h => by rw [showL_inj h], fun h => by rw [show m = o by omega]⟩
  have V := Lib.hid (VN_back m)
  have S := Lib.hid (showB_size m hm)
  have S2 : (showB m).data.toList = showL m := showB_list m
  have SL := Lib.hid S2
  have q2 : ((m : Int) % 4 == 0) = !(((m : Int) % 2 != 0) || ((m : Int) / 2 % 2 != 0)) := by
    rw [Bool.eq_iff_iff]; simp; omega
  have Q2 := Lib.hid q2
  have Q1 := Lib.hid q1
  clear hm ho htab S2 q1 q2
  have U0 : Hid (0 ≤ (m : Int) / 4) := by show _ ≤ _; omega
  have U1 : Hid ((m : Int) / 4 < 4611686018427387904) := by show _ < _; have := HM.out; omega
  go_enter Tryd.func7, Tryd.ntmps7
  go_wp2_with fail
  refine (awake_any _ HT.out).mono ?_
  rintro e w1 ⟨rfl, hb1⟩
  go_wp2_with fail
  refine (version_any m _ WM.out).mono ?_
  rintro e w2 ⟨rfl, hb2⟩
  go_wp2_with fail
  refine (locked_any m _ WM.out).mono ?_
  rintro e w3 ⟨rfl, hb3⟩
  go_wp2_with fail
  refine (dead_any m _ WM.out).mono ?_
  rintro e w4 ⟨rfl, hb4⟩
  go_wp2_with fail
  refine (new_yes _ _ _ _ U0.out U1.out).mono ?_
  rw [V.out]
  rintro e w5 ⟨rfl, rfl⟩
  have B4 := Lib.hid (Below.step (Below.step (Below.step hb1 hb2) hb3) hb4)
  clear hb1 hb2 hb3 hb4
  go_wp2_with fail
  refine (show_any m _ HM.out (HT.out.on B4.out)).mono ?_
  rintro e w6 ⟨rfl, hb6⟩
  have B6 := Lib.hid (Below.step B4.out hb6)
  clear hb6
  go_wp2_with fail
  refine (parse_yes (showB m) m _ S.out HM.out SL.out (HT.out.on B6.out)).mono ?_
  rintro e w7 ⟨rfl, hb7⟩
  have B7 := Lib.hid (Below.step B6.out hb7)
  clear hb7
  go_wp2_with fail
  refine (show_any m _ HM.out (HT.out.on B7.out)).mono ?_
  rintro e w8 ⟨rfl, hb8⟩
  have B8 := Lib.hid (Below.step B7.out hb8)
  clear hb8
  go_wp2_with fail
  refine (show_any o _ HO.out (HT.out.on B8.out)).mono ?_
  rintro e w9 ⟨rfl, hb9⟩
  have q1 := Q1.out
  have B9 := Lib.hid (Below.step B8.out hb9)
  clear hb9
  go_wp2_with fail
  refine (free_any m _ WM.out).mono ?_
  rintro e w10 ⟨rfl, hb10⟩
  rw [Q2.out]
  have B10 := Lib.hid (Below.step B9.out hb10)
  clear hb10
  cases hl : ((m : Int) % 2 != 0)
  · cases hd : ((m : Int) / 2 % 2 != 0)
    all_goals
      go_wp2_with fail
      refine (locked_any m _ WM.out).mono ?_
      rw [hl]
      rintro e w11 ⟨rfl, hb11⟩
      go_wp2_with fail
      refine (dead_any m _ WM.out).mono ?_
      rw [hd]
      rintro e w12 ⟨rfl, hb12⟩
      go_wp2_with fail
      go_ret
      exact ⟨rfl, Below.step (Below.step B10.out hb11) hb12⟩
  · go_wp2_with fail
    refine (locked_any m _ WM.out).mono ?_
    rw [hl]
    rintro e w11 ⟨rfl, hb11⟩
    go_wp2_with fail
    go_ret
    exact ⟨rfl, Below.step B10.out hb11⟩

theorem u64_nat {n : Int} (hn : (Lit.int .u64 n).wf = true) : ∃ m : Nat, n = m ∧ m < 18446744073709551616 := by
  have : 0 ≤ n ∧ n ≤ 18446744073709551615 := by simpa [Lit.wf, IntKind.min, IntKind.max, IntKind.signed, IntKind.bits] using hn
  exact ⟨n.toNat, by omega, by omega⟩

theorem vwordParts_walk (n k : Int) (w : World) (hn : (Lit.int .u64 n).wf = true) (hk : (Lit.int .u64 k).wf = true) (hl : Tab w ∧ Errs w) :
    Calls Tryd.prog 7 #[.int .u64 n, .int .u64 k] w fun e w' => e = .returned (.bool true) ∧ Below w.heap.size w w' := by
  obtain ⟨m, rfl, hm⟩ := u64_nat hn
  obtain ⟨o, rfl, ho⟩ := u64_nat hk
  exact parts_walk m o w hm ho hl.1

end Go.Proofs.YtjkocklfnapdaaaDoor
