/- The reference's other functions, Cut where there is no such byte, the examples of the chapter, and 'tells'. -/
import Derived.Test.YthfbkmpljobagaaRefs
namespace Go.Proofs.Ythfbkmpljobagaa
open Go.RowKit
set_option maxRecDepth 100000
set_option maxHeartbeats 400000

theorem cut_no (s : ByteArray) (n : Int) (w : World) (hs : s.size ≤ maxLen) (h : ¬ (0 ≤ n ∧ n < s.size)) :
    Calls Try.prog 18 #[.string s, .int .i64 n] w fun e w' => e = .returned (cutVal s n) ∧ Below w.heap.size w w' := by
  have HA := Lib.hid hs
  unfold maxLen at hs
  have hfin : Hid (cutVal s n = .tuple #[.string ⟨#[]⟩, .int .u8 0, .string ⟨#[]⟩, .bool false]) := by
    show _ = _
    unfold cutVal; rw [dif_neg h]
  have hdec : decide (0 ≤ n ∧ n < s.size) = false := by simpa using h
  clear h
  go_enter Try.func18, Try.ntmps18
  go_wp2_with (first | (go_at_call 27; refine (of_any _ _).mono ?_; rintro e w1 ⟨rfl, hb1⟩) | (go_at_call 29; refine (has_any s _ _ HA.out).mono ?_; rintro e w2 ⟨rfl, rfl⟩))
  refine bodyPost_ret (v := .tuple #[.string ⟨#[]⟩, .int .u8 0, .string ⟨#[]⟩, .bool false]) (by simp [results, Try.results18, go_sem]) rfl ⟨by rw [hfin.out], ?_⟩
  exact hb1.trans (((Below.refl _ _).alloc (Nat.le_refl _) _).mono hb1.size)

theorem cut_any (s : ByteArray) (n : Int) (w : World) (hs : s.size ≤ maxLen) :
    Calls Try.prog 18 #[.string s, .int .i64 n] w fun e w' => e = .returned (cutVal s n) ∧ Below w.heap.size w w' := by
  by_cases h : 0 ≤ n ∧ n < s.size
  · obtain ⟨k, rfl⟩ := Int.eq_ofNat_of_zero_le h.1
    exact cut_yes s k w hs (by omega)
  · exact cut_no s n w hs h

theorem rcut_any (s : ByteArray) (n : Int) (w : World) (hs : s.size ≤ maxLen) :
    Calls Try.prog 21 #[.string s, .int .i64 n] w fun e w' => e = .returned (cutVal s n) ∧ Below w.heap.size w w' := by
  unfold maxLen at hs
  by_cases h : 0 ≤ n ∧ n < s.size
  · obtain ⟨h0, h1⟩ := h
    obtain ⟨k, rfl⟩ := Int.eq_ofNat_of_zero_le h0
    have h2 : k < s.size := by omega
    clear h0 h1
    have hfin : Hid (cutVal s k = .tuple #[.string (s.extract 0 k), .int .u8 ((s[k]'h2).toNat : Int), .string (s.extract (k + 1) s.size), .bool true]) := by
      show _ = _
      unfold cutVal; rw [dif_pos (by omega)]; simp
    go_enter Try.func21, Try.ntmps21
    go_wp2
    go_quiet (fail)
    go_wp2
    refine bodyPost_ret (v := .tuple #[.string (s.extract 0 k), .int .u8 ((s[k]'h2).toNat : Int), .string (s.extract (k + 1) s.size), .bool true]) (by simp [results, Try.results21, go_sem]) rfl ⟨by rw [hfin.out], ?_⟩
    exact below_drewN (Below.refl _ _) _
  · have hfin : Hid (cutVal s n = .tuple #[.string ⟨#[]⟩, .int .u8 0, .string ⟨#[]⟩, .bool false]) := by
      show _ = _
      unfold cutVal; rw [dif_neg h]
    rcases (show n < 0 ∨ (0 ≤ n ∧ (s.size : Int) ≤ n) from by omega) with h1 | ⟨h1, h2⟩
    all_goals
      clear h
      go_enter Try.func21, Try.ntmps21
      go_wp2
      exact bodyPost_ret (v := .tuple #[.string ⟨#[]⟩, .int .u8 0, .string ⟨#[]⟩, .bool false]) (by simp [results, Try.results21, go_sem]) rfl ⟨by rw [hfin.out], Below.refl _ _⟩

theorem rbegins_any (a b : ByteArray) (w : World) (ha : a.size ≤ maxLen) (hbz : b.size ≤ maxLen) :
    Calls Try.prog 23 #[.string a, .string b] w fun e w' => e = .returned (.bool (((lcp a.data.toList b.data.toList : Nat) : Int) == (b.size : Int))) ∧ Below w.heap.size w w' := by
  have HA := Lib.hid ha
  have HB := Lib.hid hbz
  clear ha hbz
  go_enter Try.func23, Try.ntmps23
  go_wp2_with (go_at_call 22; refine (rcommon_any a b _ HA.out HB.out).mono ?_; rintro e w1 ⟨rfl, hb1⟩)
  go_ret
  exact ⟨rfl, hb1⟩

theorem rrest_any (s : ByteArray) (n : Int) (w : World) (hs : s.size ≤ maxLen) :
    Calls Try.prog 24 #[.string s, .int .i64 n] w fun e w' => e = .returned (.string (s.extract n.toNat s.size)) ∧ Below w.heap.size w w' := by
  unfold maxLen at hs
  rcases (show n < 0 ∨ (0 ≤ n ∧ n ≤ s.size) ∨ (s.size : Int) < n from by omega) with h1 | ⟨h1, h2⟩ | h1
  all_goals
    go_enter Try.func24, Try.ntmps24
    go_wp2
    go_ret
    refine ⟨ret_str ?_, Below.refl _ _⟩
    first | rfl | exact (from_all s n (by omega)).symm | exact (from_none s n (by omega)).symm

theorem rjoin_any (s t : ByteArray) (c : UInt8) (w : World) (hs : s.size ≤ 1000000) (h : t.size ≤ 1000000) :
    Calls Try.prog 25 #[.string s, .int .u8 c.toNat, .string t] w fun e w' => e = .returned (.string (s ++ one c ++ t)) ∧ Below w.heap.size w w' := by
  have hcv := fun (w : World) => run_convert_one (P := Try.prog) w 48 9 5 c Try.underlying48 Try.underlying5 Try.underlying9
  have h1 := one_size c
  go_enter Try.func25, Try.ntmps25
  go_wp2
  go_ret
  exact ⟨rfl, (Below.refl _ _).alloc (Nat.le_refl _) _⟩

end Go.Proofs.Ythfbkmpljobagaa
