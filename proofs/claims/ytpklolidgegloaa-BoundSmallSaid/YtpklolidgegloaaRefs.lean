/- The walks of the reference's functions of the bound layer. -/
import Derived.Test.YtpklolidgegloaaMath
import Derived.WalkSmall
import Derived.WalkLawsBesides
import Derived.Deep.RegionHeld3
namespace Go.Proofs.Ytpklolidgegloaa
open Go.RowKit
set_option maxRecDepth 100000
set_option maxHeartbeats 400000

theorem at_list (s : ByteArray) (k : Nat) (h : k < s.size) : s.data.toList[k]'(by simpa using h) = s[k] := rfl

theorem rless_any (a b : ByteArray) (w : World) (ha : a.size ≤ maxLen) (hb : b.size ≤ maxLen) :
    Calls Try.prog 24 #[.string a, .string b] w fun e w' => e = .returned (.bool (bl a.data.toList b.data.toList)) ∧ Below w.heap.size w w' := by
  unfold maxLen at ha hb
  have la : a.data.toList.length = a.size := length_list a
  have lb : b.data.toList.length = b.size := length_list b
  have LA := Lib.hid la
  have LB := Lib.hid lb
  clear la lb
  go_enter Try.func24, Try.ntmps24
  go_wp2
  go_loopw [5] (fun i wr => ∃ k : Nat, k ≤ a.size ∧ k ≤ b.size ∧ i = .int .i64 k ∧ Below w.heap.size w wr ∧ Hid (bl a.data.toList b.data.toList = bl (a.data.toList.drop k) (b.data.toList.drop k))) (fun i _ => a.size + b.size - (intOf i).toNat)
  case atStart => exact ⟨0, Nat.zero_le _, Nat.zero_le _, rfl, Below.refl _ _, rfl⟩
  case round =>
    obtain ⟨k, hk1, hk2, rfl, hB, HE⟩ := hrel
    by_cases hm : k < a.size ∧ k < b.size
    · obtain ⟨h1, h2⟩ := hm
      by_cases he : a[k] = b[k]
      · have HS := Lib.hid (bl_drop_eq (a := a.data.toList) (b := b.data.toList) (k := k) (by rw [LA.out]; exact h1) (by rw [LB.out]; exact h2) he)
        have q1 : (((a[k]'h1).toNat : Int) != ((b[k]'h2).toNat : Int)) = false := by simp [he]
        clear he
        go_wp2
        go_quiet (fail)
        go_wp2
        go_roundw
        case rel => exact ⟨k + 1, by omega, by omega, by go_num, below_drewN hB _, HE.out.trans HS.out⟩
        case measure => simp [intOf]; omega
      · have HS := Lib.hid (bl_drop_ne (a := a.data.toList) (b := b.data.toList) (k := k) (by rw [LA.out]; exact h1) (by rw [LB.out]; exact h2) he)
        have q1 : (((a[k]'h1).toNat : Int) != ((b[k]'h2).toNat : Int)) = true := by
          rw [bne_iff_ne]; intro e; exact he (UInt8.toNat.inj (by omega))
        have q2 : Hid (decide (((a[k]'h1).toNat : Int) < ((b[k]'h2).toNat : Int)) = decide (a[k] < b[k])) := by
          show _ = _; rw [decide_eq_decide, UInt8.lt_iff_toNat_lt]; omega
        clear he
        go_wp2
        go_quiet (fail)
        go_wp2
        go_quiet (fail)
        go_wp2
        go_ret
        exact ⟨ret_bool (by rw [HE.out, HS.out, at_list a k h1, at_list b k h2]; first | exact q2.out | (rw [← q2.out]; simp)), below_drewN (below_drewN hB _) _⟩
    · have HS := Lib.hid (bl_drop_end (a := a.data.toList) (b := b.data.toList) (k := k) (by rw [LA.out]; exact hk1) (by rw [LB.out]; exact hk2) (by rw [LA.out, LB.out]; exact hm))
      by_cases h1 : k < a.size
      · have h2 : decide (k < b.size) = false := by simp; omega
        go_wp2
        go_ret
        exact ⟨ret_bool (by rw [HE.out, HS.out, LA.out, LB.out]), hB⟩
      · have h2 : decide (k < a.size) = false := by simpa using h1
        go_wp2
        go_ret
        exact ⟨ret_bool (by rw [HE.out, HS.out, LA.out, LB.out]), hB⟩

theorem rafter_any (s : ByteArray) (w : World) (hs : s.size ≤ 1000000) :
    Calls Try.prog 20 #[.string s] w fun e w' => e = .returned (.string (s ++ one 0)) ∧ w' = w := by
  go_enter Try.func20, Try.ntmps20
  go_wp2
  go_ret
  exact ⟨rfl, rfl⟩

theorem rclip_any (s : ByteArray) (n : Int) (w : World) (hs : s.size ≤ 1000000) :
    Calls Try.prog 21 #[.string s, .int .i64 n] w fun e w' => e = .returned (.string (clipB s n)) ∧ w' = w := by
  go_enter Try.func21, Try.ntmps21
  go_wp2
  go_loop [5, 6] (fun out i => ∃ k : Nat, k ≤ s.size ∧ (k = 0 ∨ (k : Int) ≤ n) ∧ i = .int .i64 k ∧ out = .string (s.extract 0 k)) (fun _ i => s.size - (intOf i).toNat)
  case atStart => exact ⟨0, Nat.zero_le _, .inl rfl, rfl, by simp; rfl⟩
  case round =>
    obtain ⟨k, hk1, hk2, rfl, rfl⟩ := hrel
    by_cases hm : k < s.size ∧ (k : Int) < n
    · obtain ⟨h1, h2⟩ := hm
      have HS := Lib.hid (clip_step s k h1)
      have z1 : (s.extract 0 k).size ≤ 1000000 := by simp; omega
      have z2 : (s.extract k (k + 1)).size ≤ 1 := by simp; omega
      go_wp2
      go_round
      case rel => exact ⟨k + 1, by omega, .inr (by omega), by go_num, by first | rfl | rw [HS.out]⟩
      case measure => simp [intOf]; omega
    · have hfin : Hid (s.extract 0 k = clipB s n) := by
        show _ = _
        unfold clipB
        apply bytes_ext
        rw [extract_list, extract_list]
        simp only [List.drop_zero, Nat.sub_zero]
        by_cases h1 : k < s.size
        · rw [show n.toNat = k from by omega]
        · rw [List.take_of_length_le (by rw [length_list]; omega), List.take_of_length_le (by rw [length_list]; omega)]
      by_cases h1 : k < s.size
      · have h2 : decide ((k : Int) < n) = false := by simp; omega
        go_wp2
        go_ret
        exact ⟨ret_str (by rw [hfin.out]), rfl⟩
      · have h2 : decide (k < s.size) = false := by simpa using h1
        go_wp2
        go_ret
        exact ⟨ret_str (by rw [hfin.out]), rfl⟩

end Go.Proofs.Ytpklolidgegloaa
