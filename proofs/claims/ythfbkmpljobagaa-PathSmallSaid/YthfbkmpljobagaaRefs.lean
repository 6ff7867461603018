/- More walks of the path layer: Cut, and the reference's functions; the kit's Pick. -/
import Derived.Test.YthfbkmpljobagaaMore
import Derived.WalkSmall
namespace Go.Proofs.Ythfbkmpljobagaa
open Go.RowKit
set_option maxRecDepth 100000
set_option maxHeartbeats 400000

/-- What Cut returns. -/
def cutVal (s : ByteArray) (n : Int) : Value :=
  if h : 0 ≤ n ∧ n < s.size then .tuple #[.string (s.extract 0 n.toNat), .int .u8 ((s[n.toNat]'(by omega)).toNat : Int), .string (s.extract (n.toNat + 1) s.size), .bool true]
  else .tuple #[.string ⟨#[]⟩, .int .u8 0, .string ⟨#[]⟩, .bool false]

theorem cut_yes (s : ByteArray) (k : Nat) (w : World) (hs : s.size ≤ maxLen) (h : k < s.size) :
    Calls Try.prog 18 #[.string s, .int .i64 k] w fun e w' => e = .returned (cutVal s k) ∧ Below w.heap.size w w' := by
  have HA := Lib.hid hs
  unfold maxLen at hs
  have hfin : Hid (cutVal s k = .tuple #[.string (s.extract 0 k), .int .u8 ((s[k]'h).toNat : Int), .string (s.extract (k + 1) s.size), .bool true]) := by
    show _ = _
    unfold cutVal; rw [dif_pos (by omega)]; simp
  go_enter Try.func18, Try.ntmps18
  go_wp2_with (first | (go_at_call 27; refine (of_any _ _).mono ?_; rintro e w1 ⟨rfl, hb1⟩) | (go_at_call 29; refine (has_any s _ _ HA.out).mono ?_; rintro e w2 ⟨rfl, rfl⟩))
  go_quiet (first | (go_at_call 30; exact Calls.quiet_of_same (upTo_any s _ _ HA.out (by omega) (by omega))) | (go_at_call 31; exact Calls.quiet_of_same (from_any s _ _ HA.out (by omega) (by omega))))
  go_wp2
  refine bodyPost_ret (v := .tuple #[.string (s.extract 0 k), .int .u8 ((s[k]'h).toNat : Int), .string (s.extract (k + 1) s.size), .bool true]) (by simp [results, Try.results18, go_sem]) rfl ⟨by rw [hfin.out], ?_⟩
  exact below_drewN (hb1.trans (((Below.refl _ _).alloc (Nat.le_refl _) _).mono hb1.size)) _

theorem rcommon_any (a b : ByteArray) (w : World) (ha : a.size ≤ maxLen) (hbz : b.size ≤ maxLen) :
    Calls Try.prog 22 #[.string a, .string b] w fun e w' => e = .returned (.int .i64 (lcp a.data.toList b.data.toList)) ∧ Below w.heap.size w w' := by
  unfold maxLen at ha hbz
  go_enter Try.func22, Try.ntmps22
  go_wp2
  go_loopw [5] (fun i wr => ∃ k : Nat, k ≤ a.size ∧ k ≤ b.size ∧ i = .int .i64 k ∧ Below w.heap.size w wr ∧ Hid (∀ j, j < k → a.data.toList[j]? = b.data.toList[j]?)) (fun i _ => a.size + b.size - (intOf i).toNat)
  case atStart => exact ⟨0, Nat.zero_le _, Nat.zero_le _, rfl, Below.refl _ _, fun j hj => by omega⟩
  case round =>
    obtain ⟨k, hk1, hk2, rfl, hB, HE⟩ := hrel
    by_cases hm : k < a.size ∧ k < b.size
    · obtain ⟨h1, h2⟩ := hm
      go_wp2
      go_quiet (fail)
      go_wp2
      · have heq := byte_eqq h1 h2 (by assumption)
        go_roundw
        case rel => exact ⟨k + 1, by omega, by omega, by go_num, below_drewN hB _, upto_succ HE.out heq⟩
        case measure => simp [intOf]; omega
      · have hne := byte_neq h1 h2 (by assumption)
        go_ret
        exact ⟨ret_int (by rw [lcp_eq_of _ _ k (by simpa using hk1) (by simpa using hk2) HE.out (fun _ _ => hne)]), below_drewN hB _⟩
    · have H : Hid (lcp a.data.toList b.data.toList = k) := lcp_eq_of _ _ _ (by simpa using hk1) (by simpa using hk2) HE.out (fun a b => absurd (And.intro (by simpa using a) (by simpa using b)) hm)
      by_cases h1 : k < a.size
      · have h2 : decide (k < b.size) = false := by simp; omega
        go_wp2
        go_quiet (fail)
        go_wp2
        go_ret
        exact ⟨ret_int (by rw [H.out]), below_drewN hB _⟩
      · have h2 : decide (k < a.size) = false := by simpa using h1
        go_wp2
        go_quiet (fail)
        go_wp2
        go_ret
        exact ⟨ret_int (by rw [H.out]), below_drewN hB _⟩

end Go.Proofs.Ythfbkmpljobagaa
