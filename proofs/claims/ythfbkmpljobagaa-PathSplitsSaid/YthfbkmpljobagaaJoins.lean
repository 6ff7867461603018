/- The walks of PathSplits and PathJoins. -/
import Derived.Test.YthfbkmpljobagaaSplit
import Derived.Test.YthfbkmpljobagaaSplitT
namespace Go.Proofs.Ythfbkmpljobagaa
open Go.RowKit
set_option maxRecDepth 100000
set_option maxHeartbeats 400000

theorem pathSplits_walk (a b : ByteArray) (w : World) (ha : a.size ≤ maxLen) (hb : b.size ≤ maxLen) :
    Calls Try.prog 6 #[.string a, .string b] w fun e w' => e = .returned (.bool true) ∧ Below w.heap.size w w' := by
  by_cases h : a.size ≤ 2000 ∧ b.size ≤ 2000
  · by_cases h1 : lcp a.data.toList b.data.toList < a.size
    · by_cases h2 : lcp a.data.toList b.data.toList < b.size
      · exact splits_A a b _ w h.1 h.2 rfl h1 h2
      · exact splits_B a b _ w h.1 h.2 rfl h1 h2
    · by_cases h2 : lcp a.data.toList b.data.toList < b.size
      · exact splits_C a b _ w h.1 h.2 rfl h1 h2
      · exact splits_D a b _ w h.1 h.2 rfl h1 h2
  · unfold maxLen at ha hb
    by_cases h1 : a.size ≤ 2000
    all_goals
      go_enter Try.func6, Try.ntmps6
      go_wp2_with fail
      refine (awake_any _).mono ?_
      rintro e w1 ⟨rfl, hb1⟩
      go_wp2_with fail
      go_ret
      exact ⟨rfl, hb1⟩

theorem append_list (a b : ByteArray) : (a ++ b).data.toList = a.data.toList ++ b.data.toList := by simp [ByteArray.data_append]
theorem append_size (a b : ByteArray) : (a ++ b).size = a.size + b.size := by simp [ByteArray.size_append]
theorem length_list (a : ByteArray) : a.data.toList.length = a.size := by simp

def joined (h : ByteArray) (c : UInt8) (a : ByteArray) : ByteArray := h ++ one c ++ a
theorem joined_list (h : ByteArray) (c : UInt8) (a : ByteArray) : (joined h c a).data.toList = h.data.toList ++ c :: a.data.toList := by
  unfold joined; rw [append_list, append_list, one_list]; simp
theorem joined_size (h : ByteArray) (c : UInt8) (a : ByteArray) : (joined h c a).size = h.size + 1 + a.size := by
  unfold joined; rw [append_size, append_size, one_size]

theorem joined_head (h : ByteArray) (c : UInt8) (a : ByteArray) : (joined h c a).extract 0 h.size = h := by
  apply bytes_ext
  rw [extract_list, joined_list, ← length_list h]
  simp
theorem joined_tail (h : ByteArray) (c : UInt8) (a : ByteArray) : (joined h c a).extract (h.size + 1) (joined h c a).size = a := by
  apply bytes_ext
  rw [extract_list, joined_list, joined_size, ← length_list h, List.drop_append, List.drop_of_length_le (by omega), Nat.add_sub_cancel_left]
  rw [List.take_of_length_le (by simp)]
  simp
theorem joined_cut (h : ByteArray) (c : UInt8) (a : ByteArray) : cutVal (joined h c a) h.size = .tuple #[.string h, .int .u8 (c.toNat : Int), .string a, .bool true] := by
  have hlt : h.size < (joined h c a).size := by rw [joined_size]; omega
  rw [cutVal_yes _ _ hlt, joined_head, joined_tail]
  have e : (joined h c a)[h.size]'hlt = c := by
    have := byte_at (joined h c a) h.size hlt
    rw [joined_list] at this
    have hx : (h.data.toList ++ c :: a.data.toList)[h.size]? = some c := by rw [← length_list h]; simp
    rw [hx] at this
    simpa using this.symm
  rw [e]

theorem lcp_append (l m n : List UInt8) : lcp (l ++ m) (l ++ n) = l.length + lcp m n := by
  induction l with
  | nil => simp
  | cons x l ih => simp [lcp, ih]; omega

theorem lcp_prefix (l m : List UInt8) : lcp (l ++ m) l = l.length := by
  have := lcp_append l m []
  rw [List.append_nil] at this
  rw [this, lcp_comm]
  simp [lcp]

theorem pathJoins_walk (h a b : ByteArray) (n : Int) (w : World) (hh : h.size ≤ maxLen) (ha : a.size ≤ maxLen) (hb : b.size ≤ maxLen) (hn : (Lit.int .u8 n).wf = true) :
    Calls Try.prog 8 #[.string h, .string a, .string b, .int .u8 n] w fun e w' => e = .returned (.bool true) ∧ Below w.heap.size w w' := by
  obtain ⟨c, rfl⟩ : ∃ c : UInt8, n = c.toNat := by
    have hx : 0 ≤ n ∧ n ≤ 255 := by simpa [Lit.wf, IntKind.min, IntKind.max, IntKind.signed, IntKind.bits] using hn
    exact ⟨UInt8.ofNat n.toNat, by simp [UInt8.toNat_ofNat']; omega⟩
  clear hn
  unfold maxLen at hh ha hb
  by_cases hz : h.size ≤ 2000 ∧ a.size ≤ 2000 ∧ b.size ≤ 2000
  · obtain ⟨z1, z2, z3⟩ := hz
    have J : ∀ x : ByteArray, Hid (h ++ one c ++ x = joined h c x) := fun x => rfl
    have V := Lib.hid (joined_cut h c a)
    have S1 := Lib.hid (joined_size h c a)
    have S2 := Lib.hid (joined_size h c b)
    have L1 : Hid (((lcp (joined h c a).data.toList (joined h c b).data.toList : Nat) : Int) = (h.size : Int) + 1 + (lcp a.data.toList b.data.toList : Nat)) := by
      show _ = _
      rw [joined_list, joined_list, lcp_append, length_list]
      simp [lcp]; omega
    have M : lcp a.data.toList b.data.toList ≤ a.size := by simpa using lcp_le_left a.data.toList b.data.toList
    have L2 : Hid (lcp (joined h c a).data.toList h.data.toList = h.size) := by
      show _ = _
      rw [joined_list, lcp_prefix, length_list]
    have T : Hid ((joined h c a).extract ((h.size : Int) + 1).toNat (joined h c a).size = a) := by
      show _ = _
      rw [show ((h.size : Int) + 1).toNat = h.size + 1 from by omega]; exact joined_tail h c a
    have Z1 : Hid (h.size ≤ maxLen) := Nat.le_trans z1 (by decide)
    have Z2 : Hid (a.size ≤ maxLen) := Nat.le_trans z2 (by decide)
    have Z3 : Hid (b.size ≤ maxLen) := Nat.le_trans z3 (by decide)
    have ZJ : Hid ((joined h c a).size ≤ maxLen) := by show _ ≤ _; rw [S1.out]; exact Nat.le_trans (show _ ≤ 4001 by omega) (by decide)
    have ZK : Hid ((joined h c b).size ≤ maxLen) := by show _ ≤ _; rw [S2.out]; exact Nat.le_trans (show _ ≤ 4001 by omega) (by decide)
    go_enter Try.func8, Try.ntmps8
    go_wp2_with fail
    refine (awake_any _).mono ?_
    rintro e w1 ⟨rfl, hb1⟩
    go_wp2_with fail
    refine (join_any h a c _ (by omega) (by omega)).mono ?_
    rintro e w2 ⟨rfl, hb2⟩
    rw [(J a).out]
    have e1 : (((joined h c a).size : Int) == (h.size : Int) + 1 + (a.size : Int)) = true := by rw [S1.out, beq_iff_eq]; omega
    go_wp2_with fail
    refine (cut_any _ _ _ ZJ.out).mono ?_
    rintro e w3 ⟨rfl, hb3⟩
    rw [V.out]
    go_wp2_with fail
    refine (join_any h b c _ (by omega) (by omega)).mono ?_
    rintro e w4 ⟨rfl, hb4⟩
    rw [(J b).out]
    go_wp2_with fail
    refine (common_any _ _ _ ZJ.out ZK.out).mono ?_
    rintro e w5 ⟨rfl, hb5⟩
    rw [L1.out]
    go_wp2_with fail
    refine (common_any _ _ _ Z2.out Z3.out).mono ?_
    rintro e w6 ⟨rfl, hb6⟩
    go_wp2_with fail
    refine (begins_any _ _ _ ZJ.out Z1.out).mono ?_
    rintro e w7 ⟨rfl, hb7⟩
    rw [L2.out]
    go_wp2_with fail
    refine (rest_any _ _ _ ZJ.out).mono ?_
    rintro e w8 ⟨rfl, hb8⟩
    rw [T.out]
    go_wp2_with fail
    go_ret
    exact ⟨rfl, Below.step (Below.step (Below.step (Below.step (Below.step (Below.step (Below.step hb1 hb2) hb3) hb4) hb5) hb6) hb7) hb8⟩
  · by_cases h1 : h.size ≤ 2000
    · by_cases h2 : a.size ≤ 2000
      all_goals
        go_enter Try.func8, Try.ntmps8
        go_wp2_with fail
        refine (awake_any _).mono ?_
        rintro e w1 ⟨rfl, hb1⟩
        go_wp2_with fail
        go_ret
        exact ⟨rfl, hb1⟩
    · go_enter Try.func8, Try.ntmps8
      go_wp2_with fail
      refine (awake_any _).mono ?_
      rintro e w1 ⟨rfl, hb1⟩
      go_wp2_with fail
      go_ret
      exact ⟨rfl, hb1⟩

end Go.Proofs.Ythfbkmpljobagaa
