/- The order of paths. -/
import Derived.Test.YthkndfammlibpaaMathR
namespace Go.Proofs.Ythkndfammlibpaa
open Go.RowKit
set_option maxRecDepth 100000

theorem byte_lt (c d : UInt8) : c < d ↔ c.toNat < d.toNat := UInt8.lt_iff_toNat_lt
theorem between {c d : UInt8} (hcd : d.toNat = c.toNat + 1) : ∀ (p l : List UInt8), (!Op.bytesLess l (p ++ [c]) && Op.bytesLess l (p ++ [d])) = decide ((p ++ [c]) <+: l)
  | [], [] => by simp [Op.bytesLess]
  | [], x :: l => by
    have hl : ∀ l : List UInt8, Op.bytesLess l [] = false := fun l => by cases l <;> rfl
    rw [Bool.eq_iff_iff]
    simp only [List.nil_append, Op.bytesLess, hl, Bool.and_false, Bool.or_false, Bool.and_eq_true, Bool.not_eq_true', decide_eq_true_eq, decide_eq_false_iff_not, byte_lt]
    constructor
    · rintro ⟨h1, h2⟩
      have e : c = x := UInt8.toNat_inj.1 (by omega)
      rw [e]; simp
    · intro h
      have e : c = x := by simpa using h
      subst e
      omega
  | q :: p, [] => by simp [Op.bytesLess]
  | q :: p, x :: l => by
    have ih := between hcd p l
    simp only [List.cons_append, Op.bytesLess]
    by_cases e : x = q
    · subst e
      have e1 : ¬ x < x := by rw [byte_lt]; omega
      have e2 : (x == x) = true := by simp
      simp only [e1, e2, decide_false, Bool.false_or, Bool.true_and, ih]
      simp
    · have e2 : (x == q) = false := by simpa using e
      have e3 : ¬ (q = x) := fun h => e h.symm
      have e4 : ¬ ((q :: (p ++ [c])) <+: (x :: l)) := by simp [e3]
      simp [e2, e4]
theorem preL_eq (k : Nat) : preL k = [0, 0, 0, 0, 0, 0, 0] ++ [UInt8.ofNat k] := rfl
theorem ofNat_toNat {k : Nat} (h : k ≤ 17) : (UInt8.ofNat k).toNat = k := by rw [UInt8.toNat_ofNat', Nat.mod_eq_of_lt (by omega)]
theorem range_iff {k : Nat} (h : k ≤ 16) (s : ByteArray) : (!Op.bytesLess s.toList (pre k).toList && Op.bytesLess s.toList (pre (k + 1)).toList) = begins s (pre k) := by
  rw [begins_list, ByteArray.toList_eq, ByteArray.toList_eq, ByteArray.toList_eq]
  show (!Op.bytesLess s.data.toList (preL k) && Op.bytesLess s.data.toList (preL (k + 1))) = _
  rw [preL_eq, preL_eq]
  exact between (by rw [ofNat_toNat (by omega), ofNat_toNat (by omega)]) _ _
theorem owner_iff {s : ByteArray} {k : Nat} (h1 : 1 ≤ k) (h2 : k ≤ 16) : begins s (pre k) = decide (ownerOf s = some k) := by
  rw [Bool.eq_iff_iff, decide_eq_true_eq]
  exact ⟨fun h => ownerOf_of h1 h2 h, fun h => (ownerOf_some h).2.2⟩

theorem lessA_same : ∀ (p x y : List UInt8), Op.bytesLess (p ++ x) (p ++ y) = Op.bytesLess x y
  | [], _, _ => rfl
  | a :: p, x, y => by simp [Op.bytesLess, lessA_same p x y]
theorem zeroA_lt {c : UInt8} (h : c ≠ 0) : (0 : UInt8) < c := by
  rw [UInt8.lt_iff_toNat_lt]
  have : c.toNat ≠ 0 := fun e => h (UInt8.toNat_inj.1 e)
  show 0 < c.toNat
  omega
theorem lessA_code : ∀ x y : List UInt8, Op.bytesLess (encB x ++ [0, 0]) (encB y ++ [0, 0]) = Op.bytesLess x y
  | [], [] => rfl
  | [], d :: y => by
    by_cases hd : d = 0
    · subst hd
      have h : encB (0 :: y) ++ [0, 0] = 0 :: 1 :: (encB y ++ [0, 0]) := by simp [encB]
      rw [h]; simp [encB, Op.bytesLess]
    · have h : encB (d :: y) ++ [0, 0] = d :: (encB y ++ [0, 0]) := by simp [encB, hd]
      rw [h]; simp [encB, Op.bytesLess, zeroA_lt hd]
  | c :: x, [] => by
    by_cases hc : c = 0
    · subst hc
      have h : encB (0 :: x) ++ [0, 0] = 0 :: 1 :: (encB x ++ [0, 0]) := by simp [encB]
      rw [h]; simp [encB, Op.bytesLess]
    · have h : encB (c :: x) ++ [0, 0] = c :: (encB x ++ [0, 0]) := by simp [encB, hc]
      rw [h]; simp [encB, Op.bytesLess, hc]
  | c :: x, d :: y => by
    by_cases e : c = d
    · subst e
      have h : ∀ z, encB (c :: z) ++ [0, 0] = (if c = 0 then [0, 1] else [c]) ++ (encB z ++ [0, 0]) := fun z => by simp [encB]
      rw [h, h, lessA_same, lessA_code x y]
      simp [Op.bytesLess]
    · by_cases hc : c = 0
      · subst hc
        have hd : d ≠ 0 := Ne.symm e
        have h1 : encB (0 :: x) ++ [0, 0] = 0 :: 1 :: (encB x ++ [0, 0]) := by simp [encB]
        have h2 : encB (d :: y) ++ [0, 0] = d :: (encB y ++ [0, 0]) := by simp [encB, hd]
        rw [h1, h2]; simp [Op.bytesLess, zeroA_lt hd]
      · have h1 : encB (c :: x) ++ [0, 0] = c :: (encB x ++ [0, 0]) := by simp [encB, hc]
        by_cases hd : d = 0
        · subst hd
          have h2 : encB (0 :: y) ++ [0, 0] = 0 :: 1 :: (encB y ++ [0, 0]) := by simp [encB]
          have e1 : (c == 0) = false := by rw [beq_eq_false_iff_ne]; exact hc
          rw [h1, h2]; simp [Op.bytesLess, e1]
        · have h2 : encB (d :: y) ++ [0, 0] = d :: (encB y ++ [0, 0]) := by simp [encB, hd]
          have e1 : (c == d) = false := by rw [beq_eq_false_iff_ne]; exact e
          rw [h1, h2]; simp [Op.bytesLess, e1]
theorem codeA_pre {k k' t : List UInt8} (h : encB k ++ [0, 0] ++ t = encB k' ++ [0, 0]) : k = k' ∧ t = [] := by
  have h1 := parse_code k t
  have h2 := parse_code k' []
  rw [show encB k ++ 0 :: 0 :: t = encB k ++ [0, 0] ++ t from by simp, h, h2] at h1
  cases h1
  exact ⟨rfl, rfl⟩
theorem path_list (k : Nat) (s : ByteArray) : (pre k ++ codeOf s).data.toList = preL k ++ (encB s.data.toList ++ [0, 0]) := append_list _ _
theorem path_less {j k : Nat} (hj : j ≤ 16) (hk : k ≤ 16) (s t : ByteArray) : Op.bytesLess (pre j ++ codeOf s).toList (pre k ++ codeOf t).toList = (decide (j < k) || (decide (j = k) && Op.bytesLess s.toList t.toList)) := by
  rw [ByteArray.toList_eq, ByteArray.toList_eq, path_list, path_list, ByteArray.toList_eq, ByteArray.toList_eq, preL_eq, preL_eq, List.append_assoc, List.append_assoc, lessA_same]
  show Op.bytesLess (UInt8.ofNat j :: (encB s.data.toList ++ [0, 0])) (UInt8.ofNat k :: (encB t.data.toList ++ [0, 0])) = _
  rw [Op.bytesLess, lessA_code]
  have e1 : decide (UInt8.ofNat j < UInt8.ofNat k) = decide (j < k) := by
    rw [Bool.eq_iff_iff, decide_eq_true_eq, decide_eq_true_eq, byte_lt, ofNat_toNat (by omega), ofNat_toNat (by omega)]
  have e2 : (UInt8.ofNat j == UInt8.ofNat k) = decide (j = k) := by
    rw [Bool.eq_iff_iff, beq_iff_eq, decide_eq_true_eq]
    constructor
    · intro h
      have := congrArg UInt8.toNat h
      rwa [ofNat_toNat (by omega), ofNat_toNat (by omega)] at this
    · intro h; rw [h]
  rw [e1, e2]
theorem path_pre {j k : Nat} (hj : j ≤ 16) (hk : k ≤ 16) {s t : ByteArray} {r : List UInt8} (h : (pre j ++ codeOf s).data.toList ++ r = (pre k ++ codeOf t).data.toList) : j = k ∧ s = t := by
  rw [path_list, path_list] at h
  have h8 : preL j = preL k := by
    have := congrArg (List.take 8) h
    simpa [preL] using this
  rw [h8, List.append_assoc] at h
  have h2 := List.append_cancel_left h
  exact ⟨preL_inj (by omega) (by omega) h8, bytes_ext (codeA_pre h2).1⟩
theorem path_eq {j k : Nat} (hj : j ≤ 16) (hk : k ≤ 16) (s t : ByteArray) : ((pre j ++ codeOf s).toList == (pre k ++ codeOf t).toList) = (decide (j = k) && (s.toList == t.toList)) := by
  rw [Bool.eq_iff_iff, Bool.and_eq_true, beq_iff_eq, beq_iff_eq, decide_eq_true_eq, ByteArray.toList_eq, ByteArray.toList_eq, ByteArray.toList_eq, ByteArray.toList_eq]
  constructor
  · intro h
    obtain ⟨h1, h2⟩ := path_pre hj hk (r := []) (by rw [List.append_nil]; exact h)
    exact ⟨h1, by rw [h2]⟩
  · rintro ⟨rfl, h⟩
    rw [bytes_ext h]
theorem path_begin {j k : Nat} (hj : j ≤ 16) (hk : k ≤ 16) (hne : j ≠ k) (s t : ByteArray) : (((pre k ++ codeOf t).extract 0 (pre j ++ codeOf s).size).toList == (pre j ++ codeOf s).toList) = false := by
  rw [beq_eq_false_iff_ne]
  intro h
  rw [ByteArray.toList_eq, ByteArray.toList_eq, extract_list, List.drop_zero, Nat.sub_zero] at h
  refine hne (path_pre hj hk (s := s) (t := t) (r := (pre k ++ codeOf t).data.toList.drop (pre j ++ codeOf s).size) ?_).1
  rw [← h]
  exact List.take_append_drop _ _
end Go.Proofs.Ythkndfammlibpaa
