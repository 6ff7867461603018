/- Texts of stage 12, merged: CdRefEnc, CdRefD. -/
import Derived.Test.YtfffifmpfkkgbaaGCd
/- The reference's Encode. -/
namespace Go.Proofs.Ytfffifmpfkkgbaa.Cd
open Go.RowKit
set_option maxRecDepth 100000
set_option maxHeartbeats 2000000

def outB (s : ByteArray) (k : Nat) : ByteArray := ⟨(encB (s.data.toList.take k)).toArray⟩
theorem outB_list (s : ByteArray) (k : Nat) : (outB s k).data.toList = encB (s.data.toList.take k) := rfl
theorem outB_size (s : ByteArray) (k : Nat) : (outB s k).size ≤ 2 * k := by
  have := encB_le (s.data.toList.take k)
  rw [← length_list, outB_list]
  have h2 : (s.data.toList.take k).length ≤ k := List.length_take_le _ _
  omega
theorem extract_one (s : ByteArray) (k : Nat) (h : k < s.size) : (s.extract k (k + 1)).data.toList = [s[k]] := by
  rw [extract_list, List.drop_eq_getElem_cons (by rw [length_list]; exact h), show k + 1 - k = 1 from by omega]
  rfl
theorem take_one (s : ByteArray) (k : Nat) (h : k < s.size) : s.data.toList.take (k + 1) = s.data.toList.take k ++ [s[k]] := by
  rw [List.take_succ_eq_append_getElem (by rw [length_list]; exact h)]; rfl
theorem outB_zero (s : ByteArray) (k : Nat) (h : k < s.size) (hc : s[k] = 0) : outB s k ++ s.extract k (k + 1) ++ ⟨#[1]⟩ = outB s (k + 1) := by
  apply bytes_ext
  rw [append_list, append_list, extract_one s k h, outB_list, outB_list, take_one s k h, encB_append, hc]
  simp [encB]
theorem outB_other (s : ByteArray) (k : Nat) (h : k < s.size) (hc : s[k] ≠ 0) : outB s k ++ s.extract k (k + 1) = outB s (k + 1) := by
  apply bytes_ext
  rw [append_list, extract_one s k h, outB_list, outB_list, take_one s k h, encB_append]
  simp [encB, hc]
theorem outB_end (s : ByteArray) : outB s s.size ++ ⟨#[0, 0]⟩ = codeOf s := by
  apply bytes_ext
  rw [append_list, outB_list, List.take_of_length_le (by rw [length_list]; omega)]
  simp [codeOf, codeL]

theorem rencode_any (s : ByteArray) (w : World) (hs : s.size ≤ 16) :
    Calls Try.prog 45 #[.string s] w fun e w' => e = .returned (.tuple #[.string (codeOf s), .int .i64 0]) ∧ w' = w := by
  have h1 : (s.size : Int) ≤ 16 := by omega
  go_enter Try.func45, Try.ntmps45
  go_wp2
  go_loop [4, 5] (fun out i => ∃ k : Nat, k ≤ s.size ∧ i = .int .i64 k ∧ out = .string (outB s k)) (fun _ i => s.size - (intOf i).toNat)
  case atStart => exact ⟨0, Nat.zero_le _, rfl, rfl⟩
  case round =>
    obtain ⟨k, hk1, rfl, rfl⟩ := hrel
    have hsz := outB_size s k
    have z1 : (outB s k).size ≤ 100 := by omega
    have z3 : (⟨#[1]⟩ : ByteArray).size = 1 := rfl
    have z4 : (⟨#[0, 0]⟩ : ByteArray).size = 2 := rfl
    by_cases hm : k < s.size
    · have hmI : (k : Int) < (s.size : Int) := by omega
      by_cases hc : s[k] = 0
      · have HS := Lib.hid (outB_zero s k hm hc)
        have q1 : (((s[k]'hm).toNat : Int) == 0) = true := by rw [hc]; rfl
        clear hc
        go_wp2
        go_round
        case rel => exact ⟨k + 1, by omega, by go_num, by rw [HS.out]⟩
        case measure => simp [intOf]; omega
      · have HS := Lib.hid (outB_other s k hm hc)
        have q1 : (((s[k]'hm).toNat : Int) == 0) = false := by rw [beq_eq_false_iff_ne]; intro e; exact hc (UInt8.toNat.inj (by show (s[k]'hm).toNat = 0; omega))
        clear hc
        go_wp2
        go_round
        case rel => exact ⟨k + 1, by omega, by go_num, by rw [HS.out]⟩
        case measure => simp [intOf]; omega
    · obtain rfl : k = s.size := by omega
      have HS := Lib.hid (outB_end s)
      go_wp2
      go_ret2
      refine ⟨?_, rfl⟩
      rw [← HS.out]
      rfl

end Go.Proofs.Ytfffifmpfkkgbaa.Cd

/- The reference's Decode. -/
namespace Go.Proofs.Ytfffifmpfkkgbaa.Cd
open Go.RowKit Go.Shelf
set_option maxRecDepth 100000
set_option maxHeartbeats 2000000

theorem rencode_long (s : ByteArray) (w : World) (hs : 16 < s.size) (hm : s.size ≤ maxLen) :
    Calls Try.prog 45 #[.string s] w fun e w' => e = .returned (.tuple #[.string ⟨#[]⟩, .int .i64 3]) ∧ w' = w := by
  unfold maxLen at hm
  have h1 : (16 : Int) < (s.size : Int) := by omega
  go_enter Try.func45, Try.ntmps45
  go_wp2_with fail
  go_ret2
  exact ⟨rfl, rfl⟩

theorem code_toList (s : ByteArray) : (codeOf s).toList = encB s.data.toList ++ [0, 0] := by rw [ByteArray.toList_eq]; rfl
/-- A text without each 1 that follows a 0. -/
def strip : Option UInt8 → List UInt8 → List UInt8
  | _, [] => []
  | p, c :: l => (if c = 1 ∧ p = some 0 then [] else [c]) ++ strip (some c) l
def lastOf : Option UInt8 → List UInt8 → Option UInt8
  | p, [] => p
  | _, c :: l => lastOf (some c) l
theorem strip_snoc : ∀ (l : List UInt8) (p : Option UInt8) (c : UInt8), strip p (l ++ [c]) = strip p l ++ (if c = 1 ∧ lastOf p l = some 0 then [] else [c])
  | [], p, c => by
    show strip p [c] = [] ++ _
    rw [strip, strip, List.append_nil, List.nil_append, lastOf]
  | d :: l, p, c => by
    show strip p (d :: (l ++ [c])) = _
    rw [strip, strip, strip_snoc l, lastOf, List.append_assoc]
theorem lastOf_take : ∀ (l : List UInt8) (p : Option UInt8) (j : Nat) (h : j < l.length), lastOf p (l.take (j + 1)) = some l[j]
  | c :: l, p, 0, _ => rfl
  | c :: l, p, j + 1, h => lastOf_take l (some c) j (by simpa using h)
theorem strip_le : ∀ (l : List UInt8) (p : Option UInt8), (strip p l).length ≤ l.length
  | [], _ => Nat.le_refl _
  | c :: l, p => by
    have := strip_le l (some c)
    rw [strip, List.length_append, List.length_cons]
    split <;> simp <;> omega
theorem strip_code : ∀ (k : List UInt8) (p : Option UInt8), p ≠ some 0 → strip p (encB k ++ [0, 0]) = k ++ [0, 0]
  | [], p, _ => by simp [encB, strip]
  | c :: k, p, hp => by
    by_cases hc : c = 0
    · subst hc
      have h : encB (0 :: k) ++ [0, 0] = 0 :: 1 :: (encB k ++ [0, 0]) := by simp [encB]
      rw [h, strip, strip, strip_code k (some 1) (by decide)]
      simp
    · have h : encB (c :: k) ++ [0, 0] = c :: (encB k ++ [0, 0]) := by simp [encB, hc]
      rw [h, strip, strip_code k (some c) (by simpa using hc)]
      simp [hp]
/-- What the reference keeps of the first k bytes. -/
def kept (s : ByteArray) (k : Nat) : ByteArray := bz (strip none (s.data.toList.take k))
theorem kept_size (s : ByteArray) (k : Nat) : (kept s k).size ≤ k := by
  rw [kept, bz_size]
  have := strip_le (s.data.toList.take k) none
  have h2 : (s.data.toList.take k).length ≤ k := List.length_take_le _ _
  omega
theorem kept_first (s : ByteArray) (h : 0 < s.size) : kept s 0 ++ s.extract 0 (0 + 1) = kept s 1 := by
  apply bytes_ext
  rw [append_list, extract_one s 0 h]
  show strip none (s.data.toList.take 0) ++ [s[0]] = strip none (s.data.toList.take (0 + 1))
  rw [take_one s 0 h, strip_snoc]
  simp [lastOf]
theorem kept_skip (s : ByteArray) (j : Nat) (h : j + 1 < s.size) (h1 : s[j + 1] = 1) (h2 : s[j] = 0) : kept s (j + 1) = kept s (j + 2) := by
  rw [kept, kept, take_one s (j + 1) h, strip_snoc, lastOf_take _ _ j (by rw [length_list]; omega)]
  rw [if_pos ⟨h1, congrArg some h2⟩, List.append_nil]
theorem kept_more (s : ByteArray) (j : Nat) (h : j + 1 < s.size) (h1 : ¬ (s[j + 1] = 1 ∧ s[j] = 0)) : kept s (j + 1) ++ s.extract (j + 1) (j + 1 + 1) = kept s (j + 2) := by
  apply bytes_ext
  rw [append_list, extract_one s (j + 1) h]
  show strip none (s.data.toList.take (j + 1)) ++ [s[j + 1]] = strip none (s.data.toList.take (j + 1 + 1))
  rw [take_one s (j + 1) h, strip_snoc, lastOf_take _ _ j (by rw [length_list]; omega)]
  rw [if_neg (fun e => h1 ⟨e.1, Option.some.inj e.2⟩)]

theorem rdecode_any (s : ByteArray) (hs : s.size ≤ 1000) (w : World) :
    Calls Try.prog 46 #[.string s] w fun e w' => e = .returned (decOf s.data.toList) ∧ w' = w := by
  go_enter Try.func46, Try.ntmps46
  go_wp2
  go_loop [4, 5] (fun out i => ∃ k : Nat, k ≤ s.size ∧ k ≤ 100 ∧ i = .int .i64 k ∧ out = .string (kept s k)) (fun _ i => s.size - (intOf i).toNat)
  case atStart => exact ⟨0, Nat.zero_le _, Nat.zero_le _, rfl, rfl⟩
  case round =>
    obtain ⟨k, hk1, hk2, rfl, rfl⟩ := hrel
    have hsz := kept_size s k
    have z1 : (kept s k).size ≤ 100 := by omega
    by_cases hm : k < s.size ∧ k < 100
    · obtain ⟨hm1, hm2⟩ := hm
      have hmI : (k : Int) < (s.size : Int) := by omega
      have hmJ : (k : Int) < 100 := by omega
      rcases k with _ | j
      · have HS := Lib.hid (kept_first s hm1)
        go_wp2
        go_round
        case rel => exact ⟨1, by omega, by omega, by go_num, by rw [← HS.out]⟩
        case measure => simp [intOf]; omega
      · by_cases hc : s[j + 1] = 1
        · have q1 : (((s[j + 1]'hm1).toNat : Int) == 1) = true := by rw [hc]; rfl
          by_cases hd : s[j] = 0
          · have q2 : (((s[j]'(by omega)).toNat : Int) == 0) = true := by rw [hd]; rfl
            have HS := Lib.hid (kept_skip s j hm1 hc hd)
            clear hc hd
            go_wp2
            go_round
            case rel => exact ⟨j + 2, by omega, by omega, by go_num, by rw [HS.out]⟩
            case measure => simp [intOf]; omega
          · have q2 : (((s[j]'(by omega)).toNat : Int) == 0) = false := by rw [beq_eq_false_iff_ne]; intro e; exact hd (UInt8.toNat.inj (by show (s[j]'(by omega)).toNat = 0; omega))
            have HS := Lib.hid (kept_more s j hm1 (fun e => hd e.2))
            clear hc hd
            go_wp2
            go_round
            case rel => exact ⟨j + 2, by omega, by omega, by go_num, by rw [HS.out]⟩
            case measure => simp [intOf]; omega
        · have q1 : (((s[j + 1]'hm1).toNat : Int) == 1) = false := by rw [beq_eq_false_iff_ne]; intro e; exact hc (UInt8.toNat.inj (by show (s[j + 1]'hm1).toNat = 1; omega))
          have HS := Lib.hid (kept_more s j hm1 (fun e => hc e.1))
          clear hc
          go_wp2
          go_round
          case rel => exact ⟨j + 2, by omega, by omega, by go_num, by rw [HS.out]⟩
          case measure => simp [intOf]; omega
    · have hend : kept s k = bz (strip none (s.data.toList.take 100)) := by
        rw [kept]
        by_cases h : k = 100
        · rw [h]
        · rw [List.take_of_length_le (by rw [length_list]; omega), List.take_of_length_le (by rw [length_list]; omega)]
      have hm2 : (s.size : Int) ≤ (k : Int) ∨ (100 : Int) ≤ (k : Int) := by omega
      obtain ⟨K, hK⟩ : ∃ K, kept s k = K := ⟨_, rfl⟩
      rw [hK] at hend hsz z1 ⊢
      have hKl : K.data.toList = strip none (s.data.toList.take 100) := by rw [hend]
      clear hK hend
      cases hk : keyL s.data.toList with
      | some kk =>
        obtain ⟨e1, e2⟩ := keyL_some hk
        have b1 := encB_le kk
        have hL : K.data.toList = kk ++ [0, 0] := by
          rw [hKl, e1, List.take_of_length_le (by simp; omega), strip_code kk none (by simp)]
        have hKs : K.size = kk.length + 2 := by rw [← length_list, hL]; simp
        have hx : K.extract 0 (K.size - 2) = bz kk := bytes_ext (by rw [extract_list, hL, hKs]; simp)
        have g1 : (2 : Int) ≤ (K.size : Int) := by omega
        have HE : Hid (∀ W : World, Calls Try.prog 45 #[.string (bz kk)] W fun e w' => e = .returned (.tuple #[.string s, .int .i64 0]) ∧ w' = W) := Lib.hid fun W => by
          have h := rencode_any (bz kk) W (by rw [bz_size]; exact e2)
          rw [codeOf_bz, show (bz kk).data.toList = kk from rfl, ← e1, bz_list] at h
          exact h
        have HX := Lib.hid hx
        have HV : Hid (decOf s.data.toList = .tuple #[.string (bz kk), .int .i64 0]) := by
          show _ = _
          rw [decOf, hk]
        clear hk e1 hL hKl hx hKs
        by_cases hm3 : (k : Int) < (s.size : Int)
        · have hm4 : (100 : Int) ≤ (k : Int) := by omega
          clear hm2 hm
          go_wp2_with (go_at_call 45; rw [HX.out]; refine (HE.out _).mono ?_; rintro e w1 ⟨rfl, rfl⟩)
          all_goals first | (exfalso; have := beq_eq_false_iff_ne.1 q2; contradiction) | exact bodyPost_ret (v := decOf s.data.toList) (by rw [HV.out]; simp [results, Try.results46, go_sem]) rfl ⟨rfl, rfl⟩
        · have hm4 : (s.size : Int) ≤ (k : Int) := by omega
          clear hm2 hm hm3
          go_wp2_with (go_at_call 45; rw [HX.out]; refine (HE.out _).mono ?_; rintro e w1 ⟨rfl, rfl⟩)
          all_goals first | (exfalso; have := beq_eq_false_iff_ne.1 q2; contradiction) | exact bodyPost_ret (v := decOf s.data.toList) (by rw [HV.out]; simp [results, Try.results46, go_sem]) rfl ⟨rfl, rfl⟩
      | none =>
        have HV : Hid (decOf s.data.toList = .tuple #[.string ⟨#[]⟩, .int .i64 4]) := by
          show _ = _
          rw [decOf, hk]
        by_cases hK2 : K.size < 2
        · have g1 : (K.size : Int) < 2 := by omega
          by_cases hm3 : (k : Int) < (s.size : Int)
          · have hm4 : (100 : Int) ≤ (k : Int) := by omega
            clear hm2 hm hk hKl
            go_wp2
            all_goals first | (exfalso; have := beq_eq_false_iff_ne.1 q2; contradiction) | exact bodyPost_ret (v := decOf s.data.toList) (by rw [HV.out]; simp [results, Try.results46, go_sem]) rfl ⟨rfl, rfl⟩
          · have hm4 : (s.size : Int) ≤ (k : Int) := by omega
            clear hm2 hm hm3 hk hKl
            go_wp2
            all_goals first | (exfalso; have := beq_eq_false_iff_ne.1 q2; contradiction) | exact bodyPost_ret (v := decOf s.data.toList) (by rw [HV.out]; simp [results, Try.results46, go_sem]) rfl ⟨rfl, rfl⟩
        · have g1 : (2 : Int) ≤ (K.size : Int) := by omega
          obtain ⟨X, hX⟩ : ∃ X, K.extract 0 (K.size - 2) = X := ⟨_, rfl⟩
          have hXs : X.size ≤ 100 := by rw [← hX, ByteArray.size_extract]; omega
          obtain ⟨B, v, hB, hE⟩ : ∃ (B : ByteArray) (v : Int), (v = 0 → (B.toList == s.toList) = false) ∧ ∀ W : World, Calls Try.prog 45 #[.string X] W fun e w' => e = .returned (.tuple #[.string B, .int .i64 v]) ∧ w' = W := by
            by_cases h16 : 16 < X.size
            · exact ⟨_, 3, by omega, fun W => rencode_long X W h16 (by unfold maxLen; omega)⟩
            · refine ⟨codeOf X, 0, fun _ => ?_, fun W => rencode_any X W (by omega)⟩
              rw [beq_eq_false_iff_ne, code_toList, ByteArray.toList_eq]
              intro e
              rw [← e, keyL_code (by rw [length_list]; omega)] at hk
              cases hk
          have HX := Lib.hid hX
          have HE := Lib.hid hE
          clear hE hX hk hKl
          by_cases hm3 : (k : Int) < (s.size : Int)
          · have hm4 : (100 : Int) ≤ (k : Int) := by omega
            clear hm2 hm
            by_cases hv : v = 0
            · have q1 := hB hv
              have q2 : (v == 0) = true := by rw [hv]; rfl
              clear hB hv
              go_wp2_with (go_at_call 45; rw [HX.out]; refine (HE.out _).mono ?_; rintro e w1 ⟨rfl, rfl⟩)
              all_goals first | (exfalso; have := beq_eq_false_iff_ne.1 q2; contradiction) | exact bodyPost_ret (v := decOf s.data.toList) (by rw [HV.out]; simp [results, Try.results46, go_sem]) rfl ⟨rfl, rfl⟩
            · have q2 : (v == 0) = false := by rw [beq_eq_false_iff_ne]; exact hv
              clear hB hv
              go_wp2_with (go_at_call 45; rw [HX.out]; refine (HE.out _).mono ?_; rintro e w1 ⟨rfl, rfl⟩)
              all_goals first | (exfalso; have := beq_eq_false_iff_ne.1 q2; contradiction) | exact bodyPost_ret (v := decOf s.data.toList) (by rw [HV.out]; simp [results, Try.results46, go_sem]) rfl ⟨rfl, rfl⟩
          · have hm4 : (s.size : Int) ≤ (k : Int) := by omega
            clear hm2 hm hm3
            by_cases hv : v = 0
            · have q1 := hB hv
              have q2 : (v == 0) = true := by rw [hv]; rfl
              clear hB hv
              go_wp2_with (go_at_call 45; rw [HX.out]; refine (HE.out _).mono ?_; rintro e w1 ⟨rfl, rfl⟩)
              all_goals first | (exfalso; have := beq_eq_false_iff_ne.1 q2; contradiction) | exact bodyPost_ret (v := decOf s.data.toList) (by rw [HV.out]; simp [results, Try.results46, go_sem]) rfl ⟨rfl, rfl⟩
            · have q2 : (v == 0) = false := by rw [beq_eq_false_iff_ne]; exact hv
              clear hB hv
              go_wp2_with (go_at_call 45; rw [HX.out]; refine (HE.out _).mono ?_; rintro e w1 ⟨rfl, rfl⟩)
              all_goals first | (exfalso; have := beq_eq_false_iff_ne.1 q2; contradiction) | exact bodyPost_ret (v := decOf s.data.toList) (by rw [HV.out]; simp [results, Try.results46, go_sem]) rfl ⟨rfl, rfl⟩
end Go.Proofs.Ytfffifmpfkkgbaa.Cd
