/- The walk of the law CodeOrder. -/
import Derived.Test.YtdogeimgaebnjaaBackW
namespace Go.Proofs.Ytdogeimgaebnjaa
open Go.RowKit Go.Shelf
set_option maxRecDepth 100000
set_option maxHeartbeats 2000000

theorem less_same : ∀ (p x y : List UInt8), Op.bytesLess (p ++ x) (p ++ y) = Op.bytesLess x y
  | [], _, _ => rfl
  | a :: p, x, y => by simp [Op.bytesLess, less_same p x y]
theorem zero_lt {c : UInt8} (h : c ≠ 0) : (0 : UInt8) < c := by
  rw [UInt8.lt_iff_toNat_lt]
  have : c.toNat ≠ 0 := fun e => h (UInt8.toNat_inj.1 e)
  show 0 < c.toNat
  omega
theorem less_code : ∀ x y : List UInt8, Op.bytesLess (encB x ++ [0, 0]) (encB y ++ [0, 0]) = Op.bytesLess x y
  | [], [] => rfl
  | [], d :: y => by
    by_cases hd : d = 0
    · subst hd
      have h : encB (0 :: y) ++ [0, 0] = 0 :: 1 :: (encB y ++ [0, 0]) := by simp [encB]
      rw [h]; simp [encB, Op.bytesLess]
    · have h : encB (d :: y) ++ [0, 0] = d :: (encB y ++ [0, 0]) := by simp [encB, hd]
      rw [h]; simp [encB, Op.bytesLess, zero_lt hd]
  | c :: x, [] => by
    by_cases hc : c = 0
    · subst hc
      have h : encB (0 :: x) ++ [0, 0] = 0 :: 1 :: (encB x ++ [0, 0]) := by simp [encB]
      rw [h]; simp [encB, Op.bytesLess]
    · have h : encB (c :: x) ++ [0, 0] = c :: (encB x ++ [0, 0]) := by simp [encB, hc]
      rw [h]; simp [encB, Op.bytesLess, hc]
  | c :: x, d :: y => by
    by_cases e : c = d
    · subst e
      have h : ∀ z, encB (c :: z) ++ [0, 0] = (if c = 0 then [0, 1] else [c]) ++ (encB z ++ [0, 0]) := fun z => by simp [encB]
      rw [h, h, less_same, less_code x y]
      simp [Op.bytesLess]
    · by_cases hc : c = 0
      · subst hc
        have hd : d ≠ 0 := Ne.symm e
        have h1 : encB (0 :: x) ++ [0, 0] = 0 :: 1 :: (encB x ++ [0, 0]) := by simp [encB]
        have h2 : encB (d :: y) ++ [0, 0] = d :: (encB y ++ [0, 0]) := by simp [encB, hd]
        rw [h1, h2]; simp [Op.bytesLess, zero_lt hd]
      · have h1 : encB (c :: x) ++ [0, 0] = c :: (encB x ++ [0, 0]) := by simp [encB, hc]
        by_cases hd : d = 0
        · subst hd
          have h2 : encB (0 :: y) ++ [0, 0] = 0 :: 1 :: (encB y ++ [0, 0]) := by simp [encB]
          have e1 : (c == 0) = false := by rw [beq_eq_false_iff_ne]; exact hc
          rw [h1, h2]; simp [Op.bytesLess, e1]
        · have h2 : encB (d :: y) ++ [0, 0] = d :: (encB y ++ [0, 0]) := by simp [encB, hd]
          have e1 : (c == d) = false := by rw [beq_eq_false_iff_ne]; exact e
          rw [h1, h2]; simp [Op.bytesLess, e1]
theorem code_toList (s : ByteArray) : (codeOf s).toList = encB s.data.toList ++ [0, 0] := by rw [ByteArray.toList_eq]; rfl
theorem less_codes (s t : ByteArray) : Op.bytesLess (codeOf s).toList (codeOf t).toList = Op.bytesLess s.toList t.toList := by
  rw [code_toList, code_toList, less_code, ByteArray.toList_eq, ByteArray.toList_eq]
theorem code_pre {k k' t : List UInt8} (h : encB k ++ [0, 0] ++ t = encB k' ++ [0, 0]) : k = k' ∧ t = [] := by
  have h1 := parse_code k t
  have h2 := parse_code k' []
  rw [show encB k ++ 0 :: 0 :: t = encB k ++ [0, 0] ++ t from by simp, h, h2] at h1
  cases h1
  exact ⟨rfl, rfl⟩
theorem eq_codes (s t : ByteArray) : ((codeOf s).toList == (codeOf t).toList) = (s.toList == t.toList) := by
  rw [code_toList, code_toList, ByteArray.toList_eq, ByteArray.toList_eq, Bool.eq_iff_iff, beq_iff_eq, beq_iff_eq]
  constructor
  · intro h; exact (code_pre (t := []) (by simpa using h)).1
  · intro h; rw [h]
theorem is_more (s m : ByteArray) (hm : m.toList.isEmpty = false) : isCode (codeOf s ++ m).data.toList = false := by
  have h : (codeOf s ++ m).data.toList = encB s.data.toList ++ 0 :: 0 :: m.data.toList := by rw [append_list, codeL_list]; simp
  rw [isCode, h, keyL, parse_code]
  rw [ByteArray.toList_eq] at hm
  cases hl : m.data.toList with
  | nil => rw [hl] at hm; cases hm
  | cons c l => rfl
theorem begin_codes (s t : ByteArray) (hne : (s.toList == t.toList) = false) : (((codeOf t).extract 0 (codeOf s).size).toList == (codeOf s).toList) = false := by
  rw [beq_eq_false_iff_ne] at hne ⊢
  intro h
  apply hne
  rw [code_toList, ByteArray.toList_eq, extract_list, codeL_list] at h
  simp only [List.drop_zero, Nat.sub_zero] at h
  have h2 : encB s.data.toList ++ [0, 0] ++ (encB t.data.toList ++ [0, 0]).drop (codeOf s).size = encB t.data.toList ++ [0, 0] := by
    rw [← h, List.take_append_drop]
  rw [ByteArray.toList_eq, ByteArray.toList_eq, (code_pre h2).1]

theorem codeOrder_any (s t m : ByteArray) (w : World) (hs : s.size ≤ 140737488351232) (ht : t.size ≤ 140737488351232) (hm : m.size ≤ 140737488351232) :
    Calls Try.prog 6 #[.string s, .string t, .string m] w fun e w' => e = .returned (.bool true) ∧ Below w.heap.size w w' := by
  by_cases hb : 1000 < s.size + t.size + m.size
  · have k1 : (1000 : Int) < (s.size : Int) + (t.size : Int) + (m.size : Int) := by omega
    go_enter Try.func6, Try.ntmps6
    go_wp2_with (go_at_call 7; refine (awake_any _).mono ?_; rintro e w1 ⟨rfl, hb1⟩)
    go_ret
    exact ⟨rfl, hb1⟩
  have k1 : (s.size : Int) + (t.size : Int) + (m.size : Int) ≤ 1000 := by omega
  by_cases hl : 16 < s.size
  · have HE := Lib.hid (fun W => encode_long s W hl (by unfold maxLen; omega))
    obtain ⟨b, e, hT⟩ : ∃ b e, ∀ W : World, Calls Try.prog 11 #[.string t] W fun e' w' => e' = .returned (.tuple #[.string b, .int .i64 e]) ∧ Below W.heap.size W w' := by
      by_cases h2 : 16 < t.size
      · exact ⟨_, _, fun W => encode_long t W h2 (by unfold maxLen; omega)⟩
      · exact ⟨_, _, fun W => encode_any t W (by omega)⟩
    have HT := Lib.hid hT
    clear hT hb hl
    go_enter Try.func6, Try.ntmps6
    go_wp2_with (first
      | (go_at_call 7; refine (awake_any _).mono ?_; rintro e w1 ⟨rfl, hb1⟩)
      | (go_at_call 11; with_reducible refine (HE.out _).mono ?_; rintro e w2 ⟨rfl, hb2⟩)
      | (go_at_call 11; with_reducible refine (HT.out _).mono ?_; rintro e w3 ⟨rfl, hb3⟩))
    go_ret
    exact ⟨rfl, (hb1.next hb2).next hb3⟩
  have HE := Lib.hid (fun W => encode_any s W (by omega))
  by_cases hl2 : 16 < t.size
  · have HT := Lib.hid (fun W => encode_long t W hl2 (by unfold maxLen; omega))
    clear hb hl hl2
    go_enter Try.func6, Try.ntmps6
    go_wp2_with (first
      | (go_at_call 7; refine (awake_any _).mono ?_; rintro e w1 ⟨rfl, hb1⟩)
      | (go_at_call 11; with_reducible refine (HE.out _).mono ?_; rintro e w2 ⟨rfl, hb2⟩)
      | (go_at_call 11; with_reducible refine (HT.out _).mono ?_; rintro e w3 ⟨rfl, hb3⟩))
    go_ret
    exact ⟨rfl, (hb1.next hb2).next hb3⟩
  have HT := Lib.hid (fun W => encode_any t W (by omega))
  have hl3 := less_codes s t
  have hl4 := eq_codes s t
  have hl5 := is_more s m
  have hl6 := begin_codes s t
  have z1 := encB_le s.data.toList
  have z3 := length_list s
  have z4 := codeOf_size s
  have y1 := encB_le t.data.toList
  have y3 := length_list t
  have y4 := codeOf_size t
  have HL := Lib.hid (less_any (codeOf s) (codeOf t))
  have HI := Lib.hid (is_any (codeOf s ++ m) (by rw [append_size]; omega))
  obtain ⟨a, ha⟩ : ∃ a, codeOf s = a := ⟨_, rfl⟩
  obtain ⟨b, hb'⟩ : ∃ b, codeOf t = b := ⟨_, rfl⟩
  have m1 : (a.size : Int) ≤ 34 := by rw [← ha, z4]; omega
  have m2 : (b.size : Int) ≤ 34 := by rw [← hb', y4]; omega
  rw [ha] at HE hl3 hl4 hl5 hl6 HL HI
  rw [hb'] at HT hl3 hl4 hl6 HL
  obtain ⟨x, hx⟩ : ∃ x, Op.bytesLess s.toList t.toList = x := ⟨_, rfl⟩
  obtain ⟨u, hu⟩ : ∃ u, (s.toList == t.toList) = u := ⟨_, rfl⟩
  obtain ⟨v, hv⟩ : ∃ v, m.toList.isEmpty = v := ⟨_, rfl⟩
  rw [hu] at hl4 hl6
  rw [hx] at hl3
  rw [hl3] at HL
  rw [hv] at hl5
  clear ha hb' z1 z3 z4 y1 y3 y4 hl3 hl hl2 hb
  cases v
  · rw [hl5 rfl] at HI
    clear hl5
    cases u
    · have hl7 := hl6 rfl
      clear hl6
      by_cases hab : b.size < a.size
      · have k5 : (b.size : Int) < (a.size : Int) := by omega
        cases x
        all_goals
          go_enter Try.func6, Try.ntmps6
          go_wp2_with (first
          | (go_at_call 7; refine (awake_any _).mono ?_; rintro e w1 ⟨rfl, hb1⟩)
          | (go_at_call 11; with_reducible refine (HE.out _).mono ?_; rintro e w2 ⟨rfl, hb2⟩)
          | (go_at_call 11; with_reducible refine (HT.out _).mono ?_; rintro e w3 ⟨rfl, hb3⟩)
          | (go_at_call 9; with_reducible refine (HL.out _).mono ?_; rintro e w4 ⟨rfl, rfl⟩)
          | (go_at_call 13; with_reducible refine (HI.out _).mono ?_; rintro e w5 ⟨rfl, hb5⟩))
          go_ret
          exact ⟨rfl, ((hb1.next hb2).next hb3).next hb5⟩
      · have k5 : (a.size : Int) ≤ (b.size : Int) := by omega
        cases x
        all_goals
          go_enter Try.func6, Try.ntmps6
          go_wp2_with (first
          | (go_at_call 7; refine (awake_any _).mono ?_; rintro e w1 ⟨rfl, hb1⟩)
          | (go_at_call 11; with_reducible refine (HE.out _).mono ?_; rintro e w2 ⟨rfl, hb2⟩)
          | (go_at_call 11; with_reducible refine (HT.out _).mono ?_; rintro e w3 ⟨rfl, hb3⟩)
          | (go_at_call 9; with_reducible refine (HL.out _).mono ?_; rintro e w4 ⟨rfl, rfl⟩)
          | (go_at_call 13; with_reducible refine (HI.out _).mono ?_; rintro e w5 ⟨rfl, hb5⟩))
          go_ret
          exact ⟨rfl, ((hb1.next hb2).next hb3).next hb5⟩
    · clear hl6
      cases x
      all_goals
        go_enter Try.func6, Try.ntmps6
        go_wp2_with (first
        | (go_at_call 7; refine (awake_any _).mono ?_; rintro e w1 ⟨rfl, hb1⟩)
        | (go_at_call 11; with_reducible refine (HE.out _).mono ?_; rintro e w2 ⟨rfl, hb2⟩)
        | (go_at_call 11; with_reducible refine (HT.out _).mono ?_; rintro e w3 ⟨rfl, hb3⟩)
        | (go_at_call 9; with_reducible refine (HL.out _).mono ?_; rintro e w4 ⟨rfl, rfl⟩)
        | (go_at_call 13; with_reducible refine (HI.out _).mono ?_; rintro e w5 ⟨rfl, hb5⟩))
        go_ret
        exact ⟨rfl, ((hb1.next hb2).next hb3).next hb5⟩
  · clear HI hl5
    cases u
    · have hl7 := hl6 rfl
      clear hl6
      by_cases hab : b.size < a.size
      · have k5 : (b.size : Int) < (a.size : Int) := by omega
        cases x
        all_goals
          go_enter Try.func6, Try.ntmps6
          go_wp2_with (first
          | (go_at_call 7; refine (awake_any _).mono ?_; rintro e w1 ⟨rfl, hb1⟩)
          | (go_at_call 11; with_reducible refine (HE.out _).mono ?_; rintro e w2 ⟨rfl, hb2⟩)
          | (go_at_call 11; with_reducible refine (HT.out _).mono ?_; rintro e w3 ⟨rfl, hb3⟩)
          | (go_at_call 9; with_reducible refine (HL.out _).mono ?_; rintro e w4 ⟨rfl, rfl⟩)
          | (go_at_call 13; with_reducible refine (HI.out _).mono ?_; rintro e w5 ⟨rfl, hb5⟩))
          go_ret
          exact ⟨rfl, (hb1.next hb2).next hb3⟩
      · have k5 : (a.size : Int) ≤ (b.size : Int) := by omega
        cases x
        all_goals
          go_enter Try.func6, Try.ntmps6
          go_wp2_with (first
          | (go_at_call 7; refine (awake_any _).mono ?_; rintro e w1 ⟨rfl, hb1⟩)
          | (go_at_call 11; with_reducible refine (HE.out _).mono ?_; rintro e w2 ⟨rfl, hb2⟩)
          | (go_at_call 11; with_reducible refine (HT.out _).mono ?_; rintro e w3 ⟨rfl, hb3⟩)
          | (go_at_call 9; with_reducible refine (HL.out _).mono ?_; rintro e w4 ⟨rfl, rfl⟩)
          | (go_at_call 13; with_reducible refine (HI.out _).mono ?_; rintro e w5 ⟨rfl, hb5⟩))
          go_ret
          exact ⟨rfl, (hb1.next hb2).next hb3⟩
    · clear hl6
      cases x
      all_goals
        go_enter Try.func6, Try.ntmps6
        go_wp2_with (first
        | (go_at_call 7; refine (awake_any _).mono ?_; rintro e w1 ⟨rfl, hb1⟩)
        | (go_at_call 11; with_reducible refine (HE.out _).mono ?_; rintro e w2 ⟨rfl, hb2⟩)
        | (go_at_call 11; with_reducible refine (HT.out _).mono ?_; rintro e w3 ⟨rfl, hb3⟩)
        | (go_at_call 9; with_reducible refine (HL.out _).mono ?_; rintro e w4 ⟨rfl, rfl⟩)
        | (go_at_call 13; with_reducible refine (HI.out _).mono ?_; rintro e w5 ⟨rfl, hb5⟩))
        go_ret
        exact ⟨rfl, (hb1.next hb2).next hb3⟩
end Go.Proofs.Ytdogeimgaebnjaa
