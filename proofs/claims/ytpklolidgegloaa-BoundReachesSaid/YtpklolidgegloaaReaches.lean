/- The walk of BoundReaches. -/
import Derived.Test.YtpklolidgegloaaValues
namespace Go.Proofs.Ytpklolidgegloaa
open Go.RowKit
set_option maxRecDepth 100000
set_option maxHeartbeats 1000000

theorem take_le : ∀ (p f : List UInt8), bl p (f.take p.length) = false → (bl (f.take p.length) p || f.take p.length == p) = true
  | [], f, _ => by simp
  | _ :: _, [], _ => by simp [bl, Op.bytesLess]
  | a :: p, b :: f, h => by
    rw [List.length_cons, List.take_succ_cons, bl_cons] at h
    rw [List.length_cons, List.take_succ_cons, bl_cons]
    by_cases e : a = b
    · subst e
      have hl : ¬ a < a := by simp
      have h' : bl p (f.take p.length) = false := by simpa [hl] using h
      simpa [hl] using take_le p f h'
    · have e1 : ¬ a < b := by intro hh; simp [hh] at h
      have e2 : b < a := by
        rw [UInt8.lt_iff_toNat_lt] at e1 ⊢
        have : b.toNat ≠ a.toNat := fun hh => e (UInt8.toNat.inj hh).symm
        omega
      simp [e2]

theorem reaches_big (p f s : ByteArray) (w : World) (hp : p.size ≤ 140737488351232) (hf : f.size ≤ 140737488351232) (hs : s.size ≤ 140737488351232) (hbig : 1000 < p.size + f.size + s.size) :
    Calls Try.prog 6 #[.string p, .string f, .string s] w fun e w' => e = .returned (.bool true) ∧ Below w.heap.size w w' := by
  go_enter Try.func6, Try.ntmps6
  go_wp2_with fail
  refine (awake_any _).mono ?_
  rintro e w1 ⟨rfl, hb1⟩
  go_wp2_with fail
  go_ret
  exact ⟨rfl, hb1⟩

theorem reaches_small (p f s : ByteArray) (w : World) (hsmall : p.size + f.size + s.size ≤ 1000) :
    Calls Try.prog 6 #[.string p, .string f, .string s] w fun e w' => e = .returned (.bool true) ∧ Below w.heap.size w w' := by
  have P6 : Hid (p.size ≤ maxLen) := by show p.size ≤ maxLen; unfold maxLen; omega
  have F6 : Hid (f.size ≤ maxLen) := by show f.size ≤ maxLen; unfold maxLen; omega
  by_cases hr : reachB p f = true
  · -- some text with the prefix is not below the bound
    have hr' : bl p.data.toList (f.data.toList.take p.data.toList.length) = false := by
      unfold reachB at hr; simpa using hr
    obtain ⟨x, hx⟩ : ∃ x, leastB p f = x := ⟨_, rfl⟩
    have hxb : x = p ∨ (x = f ∧ pre p.data.toList f.data.toList = true ∧ bl p.data.toList f.data.toList = true) := by
      rw [← hx]
      unfold leastB
      by_cases h : bl p.data.toList f.data.toList = true
      · have h2 := reach_yes _ _ hr' h
        rw [if_pos h, if_pos h2]
        exact .inr ⟨rfl, h2, h⟩
      · rw [if_neg h]; exact .inl rfl
    have x1 : Op.bytesLess x.toList f.toList = false := by
      rw [ByteArray.toList_eq, ByteArray.toList_eq]
      rcases hxb with rfl | ⟨rfl, _, _⟩
      · unfold leastB at hx
        by_cases h : bl x.data.toList f.data.toList = true
        · rw [if_pos h, if_pos (reach_yes _ _ hr' h)] at hx
          rw [← hx]; exact bl_self _
        · simpa using h
      · exact bl_self _
    have x2 : pre p.data.toList x.data.toList = true := by
      rcases hxb with rfl | ⟨rfl, h, _⟩
      · have := pre_append x.data.toList []
        rwa [List.append_nil] at this
      · exact h
    rw [pre_bytes, Bool.and_eq_true] at x2
    obtain ⟨x3, x4⟩ := x2
    have x3 : p.size ≤ x.size := by simpa using x3
    have x4 : ((x.extract 0 p.size).toList == p.toList) = true := by rw [ByteArray.toList_eq, ByteArray.toList_eq]; exact x4
    have x5 : (!Op.bytesLess (p ++ s).toList f.toList && Op.bytesLess (p ++ s).toList x.toList) = false := by
      rw [ByteArray.toList_eq, ByteArray.toList_eq, ByteArray.toList_eq, append_list]
      rcases hxb with rfl | ⟨rfl, _, _⟩
      · have := bl_append x.data.toList s.data.toList
        unfold bl at this
        rw [this]; simp
      · cases Op.bytesLess (p.data.toList ++ s.data.toList) x.data.toList <;> rfl
    have x6 : x.size ≤ 1000 := by
      rcases hxb with rfl | ⟨rfl, _, _⟩ <;> omega
    obtain ⟨tt, ht⟩ : ∃ tt, Op.bytesLess (p ++ s).toList f.toList = tt := ⟨_, rfl⟩
    obtain ⟨uu, hu⟩ : ∃ uu, Op.bytesLess (p ++ s).toList x.toList = uu := ⟨_, rfl⟩
    rw [ht, hu] at x5
    have k1 : (Op.bytesLess (f.extract 0 p.size).toList p.toList || (f.extract 0 p.size).toList == p.toList) = true := by
      rw [ByteArray.toList_eq, ByteArray.toList_eq, extract_list]
      simp only [List.drop_zero, Nat.sub_zero]
      rw [← length_list p]
      exact take_le _ _ hr'
    have k2 : p.size > f.size → f.extract 0 p.size = f := fun h => by
      apply bytes_ext; rw [extract_list]; simp; rw [List.take_of_length_le (by simp; omega)]
    have k3 : (f.extract 0 f.size) = f := by
      apply bytes_ext; rw [extract_list]; simp; rw [List.take_of_length_le (by simp)]
    have HR := Lib.hid hr
    have HX := Lib.hid hx
    have HCL : Hid (clipB f (p.size : Int) = f.extract 0 p.size) := rfl
    clear hr hr' hx hxb
    by_cases hpf : p.size ≤ f.size
    · obtain ⟨d, hd⟩ : ∃ d, f.extract 0 p.size = d := ⟨_, rfl⟩
      have hclip : Hid (∀ w, Calls Try.prog 17 #[.string f, .int .i64 (p.size : Int)] w fun e w' => e = .returned (.string d) ∧ Below w.heap.size w w') := fun w => by
        have := clip_any f p.size w F6.out
        rwa [HCL.out, hd] at this
      rw [hd] at k1
      clear k2 k3
      have k1' : Hid ((Op.bytesLess d.toList p.toList || d.toList == p.toList) = true) := k1
      clear k1
      obtain ⟨d3, hd3⟩ : ∃ d3, (Op.bytesLess d.toList p.toList || d.toList == p.toList) = d3 := ⟨_, rfl⟩
      rw [k1'.out] at hd3
      subst hd3
      cases tt <;> cases uu
      all_goals first | (exfalso; revert x5; decide) | skip
      all_goals
        clear x5
        go_enter Try.func6, Try.ntmps6
        go_wp2_with fail
        refine (awake_any _).mono ?_
        rintro e w1 ⟨rfl, hb1⟩
        go_wp2_with fail
        refine (least_any _ _ _ P6.out F6.out).mono ?_
        rw [HX.out]
        rintro e w2 ⟨rfl, hb2⟩
        go_wp2_with fail
        refine (reaches_any _ _ _ P6.out F6.out).mono ?_
        rw [HR.out]
        rintro e w3 ⟨rfl, hb3⟩
        have hB := Below.step (Below.step hb1 hb2) hb3
        clear hb1 hb2 hb3
        go_wp2_with fail
        have K := k1'.out
        have KD : (d.toList == d.toList) = true := by simp
        refine wp_region_quiet_below (by kernel_rfl) (by kernel_rfl) ?_
        repeat (any_goals (first | go_big_quiet_step (first | (go_at_call 17; exact Calls.regrown_of (hclip.out _))) | quiet_step (fail)))
        refine wpQuiet_nil ?_
        intro w4 hw4
        have hb4 : Below w3.heap.size w3 w4 := by obtain ⟨p, rfl⟩ := hw4; exact below_regrown _ _ _
        clear hw4
        go_wp2_with fail
        go_ret
        exact ⟨rfl, Below.step hB hb4⟩
    · have hd := k3
      have hclip : Hid (∀ w, Calls Try.prog 17 #[.string f, .int .i64 (p.size : Int)] w fun e w' => e = .returned (.string f) ∧ Below w.heap.size w w') := fun w => by
        have := clip_any f p.size w F6.out
        rwa [HCL.out, k2 (by omega)] at this
      rw [k2 (by omega)] at k1
      clear k2 k3
      have k1' : Hid ((Op.bytesLess f.toList p.toList || f.toList == p.toList) = true) := k1
      clear k1
      obtain ⟨d3, hd3⟩ : ∃ d3, (Op.bytesLess f.toList p.toList || f.toList == p.toList) = d3 := ⟨_, rfl⟩
      rw [k1'.out] at hd3
      subst hd3
      cases tt <;> cases uu
      all_goals first | (exfalso; revert x5; decide) | skip
      all_goals
        clear x5
        go_enter Try.func6, Try.ntmps6
        go_wp2_with fail
        refine (awake_any _).mono ?_
        rintro e w1 ⟨rfl, hb1⟩
        go_wp2_with fail
        refine (least_any _ _ _ P6.out F6.out).mono ?_
        rw [HX.out]
        rintro e w2 ⟨rfl, hb2⟩
        go_wp2_with fail
        refine (reaches_any _ _ _ P6.out F6.out).mono ?_
        rw [HR.out]
        rintro e w3 ⟨rfl, hb3⟩
        have hB := Below.step (Below.step hb1 hb2) hb3
        clear hb1 hb2 hb3
        go_wp2_with fail
        have K := k1'.out
        have KD : (f.toList == f.toList) = true := by simp
        refine wp_region_quiet_below (by kernel_rfl) (by kernel_rfl) ?_
        repeat (any_goals (first | go_big_quiet_step (first | (go_at_call 17; exact Calls.regrown_of (hclip.out _))) | quiet_step (fail)))
        refine wpQuiet_nil ?_
        intro w4 hw4
        have hb4 : Below w3.heap.size w3 w4 := by obtain ⟨p, rfl⟩ := hw4; exact below_regrown _ _ _
        clear hw4
        go_wp2_with fail
        go_ret
        exact ⟨rfl, Below.step hB hb4⟩
  · have hr2 : reachB p f = false := by simpa using hr
    have hr' : bl p.data.toList (f.data.toList.take p.data.toList.length) = true := by
      unfold reachB at hr2; simpa using hr2
    obtain ⟨g1, g2, g3, g4⟩ := reach_not _ _ hr'
    have hx : Hid (leastB p f = ⟨#[]⟩) := by show _ = _; unfold leastB; rw [g1, g2]; rfl
    have t1 : Op.bytesLess (p ++ s).toList f.toList = true := by
      rw [ByteArray.toList_eq, ByteArray.toList_eq, append_list]; exact g4 _
    have t2 : p.toList.isEmpty = false := by
      rw [ByteArray.toList_eq]
      simpa using g3
    have HR := Lib.hid hr2
    clear g1 g2 g3 g4 hr hr2 hr'
    go_enter Try.func6, Try.ntmps6
    go_wp2_with fail
    refine (awake_any _).mono ?_
    rintro e w1 ⟨rfl, hb1⟩
    go_wp2_with fail
    refine (least_any _ _ _ P6.out F6.out).mono ?_
    rw [hx.out]
    rintro e w2 ⟨rfl, hb2⟩
    go_wp2_with fail
    refine (reaches_any _ _ _ P6.out F6.out).mono ?_
    rw [HR.out]
    rintro e w3 ⟨rfl, hb3⟩
    go_wp2_with fail
    go_ret
    exact ⟨ret_bool (by simp [t2]), Below.step (Below.step hb1 hb2) hb3⟩

theorem reaches_walk (p f s : ByteArray) (w : World) (hp : p.size ≤ 140737488351232) (hf : f.size ≤ 140737488351232) (hs : s.size ≤ 140737488351232) :
    Calls Try.prog 6 #[.string p, .string f, .string s] w fun e w' => e = .returned (.bool true) ∧ Below w.heap.size w w' := by
  by_cases h : 1000 < p.size + f.size + s.size
  · exact reaches_big p f s w hp hf hs h
  · exact reaches_small p f s w (by omega)

end Go.Proofs.Ytpklolidgegloaa
