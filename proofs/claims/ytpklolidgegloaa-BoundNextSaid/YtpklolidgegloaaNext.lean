/- The walk of BoundNext. -/
import Derived.Test.YtpklolidgegloaaValues
namespace Go.Proofs.Ytpklolidgegloaa
open Go.RowKit
set_option maxRecDepth 100000
set_option maxHeartbeats 1000000

theorem beyondOk_all {s : ByteArray} (h : beyondOk s = false) : (∀ c ∈ s.data.toList, c = 255) ∧ beyondB s = ⟨#[]⟩ := by
  unfold beyondOk at h
  unfold beyondB
  rcases beyondL_cases s.data.toList with ⟨h1, h2⟩ | ⟨q, d, ff, e, h2, h3, h4⟩
  · rw [h1]; exact ⟨h2, rfl⟩
  · rw [h4] at h; cases h
theorem beyondOk_some {s : ByteArray} (h : beyondOk s = true) : ∃ q c ff, s.data.toList = q ++ c :: ff ∧ c ≠ 255 ∧ (∀ x ∈ ff, x = 255) ∧ (beyondB s).data.toList = q ++ [c + 1] := by
  unfold beyondOk at h
  unfold beyondB
  rcases beyondL_cases s.data.toList with ⟨h1, _⟩ | ⟨q, d, ff, e, h2, h3, h4⟩
  · rw [h1] at h; cases h
  · exact ⟨q, d, ff, e, h2, h3, by rw [h4]; rfl⟩

theorem next_big (p s : ByteArray) (w : World) (hp : p.size ≤ 140737488351232) (hs : s.size ≤ 140737488351232) (hbig : 1000 < p.size + s.size) :
    Calls Try.prog 5 #[.string p, .string s] w fun e w' => e = .returned (.bool true) ∧ Below w.heap.size w w' := by
  go_enter Try.func5, Try.ntmps5
  go_wp2_with fail
  refine (awake_any _).mono ?_
  rintro e w1 ⟨rfl, hb1⟩
  go_wp2_with fail
  go_ret
  exact ⟨rfl, hb1⟩

theorem next_small (p s : ByteArray) (w : World) (hsmall : p.size + s.size ≤ 1000) :
    Calls Try.prog 5 #[.string p, .string s] w fun e w' => e = .returned (.bool true) ∧ Below w.heap.size w w' := by
  have P6 : Hid (p.size ≤ 1000000) := by show p.size ≤ 1000000; omega
  have c1 : (Op.bytesLess (p ++ one 0).toList p.toList || (p ++ one 0).toList == p.toList) = false := by
    rw [ByteArray.toList_eq, ByteArray.toList_eq, append_list]; exact after_above _
  have c2 : (!(Op.bytesLess s.toList p.toList || s.toList == p.toList) && Op.bytesLess s.toList (p ++ one 0).toList) = false := by
    rw [ByteArray.toList_eq, ByteArray.toList_eq, ByteArray.toList_eq, append_list]; exact after_least _ _
  obtain ⟨a, ha⟩ : ∃ a, a = p ++ one 0 := ⟨_, rfl⟩
  rw [← ha] at c1 c2
  have HA := Lib.hid ha
  clear ha
  rw [Bool.or_eq_false_iff] at c1
  obtain ⟨x1, x2⟩ := c1
  have hb := pre_bytes s p
  have hb1 : bl s.data.toList p.data.toList = Op.bytesLess s.toList p.toList := by rw [ByteArray.toList_eq, ByteArray.toList_eq]
  obtain ⟨u, hu⟩ : ∃ u, Op.bytesLess s.toList p.toList = u := ⟨_, rfl⟩
  obtain ⟨v, hv⟩ : ∃ v, (s.toList == p.toList) = v := ⟨_, rfl⟩
  obtain ⟨z, hz⟩ : ∃ z, Op.bytesLess s.toList a.toList = z := ⟨_, rfl⟩
  rw [hu, hv, hz] at c2
  rw [hu] at hb1
  obtain ⟨r, hr⟩ : ∃ r, beyondB p = r := ⟨_, rfl⟩
  have HR := Lib.hid hr
  obtain ⟨g, hg⟩ : ∃ g, ((s.extract 0 p.size).toList == p.toList) = g := ⟨_, rfl⟩
  have hg' : ((s.extract 0 p.size).data.toList == p.data.toList) = g := by rw [← hg, ByteArray.toList_eq, ByteArray.toList_eq]
  rw [hg'] at hb
  obtain ⟨y, hy⟩ : ∃ y, Op.bytesLess s.toList r.toList = y := ⟨_, rfl⟩
  have hy' : bl s.data.toList r.data.toList = y := by rw [← hy, ByteArray.toList_eq, ByteArray.toList_eq]
  by_cases hk : beyondOk p = true
  · obtain ⟨q, c, ff, e1, e2, e3, e4⟩ := beyondOk_some hk
    rw [hr] at e4
    have f1 := begins_to c ff e2 e3 q s.data.toList
    rw [← e1, ← e4, hb, hb1, hy'] at f1
    have f2 := to_above c ff e2 q
    rw [← e1, ← e4, ← ByteArray.toList_eq, ← ByteArray.toList_eq, Bool.not_eq_true', Bool.or_eq_false_iff] at f2
    obtain ⟨f3, f4⟩ := f2
    have f5 : r.size ≤ p.size := by
      rw [← length_list r, ← length_list p, e4, e1]; simp
    have HK := Lib.hid hk
    clear hk e1 e2 e3 e4 hb hb1 hy' hg' hr q c ff
    by_cases hle : p.size ≤ s.size
    all_goals
      have hd : decide (p.size ≤ s.size) = decide (p.size ≤ s.size) := rfl
      simp only [hle, decide_true, decide_false, Bool.true_and, Bool.false_and] at f1
      clear hd
      cases u <;> cases v <;> cases z <;> cases y <;> cases g
      all_goals first | (exfalso; revert c2; decide) | (exfalso; revert f1; decide) | skip
      all_goals
        clear c2 f1
        go_enter Try.func5, Try.ntmps5
        go_wp2_with fail
        refine (awake_any _).mono ?_
        rintro e w1 ⟨rfl, hb1⟩
        go_wp2_with fail
        refine (after_any _ _ P6.out).mono ?_
        rw [← HA.out]
        rintro e w2 ⟨rfl, rfl⟩
        go_wp2_with fail
        refine (beyond_val _ P6.out _).mono ?_
        rw [HR.out, HK.out]
        rintro e w3 ⟨rfl, hb3⟩
        go_wp2_with fail
        go_ret
        exact ⟨rfl, Below.step hb1 hb3⟩
  · have hk' : beyondOk p = false := by simpa using hk
    clear hk
    obtain ⟨e1, e2⟩ := beyondOk_all hk'
    have f1 := begins_all p.data.toList s.data.toList e1
    rw [hb, hb1] at f1
    rw [hr] at e2
    subst e2
    have E1 : Hid (∀ i (h : i < p.size), (p[i]'h).toNat = 255) := fun i h => by
      have := e1 (p[i]'h) (List.mem_of_getElem? (byte_at p i h))
      rw [this]; rfl
    have HK := Lib.hid hk'
    clear hk' e1 hb hb1 hy' hg' hr hy y
    have hP : p.size ≤ 1000 := by omega
    by_cases hle : p.size ≤ s.size
    all_goals
      simp only [hle, decide_true, decide_false, Bool.true_and, Bool.false_and] at f1
      cases u <;> cases v <;> cases z <;> cases g
      all_goals first | (exfalso; revert c2; decide) | (exfalso; revert f1; decide) | skip
      all_goals
        clear c2 f1
        go_enter Try.func5, Try.ntmps5
        go_wp2_with fail
        refine (awake_any _).mono ?_
        rintro e w1 ⟨rfl, hb1⟩
        go_wp2_with fail
        refine (after_any _ _ P6.out).mono ?_
        rw [← HA.out]
        rintro e w2 ⟨rfl, rfl⟩
        go_wp2_with fail
        refine (beyond_val _ P6.out _).mono ?_
        rw [HR.out, HK.out]
        rintro e w3 ⟨rfl, hb3⟩
        have hB := Below.step hb1 hb3
        clear hb1 hb3
        go_wp2_with fail
        go_loopw [9] (fun i wr => ∃ k : Nat, k ≤ p.size ∧ i = .int .i64 k ∧ Below w.heap.size w wr)
          (fun i _ => p.size - (intOf i).toNat)
        case atStart => exact ⟨0, Nat.zero_le _, rfl, hB⟩
        case round =>
          obtain ⟨k, hk, rfl, hBr⟩ := hrel
          by_cases hlt : k < p.size
          · have hx := E1.out k hlt
            go_wp2_with fail
            go_roundw
            case rel => exact ⟨k + 1, by omega, by go_num, hBr⟩
            case measure => simp [intOf]; omega
          · go_wp2_with fail
            go_ret
            exact ⟨rfl, hBr⟩

theorem next_walk (p s : ByteArray) (w : World) (hp : p.size ≤ 140737488351232) (hs : s.size ≤ 140737488351232) :
    Calls Try.prog 5 #[.string p, .string s] w fun e w' => e = .returned (.bool true) ∧ Below w.heap.size w w' := by
  by_cases h : 1000 < p.size + s.size
  · exact next_big p s w hp hs h
  · exact next_small p s w (by omega)

end Go.Proofs.Ytpklolidgegloaa
