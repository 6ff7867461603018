/- The walk of the law RealmApart. -/
import Derived.Test.YthkndfammlibpaaOrdR
import Derived.Deep.DeepCutAuto
import Derived.Laws.Cover1
namespace Go.Proofs.Ythkndfammlibpaa
open Go.RowKit
set_option maxRecDepth 100000
set_option maxHeartbeats 2000000

theorem joinV_zero {t : Int} {s X : ByteArray} (h : joinV t s = .tuple #[.string X, .int .i64 0]) : ∃ k : Nat, t = k ∧ 1 ≤ k ∧ k ≤ 16 ∧ X = pre k ++ codeOf s ∧ s.size ≤ 16 := by
  unfold joinV at h
  split at h
  case isTrue hv =>
    obtain ⟨k, k1, k2, rfl⟩ := tenant_some hv
    split at h
    case isTrue hs =>
      simp at h
      exact ⟨k, rfl, k1, k2, h.symm, hs⟩
    case isFalse => simp at h
  case isFalse => simp at h
theorem rangeV_zero {t : Int} {x y : ByteArray} (h : rangeV t = .tuple #[.string x, .string y, .int .i64 0]) : ∃ k : Nat, t = k ∧ 1 ≤ k ∧ k ≤ 16 ∧ x = pre k ∧ y = pre (k + 1) := by
  unfold rangeV at h
  split at h
  case isTrue hv =>
    obtain ⟨k, k1, k2, rfl⟩ := tenant_some hv
    simp at h
    exact ⟨k, rfl, k1, k2, h.1.symm, h.2.symm⟩
  case isFalse => simp at h

theorem realmApart_any (a b : Int) (s t x : ByteArray) (w : World) (hs : s.size ≤ 140737488351232) (ht : t.size ≤ 140737488351232) (hx : x.size ≤ 140737488351232) :
    Calls Try.prog 5 #[.int .i64 a, .int .i64 b, .string s, .string t, .string x] w fun e w' => e = .returned (.bool true) ∧ Below w.heap.size w w' := by
  by_cases hb : 1000 < s.size + t.size + x.size
  · have k1 : (1000 : Int) < (s.size : Int) + (t.size : Int) + (x.size : Int) := by omega
    go_enter Try.func5, Try.ntmps5
    go_wp2_with (go_at_call 7; refine (awake_any _).mono ?_; rintro e w1 ⟨rfl, hb1⟩)
    go_ret
    exact ⟨rfl, hb1⟩
  have k1 : (s.size : Int) + (t.size : Int) + (x.size : Int) ≤ 1000 := by omega
  obtain ⟨fr, tt, er, hr⟩ : ∃ (a' b' : ByteArray) (e : Int), rangeV a = .tuple #[.string a', .string b', .int .i64 e] := by
    unfold rangeV; split <;> exact ⟨_, _, _, rfl⟩
  obtain ⟨o, ib, ho⟩ : ∃ (o : Int) (ib : Bool), ownerV x = .tuple #[.int .i64 o, .bool ib] := by
    unfold ownerV; split <;> exact ⟨_, _, rfl⟩
  have ho1 : ib = true → 1 ≤ o ∧ o ≤ 16 := by
    intro h
    rw [h] at ho
    unfold ownerV at ho
    split at ho
    case h_1 k hk => have := ownerOf_some hk; simp at ho; omega
    case h_2 => simp at ho
  have her : er = 0 → (!Op.bytesLess x.toList fr.toList && Op.bytesLess x.toList tt.toList) = (ib && (o == a)) := by
    rintro rfl
    obtain ⟨k, rfl, h1, h2, rfl, rfl⟩ := rangeV_zero hr
    rw [range_iff h2, owner_iff h1 h2]
    unfold ownerV at ho
    split at ho
    case h_1 j hj =>
      simp at ho
      rw [hj, ← ho.1, ho.2, Bool.true_and, Bool.eq_iff_iff, decide_eq_true_eq, beq_iff_eq]
      constructor
      · intro h; rw [Option.some.inj h]
      · intro h; rw [Int.ofNat_inj.1 h]
    case h_2 hj => simp at ho; rw [hj, ho.2]; simp
  obtain ⟨X, ef, hjx⟩ : ∃ (a' : ByteArray) (e : Int), joinV a s = .tuple #[.string a', .int .i64 e] := by
    unfold joinV; split
    · split <;> exact ⟨_, _, rfl⟩
    · exact ⟨_, _, rfl⟩
  obtain ⟨Y, eg, hjy⟩ : ∃ (a' : ByteArray) (e : Int), joinV b t = .tuple #[.string a', .int .i64 e] := by
    unfold joinV; split
    · split <;> exact ⟨_, _, rfl⟩
    · exact ⟨_, _, rfl⟩
  have R1 := range_any a
  have O1 := owner_any x
  have J1 := join_any a s (by unfold maxLen; omega)
  have J2 := join_any b t (by unfold maxLen; omega)
  rw [hr] at R1
  rw [ho] at O1
  rw [hjx] at J1
  rw [hjy] at J2
  have R1 := Lib.hid R1
  have O1 := Lib.hid O1
  have J1 := Lib.hid J1
  have J2 := Lib.hid J2
  have HO1 := Lib.hid ho1
  have HER := Lib.hid her
  have HJX := Lib.hid hjx
  have HJY := Lib.hid hjy
  clear hr ho ho1 her hjx hjy hb
  go_enter Try.func5, Try.ntmps5
  go_upto_region 7 with (first
    | (go_at_call 7; refine (awake_any _).mono ?_; rintro e w1 ⟨rfl, hb1⟩)
    | (go_at_call 10; with_reducible refine (O1.out _).mono ?_; rintro e w2 ⟨rfl, hb2⟩)
    | (go_at_call 11; with_reducible refine (R1.out _).mono ?_; rintro e w3 ⟨rfl, hb3⟩))
  go_cut [73] (fun v wx => v = .bool false ∧ wx = w3)
  case first =>
    by_cases he : er = 0
    · have hq := HER.out he
      subst he
      obtain ⟨u, hu⟩ : ∃ u, (!Op.bytesLess x.toList fr.toList) = u := ⟨_, rfl⟩
      obtain ⟨v, hv⟩ : ∃ v, Op.bytesLess x.toList tt.toList = v := ⟨_, rfl⟩
      obtain ⟨c, hc⟩ : ∃ c, (o == a) = c := ⟨_, rfl⟩
      rw [hu, hv, hc] at hq
      cases ib
      · cases u
        · clear hq hv
          go_wp2_with fail
          go_meet
          exact ⟨rfl, rfl⟩
        · cases v
          · clear hq
            go_wp2_with fail
            go_meet
            exact ⟨rfl, rfl⟩
          · cases hq
      · obtain ⟨p1, p2⟩ := HO1.out rfl
        have p3 : decide (o < 1) = false := decide_eq_false (by omega)
        have p4 : decide (16 < o) = false := decide_eq_false (by omega)
        cases c
        · cases u
          · clear hq hv
            go_wp2_with fail
            go_meet
            exact ⟨by simp [p3, p4], rfl⟩
          · cases v
            · clear hq
              go_wp2_with fail
              go_meet
              exact ⟨by simp [p3, p4], rfl⟩
            · cases hq
        · cases u
          · cases hq
          · cases v
            · cases hq
            · clear hq
              go_wp2_with fail
              go_meet
              exact ⟨by simp [p3, p4], rfl⟩
    · have q1 : (er == 0) = false := by rw [beq_eq_false_iff_ne]; exact he
      clear he
      cases ib
      · go_wp2_with fail
        go_meet
        exact ⟨rfl, rfl⟩
      · obtain ⟨p1, p2⟩ := HO1.out rfl
        have p3 : decide (o < 1) = false := decide_eq_false (by omega)
        have p4 : decide (16 < o) = false := decide_eq_false (by omega)
        go_wp2_with fail
        go_meet
        exact ⟨by simp [p3, p4], rfl⟩
  case rest =>
  obtain ⟨rfl, rfl⟩ := hcut
  have B3 := Lib.hid (Below.step (Below.step hb1 hb2) hb3)
  clear hb1 hb2 hb3 R1 O1 HO1 HER k1 hs ht hx
  by_cases hf : ef = 0
  · subst hf
    by_cases hg : eg = 0
    · subst hg
      obtain ⟨j, rfl, j1, j2, hX, hs16⟩ := joinV_zero HJX.out
      obtain ⟨k, rfl, k2, k3, hY, ht16⟩ := joinV_zero HJY.out
      have hl := path_less j2 k3 s t
      have heq := path_eq j2 k3 s t
      have hbg := fun h => path_begin j2 k3 h s t
      rw [← hX, ← hY] at hl heq hbg
      have O2 := owner_any X
      have hov : ownerV X = .tuple #[.int .i64 (j : Int), .bool true] := by
        rw [ownerV, hX, ownerOf_of j1 j2 (begins_path j _)]
      rw [hov] at O2
      have O2 := Lib.hid O2
      obtain ⟨L, hL⟩ : ∃ L, Op.bytesLess X.toList Y.toList = L := ⟨_, rfl⟩
      obtain ⟨M, hM⟩ : ∃ M, Op.bytesLess s.toList t.toList = M := ⟨_, rfl⟩
      obtain ⟨E, hE⟩ : ∃ E, (X.toList == Y.toList) = E := ⟨_, rfl⟩
      obtain ⟨F, hF⟩ : ∃ F, (s.toList == t.toList) = F := ⟨_, rfl⟩
      rw [hL, hM] at hl
      rw [hE, hF] at heq
      clear hX hY hov hs16 ht16 HJX HJY
      by_cases hjk : j = k
      · subst hjk
        replace hl : L = M := by rw [hl]; simp
        replace heq : E = F := by rw [heq]; simp
        subst hl heq
        clear hbg
        cases L
        all_goals
          cases E
          all_goals
            go_wp2_with (first
              | (go_at_call 12; with_reducible refine (J1.out _).mono ?_; rintro e w4 ⟨rfl, hb4⟩)
              | (go_at_call 12; with_reducible refine (J2.out _).mono ?_; rintro e w5 ⟨rfl, hb5⟩)
              | (go_at_call 10; with_reducible refine (O2.out _).mono ?_; rintro e w6 ⟨rfl, hb6⟩))
            go_ret
            exact ⟨rfl, Below.step (Below.step (Below.step B3.out hb4) hb5) hb6⟩
      · have q1 : ((j : Int) == (k : Int)) = false := by rw [beq_eq_false_iff_ne]; omega
        have hbg := hbg hjk
        replace heq : E = false := by rw [heq]; simp [hjk]
        subst heq
        by_cases hlt : j < k
        · have q2 : (j : Int) < (k : Int) := by omega
          replace hl : L = true := by rw [hl]; simp [hlt]
          subst hl
          by_cases hz : X.size ≤ Y.size
          · have q3 : (X.size : Int) ≤ (Y.size : Int) := by omega
            clear hlt hjk hz
            go_wp2_with (first
              | (go_at_call 12; with_reducible refine (J1.out _).mono ?_; rintro e w4 ⟨rfl, hb4⟩)
              | (go_at_call 12; with_reducible refine (J2.out _).mono ?_; rintro e w5 ⟨rfl, hb5⟩)
              | (go_at_call 10; with_reducible refine (O2.out _).mono ?_; rintro e w6 ⟨rfl, hb6⟩))
            go_ret
            exact ⟨rfl, Below.step (Below.step (Below.step B3.out hb4) hb5) hb6⟩
          · have q3 : (Y.size : Int) < (X.size : Int) := by omega
            clear hlt hjk hz hbg
            go_wp2_with (first
              | (go_at_call 12; with_reducible refine (J1.out _).mono ?_; rintro e w4 ⟨rfl, hb4⟩)
              | (go_at_call 12; with_reducible refine (J2.out _).mono ?_; rintro e w5 ⟨rfl, hb5⟩)
              | (go_at_call 10; with_reducible refine (O2.out _).mono ?_; rintro e w6 ⟨rfl, hb6⟩))
            go_ret
            exact ⟨rfl, Below.step (Below.step (Below.step B3.out hb4) hb5) hb6⟩
        · have q2 : (k : Int) ≤ (j : Int) := by omega
          replace hl : L = false := by rw [hl]; simp [hlt, hjk]
          subst hl
          by_cases hz : X.size ≤ Y.size
          · have q3 : (X.size : Int) ≤ (Y.size : Int) := by omega
            clear hlt hjk hz
            go_wp2_with (first
              | (go_at_call 12; with_reducible refine (J1.out _).mono ?_; rintro e w4 ⟨rfl, hb4⟩)
              | (go_at_call 12; with_reducible refine (J2.out _).mono ?_; rintro e w5 ⟨rfl, hb5⟩)
              | (go_at_call 10; with_reducible refine (O2.out _).mono ?_; rintro e w6 ⟨rfl, hb6⟩))
            all_goals
              go_ret
              exact ⟨rfl, Below.step (Below.step (Below.step B3.out hb4) hb5) hb6⟩
          · have q3 : (Y.size : Int) < (X.size : Int) := by omega
            clear hlt hjk hz hbg
            go_wp2_with (first
              | (go_at_call 12; with_reducible refine (J1.out _).mono ?_; rintro e w4 ⟨rfl, hb4⟩)
              | (go_at_call 12; with_reducible refine (J2.out _).mono ?_; rintro e w5 ⟨rfl, hb5⟩)
              | (go_at_call 10; with_reducible refine (O2.out _).mono ?_; rintro e w6 ⟨rfl, hb6⟩))
            all_goals
              go_ret
              exact ⟨rfl, Below.step (Below.step (Below.step B3.out hb4) hb5) hb6⟩
    · have q1 : (eg == 0) = false := by rw [beq_eq_false_iff_ne]; exact hg
      clear hg
      go_wp2_with (first
        | (go_at_call 12; with_reducible refine (J1.out _).mono ?_; rintro e w4 ⟨rfl, hb4⟩)
        | (go_at_call 12; with_reducible refine (J2.out _).mono ?_; rintro e w5 ⟨rfl, hb5⟩))
      go_ret
      exact ⟨rfl, Below.step (Below.step B3.out hb4) hb5⟩
  · have q1 : (ef == 0) = false := by rw [beq_eq_false_iff_ne]; exact hf
    clear hf
    go_wp2_with (first
      | (go_at_call 12; with_reducible refine (J1.out _).mono ?_; rintro e w4 ⟨rfl, hb4⟩)
      | (go_at_call 12; with_reducible refine (J2.out _).mono ?_; rintro e w5 ⟨rfl, hb5⟩))
    go_ret
    exact ⟨rfl, Below.step (Below.step B3.out hb4) hb5⟩
theorem realmApart_walk {p p' : Prop} (a b : Int) (s t x : ByteArray) (w : World) (_ : p) (_ : p') (hs : s.size ≤ 140737488351232) (ht : t.size ≤ 140737488351232) (hx : x.size ≤ 140737488351232) :
    Calls Try.prog 5 #[.int .i64 a, .int .i64 b, .string s, .string t, .string x] w fun e w' => e = .returned (.bool true) ∧ Below w.heap.size w w' := realmApart_any a b s t x w hs ht hx
end Go.Proofs.Ythkndfammlibpaa
