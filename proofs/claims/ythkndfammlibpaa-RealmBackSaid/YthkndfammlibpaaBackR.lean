/- The walk of the law RealmBack. -/
import Derived.Test.YthkndfammlibpaaMathR
namespace Go.Proofs.Ythkndfammlibpaa
open Go.RowKit
set_option maxRecDepth 100000
set_option maxHeartbeats 2000000

theorem realmBack_any (t : Int) (s x : ByteArray) (w : World) (hs : s.size ≤ 140737488351232) (hx : x.size ≤ 140737488351232) :
    Calls Try.prog 6 #[.int .i64 t, .string s, .string x] w fun e w' => e = .returned (.bool true) ∧ Below w.heap.size w w' := by
  by_cases hb : 1000 < s.size + x.size
  · have k1 : (1000 : Int) < (s.size : Int) + (x.size : Int) := by omega
    go_enter Try.func6, Try.ntmps6
    go_wp2_with (go_at_call 7; refine (awake_any _).mono ?_; rintro e w1 ⟨rfl, hb1⟩)
    go_ret
    exact ⟨rfl, hb1⟩
  have k1 : (s.size : Int) + (x.size : Int) ≤ 1000 := by omega
  have HJ := join_any t s (by unfold maxLen; omega)
  have HX := split_any x (by omega)
  -- the second half
  obtain ⟨V2, hV2, hR⟩ : ∃ V2, splitV x = V2 ∧ (V2 = .tuple #[.int .i64 0, .string ⟨#[]⟩, .int .i64 4] ∨ ∃ (k : Nat) (z : ByteArray), V2 = .tuple #[.int .i64 (k : Int), .string z, .int .i64 0] ∧ joinV (k : Int) z = .tuple #[.string x, .int .i64 0] ∧ z.size ≤ 16 ∧ ownerV x = .tuple #[.int .i64 (k : Int), .bool true]) := by
    refine ⟨_, rfl, ?_⟩
    rw [splitV]
    cases ho : ownerOf x with
    | none => exact .inl rfl
    | some k =>
      cases hk : keyL (x.data.toList.drop 8) with
      | none => exact .inl (by simp only [hk])
      | some xs =>
        obtain ⟨e1, e2⟩ := path_back ho hk
        obtain ⟨p1, p2, p3⟩ := ownerOf_some ho
        refine .inr ⟨k, bz xs, by simp only [hk], ?_, by rw [bz_size]; exact e2, by rw [ownerV, ho]⟩
        have ht : tenant (k : Int) = true := by simp [tenant]; omega
        rw [joinV, ht, if_pos rfl, if_pos (by rw [bz_size]; exact e2), e1]
        rfl
  rw [hV2] at HX
  cases hv : tenant t
  · rw [show joinV t s = .tuple #[.string ⟨#[]⟩, .int .i64 2] from by rw [joinV, hv]; rfl] at HJ
    have HJ := Lib.hid HJ
    rcases hR with rfl | ⟨k, z, rfl, hj, hz, ho⟩
    · have HX := Lib.hid HX
      clear hV2 hv hb
      go_enter Try.func6, Try.ntmps6
      go_wp2_with (first
        | (go_at_call 7; refine (awake_any _).mono ?_; rintro e w1 ⟨rfl, hb1⟩)
        | (go_at_call 12; with_reducible refine (HJ.out _).mono ?_; rintro e w2 ⟨rfl, hb2⟩)
        | (go_at_call 13; with_reducible refine (HX.out _).mono ?_; rintro e w3 ⟨rfl, hb3⟩))
      go_ret
      exact ⟨rfl, Below.step (Below.step hb1 hb2) hb3⟩
    · have HX := Lib.hid HX
      have H2 := join_any (k : Int) z (by unfold maxLen; omega)
      rw [hj] at H2
      have HJ2 := Lib.hid H2
      have HO := owner_any x
      rw [ho] at HO
      have HO2 := Lib.hid HO
      clear hV2 hv hb hj ho H2 HO
      go_enter Try.func6, Try.ntmps6
      go_wp2_with (first
        | (go_at_call 7; refine (awake_any _).mono ?_; rintro e w1 ⟨rfl, hb1⟩)
        | (go_at_call 12; with_reducible refine (HJ.out _).mono ?_; rintro e w2 ⟨rfl, hb2⟩)
        | (go_at_call 13; with_reducible refine (HX.out _).mono ?_; rintro e w3 ⟨rfl, hb3⟩)
        | (go_at_call 12; with_reducible refine (HJ2.out _).mono ?_; rintro e w4 ⟨rfl, hb4⟩)
        | (go_at_call 10; with_reducible refine (HO2.out _).mono ?_; rintro e w5 ⟨rfl, hb5⟩))
      go_ret
      exact ⟨rfl, Below.step (Below.step (Below.step (Below.step hb1 hb2) hb3) hb4) hb5⟩
  · obtain ⟨k, p1, p2, rfl⟩ := tenant_some hv
    have g1 : (1 : Int) ≤ (k : Int) := by omega
    have g2 : (k : Int) ≤ 16 := by omega
    by_cases hl : s.size ≤ 16
    · have g3 : (s.size : Int) ≤ 16 := by omega
      rw [show joinV (k : Int) s = .tuple #[.string (pre k ++ codeOf s), .int .i64 0] from by rw [joinV, hv, if_pos rfl, if_pos hl]; rfl] at HJ
      have z1 := encB_le s.data.toList
      have z3 := length_list s
      have z4 : (codeOf s).size = (encB s.data.toList).length + 2 := by
        rw [← length_list, show (codeOf s).data.toList = encB s.data.toList ++ [0, 0] from rfl]; simp
      have z5 := pre_size k
      have HP := split_any (pre k ++ codeOf s) (by rw [append_size]; omega)
      rw [split_path p1 p2 s hl] at HP
      obtain ⟨P, hP⟩ : ∃ P, pre k ++ codeOf s = P := ⟨_, rfl⟩
      rw [hP] at HJ HP
      have HJ := Lib.hid HJ
      have HSP := Lib.hid HP
      clear HP hP z1 z3 z4 z5
      rcases hR with rfl | ⟨q, z, rfl, hj, hz, ho⟩
      · have HX := Lib.hid HX
        clear hV2 hv hb hl
        go_enter Try.func6, Try.ntmps6
        go_wp2_with (first
          | (go_at_call 7; refine (awake_any _).mono ?_; rintro e w1 ⟨rfl, hb1⟩)
          | (go_at_call 12; with_reducible refine (HJ.out _).mono ?_; rintro e w2 ⟨rfl, hb2⟩)
          | (go_at_call 13; with_reducible refine (HSP.out _).mono ?_; rintro e w6 ⟨rfl, hb6⟩)
          | (go_at_call 13; with_reducible refine (HX.out _).mono ?_; rintro e w3 ⟨rfl, hb3⟩))
        go_ret
        exact ⟨rfl, Below.step (Below.step (Below.step hb1 hb2) hb6) hb3⟩
      · have HX := Lib.hid HX
        have H2 := join_any (q : Int) z (by unfold maxLen; omega)
        rw [hj] at H2
        have HJ2 := Lib.hid H2
        have HO := owner_any x
        rw [ho] at HO
        have HO2 := Lib.hid HO
        clear hV2 hv hb hl
        clear hj ho H2 HO
        go_enter Try.func6, Try.ntmps6
        go_wp2_with (first
          | (go_at_call 7; refine (awake_any _).mono ?_; rintro e w1 ⟨rfl, hb1⟩)
          | (go_at_call 12; with_reducible refine (HJ.out _).mono ?_; rintro e w2 ⟨rfl, hb2⟩)
          | (go_at_call 13; with_reducible refine (HSP.out _).mono ?_; rintro e w6 ⟨rfl, hb6⟩)
          | (go_at_call 13; with_reducible refine (HX.out _).mono ?_; rintro e w3 ⟨rfl, hb3⟩)
          | (go_at_call 12; with_reducible refine (HJ2.out _).mono ?_; rintro e w4 ⟨rfl, hb4⟩)
          | (go_at_call 10; with_reducible refine (HO2.out _).mono ?_; rintro e w5 ⟨rfl, hb5⟩))
        go_ret
        exact ⟨rfl, Below.step (Below.step (Below.step (Below.step (Below.step hb1 hb2) hb6) hb3) hb4) hb5⟩
    · have g3 : (16 : Int) < (s.size : Int) := by omega
      rw [show joinV (k : Int) s = .tuple #[.string ⟨#[]⟩, .int .i64 3] from by rw [joinV, hv, if_pos rfl, if_neg hl]] at HJ
      have HJ := Lib.hid HJ
      rcases hR with rfl | ⟨q, z, rfl, hj, hz, ho⟩
      · have HX := Lib.hid HX
        clear hV2 hv hb hl
        go_enter Try.func6, Try.ntmps6
        go_wp2_with (first
          | (go_at_call 7; refine (awake_any _).mono ?_; rintro e w1 ⟨rfl, hb1⟩)
          | (go_at_call 12; with_reducible refine (HJ.out _).mono ?_; rintro e w2 ⟨rfl, hb2⟩)
          | (go_at_call 13; with_reducible refine (HX.out _).mono ?_; rintro e w3 ⟨rfl, hb3⟩))
        go_ret
        exact ⟨rfl, Below.step (Below.step hb1 hb2) hb3⟩
      · have HX := Lib.hid HX
        have H2 := join_any (q : Int) z (by unfold maxLen; omega)
        rw [hj] at H2
        have HJ2 := Lib.hid H2
        have HO := owner_any x
        rw [ho] at HO
        have HO2 := Lib.hid HO
        clear hV2 hv hb hl
        clear hj ho H2 HO
        go_enter Try.func6, Try.ntmps6
        go_wp2_with (first
          | (go_at_call 7; refine (awake_any _).mono ?_; rintro e w1 ⟨rfl, hb1⟩)
          | (go_at_call 12; with_reducible refine (HJ.out _).mono ?_; rintro e w2 ⟨rfl, hb2⟩)
          | (go_at_call 13; with_reducible refine (HX.out _).mono ?_; rintro e w3 ⟨rfl, hb3⟩)
          | (go_at_call 12; with_reducible refine (HJ2.out _).mono ?_; rintro e w4 ⟨rfl, hb4⟩)
          | (go_at_call 10; with_reducible refine (HO2.out _).mono ?_; rintro e w5 ⟨rfl, hb5⟩))
        go_ret
        exact ⟨rfl, Below.step (Below.step (Below.step (Below.step hb1 hb2) hb3) hb4) hb5⟩
theorem realmBack_walk {p : Prop} (t : Int) (s x : ByteArray) (w : World) (_ : p) (hs : s.size ≤ 140737488351232) (hx : x.size ≤ 140737488351232) :
    Calls Try.prog 6 #[.int .i64 t, .string s, .string x] w fun e w' => e = .returned (.bool true) ∧ Below w.heap.size w w' := realmBack_any t s x w hs hx
end Go.Proofs.Ythkndfammlibpaa
