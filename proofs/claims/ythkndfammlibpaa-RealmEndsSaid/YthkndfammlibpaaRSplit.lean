/- The reference's Split. -/
import Derived.Test.YthkndfammlibpaaROwn
import Derived.Test.YthkndfammlibpaaRefD
namespace Go.Proofs.Ythkndfammlibpaa
open Go.RowKit
set_option maxRecDepth 100000
set_option maxHeartbeats 2000000

theorem rsplit_any (s : ByteArray) (hs : s.size ≤ 1000) (w : World) :
    Calls Try.prog 16 #[.string s] w fun e w' => e = .returned (splitV s) ∧ Below w.heap.size w w' := by
  obtain ⟨x, hx⟩ : ∃ x, s.extract 8 s.size = x := ⟨_, rfl⟩
  have hxl : x.data.toList = s.data.toList.drop 8 := by
    rw [← hx, extract_list, List.take_of_length_le (by simp)]
  have hxs : x.size ≤ 1000 := by rw [← hx, ByteArray.size_extract]; omega
  have HD := fun W => rdecode_any x hxs W
  rw [hxl] at HD
  have HX := Lib.hid hx
  obtain ⟨X, v, hdec, hvn, hvs⟩ : ∃ (X : ByteArray) (v : Int), decOf (s.data.toList.drop 8) = .tuple #[.string X, .int .i64 v] ∧ (v ≠ 0 → splitV s = .tuple #[.int .i64 0, .string ⟨#[]⟩, .int .i64 4]) ∧ (v = 0 → ∀ k, ownerOf s = some k → splitV s = .tuple #[.int .i64 (k : Int), .string X, .int .i64 0]) := by
    cases hk : keyL (s.data.toList.drop 8) with
    | none =>
      refine ⟨_, 4, by rw [decOf, hk], fun _ => ?_, fun h => by omega⟩
      rw [splitV]
      cases ownerOf s with
      | none => rfl
      | some k => simp only [hk]
    | some xs =>
      refine ⟨bz xs, 0, by rw [decOf, hk], fun h => absurd rfl h, fun _ k ho => ?_⟩
      rw [splitV, ho]
      simp only [hk]
  rw [hdec] at HD
  have HD := Lib.hid HD
  have hnone : ownerOf s = none → splitV s = .tuple #[.int .i64 0, .string ⟨#[]⟩, .int .i64 4] := fun h => by rw [splitV, h]
  have HN := Lib.hid hvn
  have HS := Lib.hid hvs
  have HO := Lib.hid hnone
  clear hx hxl hdec hvn hvs hnone
  go_enter Try.func16, Try.ntmps16
  go_wp2
  go_loopw [5] (fun i wr => ∃ k : Nat, 1 ≤ k ∧ k ≤ 17 ∧ i = .int .i64 k ∧ ((∀ j, 1 ≤ j → j < k → begins s (pre j) = false) ∨ v ≠ 0) ∧ Below w.heap.size w wr) (fun i _ => 17 - (intOf i).toNat)
  case atStart => exact ⟨1, by omega, by omega, rfl, .inl fun j h1 h2 => by omega, Below.refl _ _⟩
  case round =>
    obtain ⟨k, hk1, hk2, rfl, hk3, hB⟩ := hrel
    have HB := Lib.hid hB
    clear hB
    by_cases hlt : k ≤ 16
    · have kl : (k : Int) ≤ 16 := by omega
      by_cases h8 : s.size < 8
      · have g1 : (s.size : Int) < 8 := by omega
        have g2 : decide ((s.size : Int) < 8) = true := decide_eq_true (by omega)
        have hf := begins_short (s := s) (p := pre k) (by rw [pre_size k]; exact h8)
        have HFF := Lib.hid hf
        have HK3 := Lib.hid hk3
        clear hf hk3
        go_wp2_with fail
        refine wp_region_quiet_below (by kernel_rfl) (by kernel_rfl) ?_
        repeat (any_goals (first | go_big_quiet_step (fail) | quiet_step (fail)))
        refine wpQuiet_nil ?_
        intro w3 hw3
        have hb3 : Below wr.heap.size wr w3 := by obtain ⟨p, rfl⟩ := hw3; exact below_regrown _ _ _
        clear hw3
        go_wp2_with fail
        go_roundw
        case rel => exact ⟨k + 1, by omega, by omega, by go_num, HK3.out.imp (fun h j j1 j2 => by
            by_cases e : j = k
            · rw [e]; exact HFF.out
            · exact h j j1 (by omega)) id, HB.out.trans (hb3.mono HB.out.size)⟩
        case measure => simp [intOf] <;> omega
      · have g1 : (8 : Int) ≤ (s.size : Int) := by omega
        have g2 : decide ((s.size : Int) < 8) = false := decide_eq_false (by omega)
        have HP := Lib.hid (rprefix_any k (by omega))
        have hbe : begins s (pre k) = ((s.extract 0 8).toList == (pre k).toList) := by
          rw [begins, pre_size, decide_eq_true (by omega)]; rfl
        cases hf : begins s (pre k)
        · have q1 : ((s.extract 0 8).toList == (pre k).toList) = false := by rw [← hbe, hf]
          have HFF := Lib.hid hf
          have HK3 := Lib.hid hk3
          clear hf hk3 hbe
          go_wp2_with fail
          refine wp_region_quiet_below (by kernel_rfl) (by kernel_rfl) ?_
          repeat (any_goals (first | go_big_quiet_step ((go_at_call 29; exact Calls.regrown_of (HP.out _))) | quiet_step (fail)))
          refine wpQuiet_nil ?_
          intro w3 hw3
          have hb3 : Below wr.heap.size wr w3 := by obtain ⟨p, rfl⟩ := hw3; exact below_regrown _ _ _
          clear hw3
          go_wp2_with fail
          go_roundw
          case rel => exact ⟨k + 1, by omega, by omega, by go_num, HK3.out.imp (fun h j j1 j2 => by
              by_cases e : j = k
              · rw [e]; exact HFF.out
              · exact h j j1 (by omega)) id, HB.out.trans (hb3.mono HB.out.size)⟩
          case measure => simp [intOf] <;> omega
        · have q1 : ((s.extract 0 8).toList == (pre k).toList) = true := by rw [← hbe, hf]
          by_cases hv : v = 0
          · have q2 : (v == 0) = true := by rw [hv]; rfl
            have HV := Lib.hid (HS.out hv k (ownerOf_of hk1 hlt hf))
            clear hf hk3 hbe hv
            go_wp2_with fail
            refine wp_region_quiet_below (by kernel_rfl) (by kernel_rfl) ?_
            repeat (any_goals (first | go_big_quiet_step ((go_at_call 29; exact Calls.regrown_of (HP.out _))) | quiet_step (fail)))
            refine wpQuiet_nil ?_
            intro w3 hw3
            have hb3 : Below wr.heap.size wr w3 := by obtain ⟨p, rfl⟩ := hw3; exact below_regrown _ _ _
            clear hw3
            go_wp2_with (go_at_call 30; rw [HX.out]; refine (HD.out _).mono ?_; rintro e w4 ⟨rfl, rfl⟩)
            all_goals first | (exfalso; have := beq_eq_false_iff_ne.1 q2; contradiction) | exact bodyPost_ret (v := splitV s) (by rw [HV.out]; simp [results, Try.results16, go_sem]) rfl ⟨rfl, HB.out.trans (hb3.mono HB.out.size)⟩
          · have q2 : (v == 0) = false := by rw [beq_eq_false_iff_ne]; exact hv
            have HV := Lib.hid hv
            clear hf hk3 hbe hv
            go_wp2_with fail
            refine wp_region_quiet_below (by kernel_rfl) (by kernel_rfl) ?_
            repeat (any_goals (first | go_big_quiet_step ((go_at_call 29; exact Calls.regrown_of (HP.out _))) | quiet_step (fail)))
            refine wpQuiet_nil ?_
            intro w3 hw3
            have hb3 : Below wr.heap.size wr w3 := by obtain ⟨p, rfl⟩ := hw3; exact below_regrown _ _ _
            clear hw3
            go_wp2_with (go_at_call 30; rw [HX.out]; refine (HD.out _).mono ?_; rintro e w4 ⟨rfl, rfl⟩)
            all_goals go_roundw
            case rel => exact ⟨k + 1, by omega, by omega, by go_num, .inr HV.out, HB.out.trans (hb3.mono HB.out.size)⟩
            case measure => simp [intOf] <;> omega
    · obtain rfl : k = 17 := by omega
      have HV : Hid (splitV s = .tuple #[.int .i64 0, .string ⟨#[]⟩, .int .i64 4]) := by
        show _ = _
        rcases hk3 with h | h
        · apply HO.out
          rw [ownerOf, firstOf, find_none (fun k => begins s (pre k)) 16 (fun j j1 j2 => h j j1 (by omega))]
        · exact HN.out h
      clear hk3
      go_wp2
      exact bodyPost_ret (v := splitV s) (by rw [HV.out]; simp [results, Try.results16, go_sem]) rfl ⟨rfl, HB.out⟩
end Go.Proofs.Ythkndfammlibpaa
