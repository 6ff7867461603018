/- The reference's Owner. -/
import Derived.Test.YthkndfammlibpaaMathR
namespace Go.Proofs.Ythkndfammlibpaa
open Go.RowKit
set_option maxRecDepth 100000
set_option maxHeartbeats 2000000

theorem begins_short {s p : ByteArray} (h : s.size < p.size) : begins s p = false := by
  rw [begins, decide_eq_false (by omega)]; rfl
theorem rowner_any (s : ByteArray) (hs : s.size ≤ 1000000) (w : World) :
    Calls Try.prog 18 #[.string s] w fun e w' => e = .returned (ownerV s) ∧ Below w.heap.size w w' := by
  go_enter Try.func18, Try.ntmps18
  go_wp2
  go_loopw [4] (fun i wr => ∃ k : Nat, 1 ≤ k ∧ k ≤ 17 ∧ i = .int .i64 k ∧ (∀ j, 1 ≤ j → j < k → begins s (pre j) = false) ∧ Below w.heap.size w wr) (fun i _ => 17 - (intOf i).toNat)
  case atStart => exact ⟨1, by omega, by omega, rfl, fun j h1 h2 => by omega, Below.refl _ _⟩
  case round =>
    obtain ⟨k, hk1, hk2, rfl, hk3, hB⟩ := hrel
    have HB := Lib.hid hB
    clear hB
    by_cases hlt : k ≤ 16
    · have kl : (k : Int) ≤ 16 := by omega
      by_cases h8 : s.size < 8
      · have g1 : (s.size : Int) < 8 := by omega
        have g2 : decide ((8 : Int) ≤ (s.size : Int)) = false := decide_eq_false (by omega)
        have hf := begins_short (s := s) (p := pre k) (by rw [pre_size k]; exact h8)
        have HFF := Lib.hid hf
        have HK3 := Lib.hid hk3
        clear hf hk3
        go_wp2_with fail
        refine wp_region_quiet_below (by kernel_rfl) (by kernel_rfl) ?_
        repeat (any_goals (first | go_big_quiet_step (fail) | quiet_step (fail)))
        refine wpQuiet_nil ?_
        intro w3 hw3
        have hb3 : Below wr.heap.size wr w3 := by obtain ⟨p, rfl⟩ := hw3; exact below_regrown _ _ _
        clear hw3
        go_wp2_with fail
        go_roundw
        case rel => exact ⟨k + 1, by omega, by omega, by go_num, fun j j1 j2 => by
            by_cases e : j = k
            · rw [e]; exact HFF.out
            · exact HK3.out j j1 (by omega), HB.out.trans (hb3.mono HB.out.size)⟩
        case measure => simp [intOf] <;> omega
      · have g1 : (8 : Int) ≤ (s.size : Int) := by omega
        have HP := Lib.hid (rprefix_any k (by omega))
        have hbe : begins s (pre k) = ((s.extract 0 8).toList == (pre k).toList) := by
          rw [begins, pre_size, decide_eq_true (by omega)]; rfl
        cases hf : begins s (pre k)
        · have q1 : ((s.extract 0 8).toList == (pre k).toList) = false := by rw [← hbe, hf]
          have HFF := Lib.hid hf
          have HK3 := Lib.hid hk3
          clear hf hk3 hbe
          go_wp2_with fail
          refine wp_region_quiet_below (by kernel_rfl) (by kernel_rfl) ?_
          repeat (any_goals (first | go_big_quiet_step ((go_at_call 29; exact Calls.regrown_of (HP.out _))) | quiet_step (fail)))
          refine wpQuiet_nil ?_
          intro w3 hw3
          have hb3 : Below wr.heap.size wr w3 := by obtain ⟨p, rfl⟩ := hw3; exact below_regrown _ _ _
          clear hw3
          go_wp2_with fail
          go_roundw
          case rel => exact ⟨k + 1, by omega, by omega, by go_num, fun j j1 j2 => by
              by_cases e : j = k
              · rw [e]; exact HFF.out
              · exact HK3.out j j1 (by omega), HB.out.trans (hb3.mono HB.out.size)⟩
          case measure => simp [intOf] <;> omega
        · have q1 : ((s.extract 0 8).toList == (pre k).toList) = true := by rw [← hbe, hf]
          have HV : Hid (ownerV s = .tuple #[.int .i64 (k : Int), .bool true]) := by show _ = _; rw [ownerV, ownerOf_of hk1 hlt hf]
          clear hf hk3 hbe
          go_wp2_with fail
          refine wp_region_quiet_below (by kernel_rfl) (by kernel_rfl) ?_
          repeat (any_goals (first | go_big_quiet_step ((go_at_call 29; exact Calls.regrown_of (HP.out _))) | quiet_step (fail)))
          refine wpQuiet_nil ?_
          intro w3 hw3
          have hb3 : Below wr.heap.size wr w3 := by obtain ⟨p, rfl⟩ := hw3; exact below_regrown _ _ _
          clear hw3
          go_wp2_with fail
          exact bodyPost_ret (v := ownerV s) (by rw [HV.out]; simp [results, Try.results18, go_sem]) rfl ⟨rfl, HB.out.trans (hb3.mono HB.out.size)⟩
    · obtain rfl : k = 17 := by omega
      have HV : Hid (ownerV s = .tuple #[.int .i64 0, .bool false]) := by
        show _ = _
        rw [ownerV, ownerOf, firstOf, find_none (fun k => begins s (pre k)) 16 (fun j j1 j2 => hk3 j j1 (by omega))]
      go_wp2
      exact bodyPost_ret (v := ownerV s) (by rw [HV.out]; simp [results, Try.results18, go_sem]) rfl ⟨rfl, HB.out⟩
end Go.Proofs.Ythkndfammlibpaa
