/- The walk of CodeSmall. -/
import Derived.Test.YtdogeimgaebnjaaTells
namespace Go.Proofs.Ytdogeimgaebnjaa
open Go.RowKit Go.Shelf
set_option maxRecDepth 100000
set_option maxHeartbeats 4000000

abbrev four : ByteArray := ⟨#[0, 1, 97, 255]⟩
theorem four_one (m : Nat) : (four.extract (m % 4) (m % 4 + 1)).size = 1 := by
  have e : four.size = 4 := rfl
  rw [ByteArray.size_extract, e]; omega

theorem codeSmall_walk (w : World) : Calls Try.prog 4 #[] w fun e w' => e = .returned (.bool true) ∧ Below w.heap.size w w' := by
  have hT := Lib.hid codeTells_any
  go_enter Try.func4, Try.ntmps4
  go_wp2_with fail
  go_loopw [2] (fun i wr => ∃ n : Nat, n ≤ 4096 ∧ i = .int .i64 n ∧ Below w.heap.size w wr) (fun i _ => 4096 - (intOf i).toNat)
  case atStart => exact ⟨0, by omega, rfl, Below.refl _ _⟩
  case round =>
    obtain ⟨n, hn, rfl, HB⟩ := hrel
    obtain ⟨wo, hwo⟩ : ∃ wo : World, wo = wr := ⟨_, rfl⟩
    rw [← hwo] at HB ⊢
    clear hwo
    by_cases hlt : n < 4096
    · have nl : (n : Int) < 4096 := by omega
      go_wp2_with fail
      go_loopw [3, 4, 5] (fun s m i wr => ∃ (S : ByteArray) (q k : Nat), S.size ≤ k ∧ q ≤ 4096 ∧ k ≤ 6 ∧ s = .string S ∧ m = .int .i64 q ∧ i = .int .i64 k ∧ Below w.heap.size w wr) (fun _ _ i _ => 6 - (intOf i).toNat)
      case atStart => exact ⟨⟨#[]⟩, n, 0, Nat.le_refl 0, by omega, by omega, rfl, rfl, rfl, HB⟩
      case round =>
        obtain ⟨S, q, k, hS, hq, hk, rfl, rfl, rfl, HB1⟩ := hrel
        clear HB
        by_cases hlk : k < 6
        · have kl : (k : Int) < 6 := by omega
          have n0 : (0 : Int) ≤ (q : Int) % 4 := by omega
          have n1 : (q : Int) % 4 + 1 ≤ 4 := by omega
          have hx := four_one q
          have z0 : S.size ≤ 6 := by omega
          have HB2 := Lib.hid HB1
          clear HB1
          obtain ⟨x, hxx⟩ : ∃ x, four.extract (q % 4) (q % 4 + 1) = x := ⟨_, rfl⟩
          rw [hxx] at hx
          have e1 : (⟨#[0, 0]⟩ : ByteArray).size = 2 := rfl
          have H1 := Lib.hid (fun W => hT.out S (S ++ x) W (by unfold maxLen; omega) (by rw [append_size]; unfold maxLen; omega))
          have H2 := Lib.hid (fun W => hT.out (S ++ ⟨#[0, 0]⟩) (x ++ S) W (by rw [append_size]; unfold maxLen; omega) (by rw [append_size]; unfold maxLen; omega))
          have HXX := Lib.hid hxx
          clear hxx
          go_wp2_with (first
            | (go_at_call 3; rw [HXX.out]; with_reducible refine (H1.out _).mono ?_; rintro e w1 ⟨rfl, hb1⟩; have HB3 := Lib.hid (HB2.out.next hb1); clear hb1)
            | (go_at_call 3; rw [HXX.out]; with_reducible refine (H2.out _).mono ?_; rintro e w2 ⟨rfl, hb2⟩; have HB4 := Lib.hid (HB3.out.next hb2); clear hb2))
          go_roundw
          case rel => exact ⟨S ++ x, q / 4, k + 1, by rw [append_size]; omega, by omega, by omega, by rw [← HXX.out], by go_num, by go_num, HB4.out⟩
          case measure => simp [intOf] <;> omega
        · have kl : (6 : Int) ≤ (k : Int) := by omega
          go_wp2_with fail
          go_roundw
          case rel => exact ⟨n + 1, by omega, by go_num, HB1⟩
          case measure => simp [intOf] <;> omega
    · have nl : (4096 : Int) ≤ (n : Int) := by omega
      go_wp2_with fail
      go_loopw [6] (fun i wr => ∃ n : Nat, 15 ≤ n ∧ n ≤ 18 ∧ i = .int .i64 n ∧ Below w.heap.size w wr) (fun i _ => 18 - (intOf i).toNat)
      case atStart => exact ⟨15, by omega, by omega, rfl, HB⟩
      case round =>
        obtain ⟨m, hm1, hm2, rfl, HB1⟩ := hrel
        clear HB
        by_cases hlm : m < 18
        · have ml : (m : Int) < 18 := by omega
          obtain ⟨wp, hwp⟩ : ∃ wp : World, wp = wr := ⟨_, rfl⟩
          rw [← hwp] at HB1 ⊢
          clear hwp
          go_wp2_with fail
          go_loopw [7] (fun i wr => ∃ k : Nat, k ≤ 4 ∧ i = .int .i64 k ∧ Below w.heap.size w wr) (fun i _ => 4 - (intOf i).toNat)
          case atStart => exact ⟨0, by omega, rfl, HB1⟩
          case round =>
            obtain ⟨k, hk, rfl, HB2⟩ := hrel
            clear HB1
            obtain ⟨wq, hwq⟩ : ∃ wq : World, wq = wr := ⟨_, rfl⟩
            rw [← hwq] at HB2 ⊢
            clear hwq
            by_cases hlk : k < 4
            · have kl : (k : Int) < 4 := by omega
              go_wp2_with fail
              go_loopw [8, 9, 10] (fun s c i wr => ∃ (S C : ByteArray) (j : Nat), S.size ≤ j ∧ C.size ≤ 2 * j ∧ j ≤ m ∧ s = .string S ∧ c = .string C ∧ i = .int .i64 j ∧ Below w.heap.size w wr) (fun _ _ i _ => m - (intOf i).toNat)
              case atStart => exact ⟨⟨#[]⟩, ⟨#[]⟩, 0, Nat.le_refl 0, Nat.zero_le _, by omega, rfl, rfl, rfl, HB2⟩
              case round =>
                obtain ⟨S, C, j, hS, hC, hj, rfl, rfl, rfl, HB3⟩ := hrel
                clear HB2
                have z0 : S.size ≤ 18 := by omega
                have z1 : C.size ≤ 36 := by omega
                by_cases hlj : j < m
                · have jl : (j : Int) < (m : Int) := by omega
                  have k1 : (k : Int) + 1 ≤ 4 := by omega
                  obtain ⟨x, hxx⟩ : ∃ x, four.extract k (k + 1) = x := ⟨_, rfl⟩
                  have hx : x.size = 1 := by
                    have e : four.size = 4 := rfl
                    rw [← hxx, ByteArray.size_extract, e]; omega
                  have e1 : (⟨#[1]⟩ : ByteArray).size = 1 := rfl
                  have HXX := Lib.hid hxx
                  clear hxx
                  have HB4 := Lib.hid HB3
                  clear HB3
                  by_cases h0 : k = 0
                  · have q1 : ((k : Int) == 0) = true := by rw [h0]; rfl
                    have H0 := Lib.hid h0
                    clear h0
                    go_wp2_with fail
                    go_roundw
                    case rel => exact ⟨S ++ x, C ++ x ++ ⟨#[1]⟩, j + 1, by rw [append_size]; omega, by rw [append_size, append_size]; omega, by omega, by rw [← HXX.out], by rw [← HXX.out], by go_num, HB4.out⟩
                    case measure => simp [intOf] <;> omega
                  · have q1 : ((k : Int) == 0) = false := by rw [beq_eq_false_iff_ne]; omega
                    have H0 := Lib.hid h0
                    clear h0
                    go_wp2_with fail
                    go_roundw
                    case rel => exact ⟨S ++ x, C ++ x, j + 1, by rw [append_size]; omega, by rw [append_size]; omega, by omega, by rw [← HXX.out], by rw [← HXX.out], by go_num, HB4.out⟩
                    case measure => simp [intOf] <;> omega
                · have jl : (m : Int) ≤ (j : Int) := by omega
                  have e1 : (⟨#[0, 0]⟩ : ByteArray).size = 2 := rfl
                  have e2 : (⟨#[0]⟩ : ByteArray).size = 1 := rfl
                  have e3 : (⟨#[0, 0, 0]⟩ : ByteArray).size = 3 := rfl
                  have H1 := Lib.hid (tells_any S (by omega))
                  have H2 := Lib.hid (tells_any (C ++ ⟨#[0, 0]⟩) (by rw [append_size]; omega))
                  have H3 := Lib.hid (tells_any (C ++ ⟨#[0]⟩) (by rw [append_size]; omega))
                  have H4 := Lib.hid (tells_any (C ++ ⟨#[0, 0, 0]⟩) (by rw [append_size]; omega))
                  have HB4 := Lib.hid HB3
                  clear HB3
                  go_wp2_with (first
                    | (go_at_call 8; with_reducible refine (H1.out _).mono ?_; rintro e w1 ⟨rfl, hb1⟩; have HC1 := Lib.hid hb1; clear hb1)
                    | (go_at_call 8; with_reducible refine (H2.out _).mono ?_; rintro e w2 ⟨rfl, hb2⟩; have HC2 := Lib.hid hb2; clear hb2)
                    | (go_at_call 8; with_reducible refine (H3.out _).mono ?_; rintro e w3 ⟨rfl, hb3⟩; have HC3 := Lib.hid hb3; clear hb3)
                    | (go_at_call 8; with_reducible refine (H4.out _).mono ?_; rintro e w4 ⟨rfl, hb4⟩; have HC4 := Lib.hid hb4; clear hb4))
                  go_roundw
                  case rel => exact ⟨k + 1, by omega, by go_num, (((HB4.out.next HC1.out).next HC2.out).next HC3.out).next HC4.out⟩
                  case measure => simp [intOf] <;> omega
            · have kl : (4 : Int) ≤ (k : Int) := by omega
              go_wp2_with fail
              go_roundw
              case rel => exact ⟨m + 1, by omega, by omega, by go_num, HB2⟩
              case measure => simp [intOf] <;> omega
        · have ml : (18 : Int) ≤ (m : Int) := by omega
          go_wp2_with (go_at_call 7; refine (awake_any _).mono ?_; rintro e w1 ⟨rfl, hb1⟩)
          go_ret
          exact ⟨rfl, HB1.next hb1⟩
end Go.Proofs.Ytdogeimgaebnjaa
