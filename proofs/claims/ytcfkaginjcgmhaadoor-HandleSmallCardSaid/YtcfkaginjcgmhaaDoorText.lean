/- The text of a handle. -/
import Derived.Test.YtcfkaginjcgmhaaDoorAsks
namespace Go.Proofs.YtcfkaginjcgmhaaDoor
open Go.RowKit
set_option maxRecDepth 100000
set_option maxHeartbeats 1000000

def letC (k : Nat) : UInt8 := if k = 0 then 114 else if k = 1 then 119 else 115
theorem letter_any (k : Nat) (hk : k < 3) (w : World) :
    Calls Tryd.prog 40 #[.int .i64 k] w fun e w' => e = .returned (.string (one (letC k))) ∧ w' = w := by
  rcases (show k = 0 ∨ k = 1 ∨ k = 2 from by omega) with rfl | rfl | rfl
  all_goals
    have i0 : ∀ w, (Instr.index 68 (.agg #[.string ⟨#[114]⟩, .string ⟨#[119]⟩, .string ⟨#[115]⟩]) (.int .i64 0)).run Tryd.prog w = .ok (.string ⟨#[114]⟩) w := fun _ => by kernel_rfl
    have i1 : ∀ w, (Instr.index 68 (.agg #[.string ⟨#[114]⟩, .string ⟨#[119]⟩, .string ⟨#[115]⟩]) (.int .i64 1)).run Tryd.prog w = .ok (.string ⟨#[119]⟩) w := fun _ => by kernel_rfl
    have i2 : ∀ w, (Instr.index 68 (.agg #[.string ⟨#[114]⟩, .string ⟨#[119]⟩, .string ⟨#[115]⟩]) (.int .i64 2)).run Tryd.prog w = .ok (.string ⟨#[115]⟩) w := fun _ => by kernel_rfl
    go_enter Tryd.func40, Tryd.ntmps40
    go_wp2
    go_ret
    exact ⟨rfl, rfl⟩

/-- The letters of the bits below k. -/
def partL (r : Nat) (k : Nat) : List UInt8 := (if 0 < k ∧ r % 2 = 1 then [114] else []) ++ (if 1 < k ∧ r / 2 % 2 = 1 then [119] else []) ++ (if 2 < k ∧ r / 4 % 2 = 1 then [115] else [])
def partB (r k : Nat) : ByteArray := ⟨(partL r k).toArray⟩
theorem part_all (r : Nat) : partL r 3 = lettersL r := by simp [partL, lettersL]
theorem part_size (r k : Nat) : (partB r k).size ≤ 3 := by
  show (partL r k).toArray.size ≤ 3
  rw [List.size_toArray]; unfold partL; split <;> split <;> split <;> simp

theorem and_bit (n : Nat) (h : n < 8) : (bits .and .u8 (n : Int) 1 != 0) = decide (n % 2 = 1) := by
  have : ∀ n : Nat, n < 8 → (bits .and .u8 (n : Int) 1 != 0) = decide (n % 2 = 1) := by decide
  exact this n h

theorem letters_any (t g : Int) (r : Nat) (hr : r < 8) (w : World) :
    Calls Tryd.prog 36 #[hv t g r] w fun e w' => e = .returned (.string ⟨(lettersL r).toArray⟩) ∧ Below w.heap.size w w' := by
  go_enter Tryd.func36, Tryd.ntmps36
  go_wp2_with fail
  go_loopw [3, 4, 5] (fun x y i wr => ∃ k : Nat, k ≤ 3 ∧ i = .int .i64 k ∧ x = .string (partB r k) ∧ Below w.heap.size w wr ∧ wr.cell? ⟨w.heap.size, 2, none⟩ = some (.int .u8 r)) (fun x y i _ => 3 - (intOf i).toNat)
  case atStart => exact ⟨0, by omega, rfl, by simp [partB, partL], (Below.refl _ _).alloc (Nat.le_refl _) _, by simp [go_sem]⟩
  case round =>
    obtain ⟨k, hk, rfl, rfl, hB, c0⟩ := hrel
    have hs := part_size r k
    rcases (show k = 0 ∨ k = 1 ∨ k = 2 ∨ k = 3 from by omega) with rfl | rfl | rfl | rfl
    · have ho : (one (letC 0)).size = 1 := rfl
      by_cases hb : r % 2 = 1
      · have hq : (bits .and .u8 (r : Int) 1 != 0) = true := by
          rw [show (r : Int) = ((r : Nat) : Int) from by omega, and_bit _ (by omega)]; simp [hb]
        have HP : Hid (partB r 0 ++ one (letC 0) = partB r 1) := bytes_ext (by rw [append_list]; simp [partB, partL, one, letC, hb])
        clear hb
        go_wp2_with (go_at_call 40; refine (letter_any 0 (by omega) _).mono ?_; rintro e w1 ⟨rfl, rfl⟩)
        exact ⟨⟨1, by omega, rfl, by rw [HP.out], hB, c0⟩, by simp [intOf]⟩
      · have hq : (bits .and .u8 (r : Int) 1 != 0) = false := by
          rw [show (r : Int) = ((r : Nat) : Int) from by omega, and_bit _ (by omega)]; simp [hb]
        have HP : Hid (partB r 0 = partB r 1) := bytes_ext (by simp [partB, partL, hb])
        clear hb
        go_wp2_with fail
        exact ⟨⟨1, by omega, rfl, by rw [HP.out], hB, c0⟩, by simp [intOf]⟩
    · have ho : (one (letC 1)).size = 1 := rfl
      by_cases hb : r / 2 % 2 = 1
      · have hq : (bits .and .u8 ((r : Int) / 2) 1 != 0) = true := by
          rw [show ((r : Int) / 2) = (((r / 2) : Nat) : Int) from by omega, and_bit _ (by omega)]; simp [hb]
        have HP : Hid (partB r 1 ++ one (letC 1) = partB r 2) := bytes_ext (by rw [append_list]; simp [partB, partL, one, letC, hb])
        clear hb
        go_wp2_with (go_at_call 40; refine (letter_any 1 (by omega) _).mono ?_; rintro e w1 ⟨rfl, rfl⟩)
        exact ⟨⟨2, by omega, rfl, by rw [HP.out], hB, c0⟩, by simp [intOf]⟩
      · have hq : (bits .and .u8 ((r : Int) / 2) 1 != 0) = false := by
          rw [show ((r : Int) / 2) = (((r / 2) : Nat) : Int) from by omega, and_bit _ (by omega)]; simp [hb]
        have HP : Hid (partB r 1 = partB r 2) := bytes_ext (by simp [partB, partL, hb])
        clear hb
        go_wp2_with fail
        exact ⟨⟨2, by omega, rfl, by rw [HP.out], hB, c0⟩, by simp [intOf]⟩
    · have ho : (one (letC 2)).size = 1 := rfl
      by_cases hb : r / 4 % 2 = 1
      · have hq : (bits .and .u8 ((r : Int) / 4) 1 != 0) = true := by
          rw [show ((r : Int) / 4) = (((r / 4) : Nat) : Int) from by omega, and_bit _ (by omega)]; simp [hb]
        have HP : Hid (partB r 2 ++ one (letC 2) = partB r 3) := bytes_ext (by rw [append_list]; simp [partB, partL, one, letC, hb])
        clear hb
        go_wp2_with (go_at_call 40; refine (letter_any 2 (by omega) _).mono ?_; rintro e w1 ⟨rfl, rfl⟩)
        exact ⟨⟨3, by omega, rfl, by rw [HP.out], hB, c0⟩, by simp [intOf]⟩
      · have hq : (bits .and .u8 ((r : Int) / 4) 1 != 0) = false := by
          rw [show ((r : Int) / 4) = (((r / 4) : Nat) : Int) from by omega, and_bit _ (by omega)]; simp [hb]
        have HP : Hid (partB r 2 = partB r 3) := bytes_ext (by simp [partB, partL, hb])
        clear hb
        go_wp2_with fail
        exact ⟨⟨3, by omega, rfl, by rw [HP.out], hB, c0⟩, by simp [intOf]⟩
    · go_wp2_with fail
      go_ret
      exact ⟨ret_str (by simp [partB, part_all]), hB⟩

end Go.Proofs.YtcfkaginjcgmhaaDoor
