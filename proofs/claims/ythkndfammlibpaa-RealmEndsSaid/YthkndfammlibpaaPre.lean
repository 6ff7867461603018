/- A tenant's prefix. -/
import Derived.Test.YthkndfammlibpaaKit
import Derived.Test.YthkndfammlibpaaFr
import Derived.Test.YthkndfammlibpaaEncode
import Derived.BigRegion
namespace Go.Proofs.Ythkndfammlibpaa
open Go.RowKit
set_option maxRecDepth 100000
set_option maxHeartbeats 2000000

/-- The prefix of a small number. -/
def preL (t : Nat) : List UInt8 := [0, 0, 0, 0, 0, 0, 0, UInt8.ofNat t]
def pre (t : Nat) : ByteArray := ⟨(preL t).toArray⟩
def zeros8 : Array Value := #[.int .u8 0, .int .u8 0, .int .u8 0, .int .u8 0, .int .u8 0, .int .u8 0, .int .u8 0, .int .u8 0]
def cells8 (t : Nat) : Array Value := #[.int .u8 0, .int .u8 0, .int .u8 0, .int .u8 0, .int .u8 0, .int .u8 0, .int .u8 0, .int .u8 (t : Int)]
def cellsAt (t i : Nat) : Array Value := if i = 0 then zeros8 else cells8 t

theorem cells8_bytes (t : Nat) (h : t < 256) : cells8 t = (byteVals (preL t)).toArray := by
  have e : (UInt8.ofNat t).toNat = t := by rw [UInt8.toNat_ofNat']; exact Nat.mod_eq_of_lt h
  simp [cells8, byteVals, preL, e]
theorem shift_low (t k : Nat) (h : t ≤ 16) (hk : 1 ≤ k) : (t : Int) / 2 ^ (8 * k) % 256 = 0 := by
  have h1 : (2 : Int) ^ (8 * k) = ((2 ^ (8 * k) : Nat) : Int) := by simp
  have h2 : 2 ^ 8 ≤ 2 ^ (8 * k) := Nat.pow_le_pow_right (by omega) (by omega)
  rw [h1, ← Int.natCast_ediv, Nat.div_eq_of_lt (by omega)]
  rfl
theorem set_cells (t k : Nat) (h : t ≤ 16) (hk : k < 8) : (cellsAt t k).setIfInBounds (7 - k) (.int .u8 ((t : Int) / 2 ^ (8 * k) % 256)) = cellsAt t (k + 1) := by
  match k, hk with
  | 0, _ =>
    have e : (t : Int) / 2 ^ (8 * 0) % 256 = t := by simp; omega
    rw [e]; rfl
  | 1, _ => rw [shift_low t 1 h (by omega)]; rfl
  | 2, _ => rw [shift_low t 2 h (by omega)]; rfl
  | 3, _ => rw [shift_low t 3 h (by omega)]; rfl
  | 4, _ => rw [shift_low t 4 h (by omega)]; rfl
  | 5, _ => rw [shift_low t 5 h (by omega)]; rfl
  | 6, _ => rw [shift_low t 6 h (by omega)]; rfl
  | 7, _ => rw [shift_low t 7 h (by omega)]; rfl
theorem pre_string (t : Nat) (h : t ≤ 16) (W : World) (p : Nat) (hC : Fresh W p (cells8 t) 54) :
    (convert 29 9 (.slice (some ⟨p, 0, none⟩) 8 8)).run Try.prog W = .ok (.string (pre t)) W := by
  rw [run_convert_bytes_string _ 29 9 5 _ _ _ Try.underlying29 Try.underlying5 Try.underlying9]
  rw [cells8_bytes t (by omega)] at hC
  have hl := run_loadCells_list (P := Try.prog) (w := W) ⟨p, 0, none⟩ (byteVals (preL t)) (fun j v hv => by
    rw [Addr.add_lit, Nat.zero_add, hC.cell j, List.getElem?_toArray]
    exact hv)
  rw [byteVals_length, show (preL t).length = 8 from rfl] at hl
  rw [run_bytesToString _ _ _ _ ((preL t).map fun c => (c.toNat : Int)) (by rw [hl]; simp [byteVals, Function.comp_def])]
  rw [foldl_push]
  congr 2

theorem prefix_any (t : Nat) (h2 : t ≤ 16) (w : World) :
    Calls Try.prog 23 #[.int .i64 (t : Int)] w fun e w' => e = .returned (.string (pre t)) ∧ Below w.heap.size w w' := by
  go_enter Try.func23, Try.ntmps23
  go_wp2
  have hF := Fresh.new w w.heap.size zeros8 54 rfl
  go_loopw [5] (fun i wr => ∃ k : Nat, k ≤ 8 ∧ i = .int .i64 k ∧ Fresh wr w.heap.size (cellsAt t k) 54 ∧ Below w.heap.size w wr) (fun i _ => 8 - (intOf i).toNat)
  case atStart => exact ⟨0, by omega, rfl, hF, (Below.refl _ w).alloc (Nat.le_refl _) _⟩
  case round =>
    obtain ⟨k, hk, rfl, hC, hB⟩ := hrel
    clear hF
    by_cases hlt : k < 8
    · have kl : (k : Int) < 8 := by omega
      have hc : ∃ x, wr.cell? ⟨w.heap.size, 7 - k, none⟩ = some (.int .u8 x) := by
        rw [hC.cell]
        match k, hlt with
        | 0, _ => exact ⟨_, rfl⟩
        | 1, _ => exact ⟨_, rfl⟩
        | 2, _ => exact ⟨_, rfl⟩
        | 3, _ => exact ⟨_, rfl⟩
        | 4, _ => exact ⟨_, rfl⟩
        | 5, _ => exact ⟨_, rfl⟩
        | 6, _ => exact ⟨_, rfl⟩
        | 7, _ => exact ⟨_, rfl⟩
      obtain ⟨x, hc⟩ := hc
      have hz := hC.thawed (7 - k)
      have HC := Lib.hid hC
      have HB := Lib.hid hB
      clear hC hB
      go_wp2
      go_roundw
      case rel => exact ⟨k + 1, by omega, by go_num, by rw [← set_cells t k h2 hlt]; exact HC.out.set _ _, HB.out.setCell (p := ⟨w.heap.size, 7 - k, none⟩) (Nat.le_refl _) _⟩
      case measure => simp [intOf] <;> omega
    · obtain rfl : k = 8 := by omega
      have hcv := pre_string t h2 wr w.heap.size hC
      have HC := Lib.hid hC
      have HB := Lib.hid hB
      clear hC hB
      go_wp2
      go_ret
      exact ⟨rfl, HB.out⟩

theorem rprefix_any (t : Nat) (h2 : t ≤ 17) (w : World) :
    Calls Try.prog 29 #[.int .i64 (t : Int)] w fun e w' => e = .returned (.string (pre t)) ∧ Below w.heap.size w w' := by
  go_enter Try.func29, Try.ntmps29
  go_wp2
  go_loopw [0, 3, 4] (fun n s i wr => ∃ k : Nat, k ≤ 8 ∧ i = .int .i64 k ∧ n = .int .i64 (if k = 0 then (t : Int) else 0) ∧ s = .string ⟨((preL t).drop (8 - k)).toArray⟩ ∧ Below w.heap.size w wr) (fun _ _ i _ => 8 - (intOf i).toNat)
  case atStart => exact ⟨0, by omega, rfl, rfl, rfl, Below.refl _ w⟩
  case round =>
    obtain ⟨k, hk, rfl, rfl, rfl, hB⟩ := hrel
    by_cases hlt : k < 8
    · have kl : (k : Int) < 8 := by omega
      have HB := Lib.hid hB
      clear hB
      obtain ⟨c, hc, hv⟩ : ∃ c : UInt8, (c.toNat : Int) = (if k = 0 then (t : Int) else 0) ∧ c :: (preL t).drop (8 - k) = (preL t).drop (8 - (k + 1)) := by
        match k, hlt with
        | 0, _ => exact ⟨UInt8.ofNat t, by rw [UInt8.toNat_ofNat', Nat.mod_eq_of_lt (by omega)]; rfl, rfl⟩
        | 1, _ => exact ⟨0, rfl, rfl⟩
        | 2, _ => exact ⟨0, rfl, rfl⟩
        | 3, _ => exact ⟨0, rfl, rfl⟩
        | 4, _ => exact ⟨0, rfl, rfl⟩
        | 5, _ => exact ⟨0, rfl, rfl⟩
        | 6, _ => exact ⟨0, rfl, rfl⟩
        | 7, _ => exact ⟨0, rfl, rfl⟩
      have hn : ((if k = 0 then (t : Int) else 0)) = (c.toNat : Int) := hc.symm
      have hcz : c.toNat ≤ 17 := by have : (c.toNat : Int) ≤ 17 := by rw [hc]; split <;> omega
                                    omega
      rw [hn]
      have hlen : ((preL t).drop (8 - k)).length ≤ 8 := by simp [preL]
      obtain ⟨S, hS⟩ : ∃ S : ByteArray, (⟨((preL t).drop (8 - k)).toArray⟩ : ByteArray) = S := ⟨_, rfl⟩
      have hSs : S.size ≤ 8 := by rw [← hS, ← length_list]; exact hlen
      have hS2 : one c ++ S = ⟨((preL t).drop (8 - (k + 1))).toArray⟩ := by
        rw [← hv, ← hS]; exact bytes_ext (by rw [append_list]; rfl)
      rw [hS]
      have HS := Lib.hid hS2
      have h1 := one_size c
      have hcv := fun (w : World) => run_convert_one (P := Try.prog) w 29 9 5 c Try.underlying29 Try.underlying5 Try.underlying9
      have g0 : (0 : Int) ≤ (c.toNat : Int) := by omega
      have g1 : (c.toNat : Int) % 256 = (c.toNat : Int) := by omega
      have g2 : (c.toNat : Int) / 256 = 0 := by omega
      clear hS hS2 hv hn hc hlen
      go_wp2
      go_roundw
      case rel => exact ⟨k + 1, by omega, by go_num, by rw [if_neg (by omega)], by rw [HS.out], HB.out.alloc HB.out.size _⟩
      case measure => simp [intOf] <;> omega
    · obtain rfl : k = 8 := by omega
      go_wp2
      go_ret
      exact ⟨rfl, hB⟩
end Go.Proofs.Ythkndfammlibpaa
