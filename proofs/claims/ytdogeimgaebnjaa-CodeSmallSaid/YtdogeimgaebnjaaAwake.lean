/- The examples of the chapter. -/
import Derived.Test.YtdogeimgaebnjaaMathC
namespace Go.Proofs.Ytdogeimgaebnjaa
open Go.RowKit Go.Shelf
set_option maxRecDepth 100000
set_option maxHeartbeats 2000000

theorem _root_.Go.RowKit.Below.next {w w1 w2 : World} (h : Below w.heap.size w w1) (k : Below w1.heap.size w1 w2) : Below w.heap.size w w2 := h.trans (k.mono h.size)

theorem ex_enc1 (W : World) : Calls Try.prog 11 #[.string ⟨#[97, 0, 98]⟩] W fun e w' => e = .returned (.tuple #[.string ⟨#[97, 0, 1, 98, 0, 0]⟩, .int .i64 0]) ∧ Below W.heap.size W w' := by
  have h := encode_any ⟨#[97, 0, 98]⟩ W (by decide)
  rw [show codeOf ⟨#[97, 0, 98]⟩ = ⟨#[97, 0, 1, 98, 0, 0]⟩ from rfl] at h
  exact h
theorem ex_enc2 (W : World) : Calls Try.prog 11 #[.string ⟨#[]⟩] W fun e w' => e = .returned (.tuple #[.string ⟨#[0, 0]⟩, .int .i64 0]) ∧ Below W.heap.size W w' := by
  have h := encode_any ⟨#[]⟩ W (by decide)
  rw [show codeOf ⟨#[]⟩ = ⟨#[0, 0]⟩ from rfl] at h
  exact h
theorem ex_key : keyL [97, 0, 1, 98, 0, 0] = some [97, 0, 98] := keyL_code (k := [97, 0, 98]) (by decide)
theorem ex_dec (W : World) : Calls Try.prog 12 #[.string ⟨#[97, 0, 1, 98, 0, 0]⟩] W fun e w' => e = .returned (.tuple #[.string ⟨#[97, 0, 98]⟩, .int .i64 0]) ∧ Below W.heap.size W w' := by
  have h := decodeD_any ⟨#[97, 0, 1, 98, 0, 0]⟩ (by decide) W
  rw [isCode, show (⟨#[97, 0, 1, 98, 0, 0]⟩ : ByteArray).data.toList = [97, 0, 1, 98, 0, 0] from rfl, ex_key] at h
  exact h
theorem ex_is (l : List UInt8) (hl : l.length ≤ 1000) (hk : keyL l = none) (W : World) : Calls Try.prog 13 #[.string (bz l)] W fun e w' => e = .returned (.bool false) ∧ Below W.heap.size W w' := by
  have h := is_any (bz l) (by rw [bz_size]; omega) W
  rw [isCode, show (bz l).data.toList = l from rfl, hk] at h
  exact h
theorem ex_less (W : World) : Calls Try.prog 9 #[.string ⟨#[97]⟩, .string ⟨#[97, 98]⟩] W fun e w' => e = .returned (.bool true) ∧ w' = W := by
  have h := less_any ⟨#[97]⟩ ⟨#[97, 98]⟩ W
  rw [show Op.bytesLess (⟨#[97]⟩ : ByteArray).toList (⟨#[97, 98]⟩ : ByteArray).toList = true from by rw [ByteArray.toList_eq, ByteArray.toList_eq]; rfl] at h
  exact h

theorem awake_any (w : World) : Calls Try.prog 7 #[] w fun e w' => e = .returned (.bool true) ∧ Below w.heap.size w w' := by
  have H1 := Lib.hid (fun W => ex_is [97] (by decide) keyL_a W)
  have H2 := Lib.hid (fun W => ex_is [97, 0] (by decide) keyL_b W)
  have H3 := Lib.hid (fun W => ex_is [97, 0, 2] (by decide) keyL_c W)
  have H4 := Lib.hid (fun W => ex_is [0, 0, 0] (by decide) keyL_d W)
  go_enter Try.func7, Try.ntmps7
  go_wp2_with (first
    | (go_at_call 11; with_reducible refine (ex_enc1 _).mono ?_; rintro e w1 ⟨rfl, hb1⟩)
    | (go_at_call 12; with_reducible refine (ex_dec _).mono ?_; rintro e w2 ⟨rfl, hb2⟩)
    | (go_at_call 11; with_reducible refine (ex_enc2 _).mono ?_; rintro e w3 ⟨rfl, hb3⟩)
    | (go_at_call 13; with_reducible refine (H1.out _).mono ?_; rintro e w4 ⟨rfl, hb4⟩)
    | (go_at_call 13; with_reducible refine (H2.out _).mono ?_; rintro e w5 ⟨rfl, hb5⟩)
    | (go_at_call 13; with_reducible refine (H3.out _).mono ?_; rintro e w6 ⟨rfl, hb6⟩)
    | (go_at_call 13; with_reducible refine (H4.out _).mono ?_; rintro e w7 ⟨rfl, hb7⟩)
    | (go_at_call 9; with_reducible refine (ex_less _).mono ?_; rintro e w8 ⟨rfl, rfl⟩))
  go_ret
  exact ⟨rfl, ((((((hb1.next hb2).next hb3).next hb4).next hb5).next hb6).next hb7)⟩
end Go.Proofs.Ytdogeimgaebnjaa
