/- The walks of the reference's Done and Kill. -/
import Derived.Test.YthhmbmeajgjhcaaRefTurns
namespace Go.Proofs.Ythhmbmeajgjhcaa
open Go.RowKit
set_option maxRecDepth 100000
set_option maxHeartbeats 1000000

theorem doneR_yes (n : Int) (w : World) (h : W64 n) (he : n % 4 = 1) :
    Calls Try.prog 47 #[.int .u64 n] w fun e w' => e = .returned (.tuple #[.int .u64 (doneV n), .bool true]) ∧ Below w.heap.size w w' := by
  have H := Lib.hid h
  have HE := Lib.hid he
  have K : Hid (W64 (n - 1)) := ⟨by have := h.1; omega, by have := h.2; omega⟩
  have d2 : ((n - 1) % 2 == 1) = false := by simp; omega
  have d3 : ((n - 1) / 2 % 2 == 1) = false := by simp; omega
  have E : (IntKind.u64.wrap ((n - 1) / 4 + 1)).tmod 4611686018427387904 = (n / 4 + 1) % 4611686018427387904 := by
    have h0 := h.1
    have h1 := h.2
    rw [wrapU, Int.emod_eq_of_lt (by omega) (by omega), Int.tmod_eq_emod_of_nonneg (by omega), show (n - 1) / 4 = n / 4 by omega]
  have B1 : Hid (0 ≤ (IntKind.u64.wrap ((n - 1) / 4 + 1)).tmod 4611686018427387904) := by show 0 ≤ _; rw [E]; omega
  have B2 : Hid ((IntKind.u64.wrap ((n - 1) / 4 + 1)).tmod 4611686018427387904 < 4611686018427387904) := by show _ < _; rw [E]; omega
  have V : Hid (VN ((IntKind.u64.wrap ((n - 1) / 4 + 1)).tmod 4611686018427387904) false false = doneV n) := by
    show _ = _
    rw [E]; have h0 := h.1; have h1 := h.2
    simp [VN, doneV]; omega
  clear h he E
  go_enter Try.func47, Try.ntmps47
  go_wp2_with (first | (go_at_call 46; refine (dropR_yes n _ H.out HE.out).mono ?_; rintro e w1 ⟨rfl, hb1⟩) | (go_at_call 45; refine (ofR_any (n - 1) _ K.out).mono ?_; rintro e w2 ⟨rfl, hb2⟩) | (go_at_call 62; refine (wordR_any _ _ _ _ B1.out B2.out).mono ?_; rintro e w3 ⟨rfl, hb3⟩))
  go_ret2
  exact ⟨by rw [V.out]; rfl, Below.step (Below.new (Below.step hb1 hb2) _) hb3⟩

theorem doneR_no (n : Int) (w : World) (h : W64 n) (he : ¬ n % 4 = 1) :
    Calls Try.prog 47 #[.int .u64 n] w fun e w' => e = .returned (.tuple #[.int .u64 n, .bool false]) ∧ Below w.heap.size w w' := by
  have H := Lib.hid h
  have HE := Lib.hid he
  clear h he
  go_enter Try.func47, Try.ntmps47
  go_wp2_with (go_at_call 46; refine (dropR_no n _ H.out HE.out).mono ?_; rintro e w1 ⟨rfl, hb1⟩)
  go_ret2
  exact ⟨rfl, hb1⟩

theorem killR_yes (n : Int) (w : World) (h : W64 n) (he : n % 4 = 1) :
    Calls Try.prog 48 #[.int .u64 n] w fun e w' => e = .returned (.tuple #[.int .u64 (killV n), .bool true]) ∧ Below w.heap.size w w' := by
  have H := Lib.hid h
  have HE := Lib.hid he
  have hd : doneV n = (n + 3) % 18446744073709551616 := rfl
  have h0 := h.1
  have h1 := h.2
  have d2 : (doneV n % 2 == 1) = false := by simp; omega
  have d3 : (doneV n / 2 % 2 == 1) = false := by simp; omega
  have B1 : Hid (0 ≤ doneV n / 4) := by show 0 ≤ _; omega
  have B2 : Hid (doneV n / 4 < 4611686018427387904) := by show _ < _; omega
  have V : Hid (VN (doneV n / 4) false true = killV n) := by show _ = _; simp [VN, killV]; omega
  clear h he hd h0 h1
  go_enter Try.func48, Try.ntmps48
  go_wp2_with (first | (go_at_call 47; refine (doneR_yes n _ H.out HE.out).mono ?_; rintro e w1 ⟨rfl, hb1⟩) | (go_at_call 45; refine (ofR_any (doneV n) _ (doneV_W n)).mono ?_; rintro e w2 ⟨rfl, hb2⟩) | (go_at_call 62; refine (wordR_any _ _ _ _ B1.out B2.out).mono ?_; rintro e w3 ⟨rfl, hb3⟩))
  go_ret2
  exact ⟨by rw [V.out]; rfl, Below.step (Below.new (Below.step hb1 hb2) _) hb3⟩

theorem killR_no (n : Int) (w : World) (h : W64 n) (he : ¬ n % 4 = 1) :
    Calls Try.prog 48 #[.int .u64 n] w fun e w' => e = .returned (.tuple #[.int .u64 n, .bool false]) ∧ Below w.heap.size w w' := by
  have H := Lib.hid h
  have HE := Lib.hid he
  clear h he
  go_enter Try.func48, Try.ntmps48
  go_wp2_with (go_at_call 47; refine (doneR_no n _ H.out HE.out).mono ?_; rintro e w1 ⟨rfl, hb1⟩)
  go_ret2
  exact ⟨rfl, hb1⟩

end Go.Proofs.Ythhmbmeajgjhcaa
