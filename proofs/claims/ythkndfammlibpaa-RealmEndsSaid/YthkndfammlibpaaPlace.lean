/- Prefixes and paths of tenants. -/
import Derived.Test.YthkndfammlibpaaPre
import Derived.Test.YthkndfammlibpaaMathC
import Derived.Test.YthkndfammlibpaaRefEnc
namespace Go.Proofs.Ythkndfammlibpaa
open Go.RowKit
set_option maxRecDepth 100000
set_option maxHeartbeats 2000000

/-- Whether a number is a tenant's. -/
def tenant (t : Int) : Bool := decide (1 ≤ t ∧ t ≤ 16)
theorem valid_any (t : Int) (w : World) :
    Calls Try.prog 28 #[.int .i64 t] w fun e w' => e = .returned (.bool (tenant t)) ∧ w' = w := by
  rcases (show t < 1 ∨ (1 ≤ t ∧ t ≤ 16) ∨ 16 < t from by omega) with h | ⟨h1, h2⟩ | h
  · have hv : tenant t = false := by simp [tenant]; omega
    rw [hv]
    go_enter Try.func28, Try.ntmps28
    go_wp2
    go_ret
    exact ⟨rfl, rfl⟩
  · have hv : tenant t = true := by simp [tenant]; omega
    rw [hv]
    go_enter Try.func28, Try.ntmps28
    go_wp2
    go_ret
    exact ⟨rfl, rfl⟩
  · have hv : tenant t = false := by simp [tenant]; omega
    have h1 : (1 : Int) ≤ t := by omega
    rw [hv]
    go_enter Try.func28, Try.ntmps28
    go_wp2
    go_ret
    exact ⟨by show Ending.returned (.bool (decide (t ≤ 16))) = _; rw [decide_eq_false (by omega)], rfl⟩

theorem tenant_some {t : Int} (h : tenant t = true) : ∃ k : Nat, 1 ≤ k ∧ k ≤ 16 ∧ t = k := by
  simp [tenant] at h
  exact ⟨t.toNat, by omega, by omega, by omega⟩

/-- The value of Prefix. -/
def prefixV (t : Int) : Value := if tenant t = true then .tuple #[.string (pre t.toNat), .int .i64 0] else .tuple #[.string ⟨#[]⟩, .int .i64 2]
theorem prefixD_any (t : Int) (w : World) :
    Calls Try.prog 14 #[.int .i64 t] w fun e w' => e = .returned (prefixV t) ∧ Below w.heap.size w w' := by
  have HV := Lib.hid (valid_any t)
  cases hv : tenant t
  · rw [hv] at HV
    have HP : Hid (prefixV t = .tuple #[.string ⟨#[]⟩, .int .i64 2]) := by show _ = _; rw [prefixV, hv]; rfl
    clear hv
    go_enter Try.func14, Try.ntmps14
    go_wp2_with (go_at_call 28; refine (HV.out _).mono ?_; rintro e w1 ⟨rfl, rfl⟩)
    go_ret2
    exact ⟨by rw [HP.out]; rfl, Below.refl _ _⟩
  · obtain ⟨k, k1, k2, rfl⟩ := tenant_some hv
    rw [hv] at HV
    have HP : Hid (prefixV (k : Int) = .tuple #[.string (pre k), .int .i64 0]) := by show _ = _; rw [prefixV, hv]; rfl
    have HX := Lib.hid (prefix_any k k2)
    clear hv
    go_enter Try.func14, Try.ntmps14
    go_wp2_with (first
      | (go_at_call 28; refine (HV.out _).mono ?_; rintro e w1 ⟨rfl, rfl⟩)
      | (go_at_call 23; refine (HX.out _).mono ?_; rintro e w2 ⟨rfl, hb2⟩))
    go_ret2
    exact ⟨by rw [HP.out]; rfl, hb2⟩
theorem rprefixD_any (t : Int) (w : World) :
    Calls Try.prog 15 #[.int .i64 t] w fun e w' => e = .returned (prefixV t) ∧ Below w.heap.size w w' := by
  cases hv : tenant t
  · have HP : Hid (prefixV t = .tuple #[.string ⟨#[]⟩, .int .i64 2]) := by show _ = _; rw [prefixV, hv]; rfl
    have h : t < 1 ∨ (1 ≤ t ∧ 16 < t) := by simp [tenant] at hv; omega
    clear hv
    rcases h with h | ⟨h1, h2⟩
    all_goals
      go_enter Try.func15, Try.ntmps15
      go_wp2
      go_ret2
      exact ⟨by rw [HP.out]; rfl, Below.refl _ _⟩
  · obtain ⟨k, k1, k2, rfl⟩ := tenant_some hv
    have HP : Hid (prefixV (k : Int) = .tuple #[.string (pre k), .int .i64 0]) := by show _ = _; rw [prefixV, hv]; rfl
    have HX := Lib.hid (rprefix_any k (by omega))
    have h1 : (1 : Int) ≤ (k : Int) := by omega
    have h2 : (k : Int) ≤ 16 := by omega
    clear hv
    go_enter Try.func15, Try.ntmps15
    go_wp2_with (go_at_call 29; refine (HX.out _).mono ?_; rintro e w2 ⟨rfl, hb2⟩)
    go_ret2
    exact ⟨by rw [HP.out]; rfl, hb2⟩
end Go.Proofs.Ythkndfammlibpaa
