/- The examples of the chapter (awake) and 'tells'. -/
import Derived.Test.YthfbkmpljobagaaAwake
import Derived.KernelRfl
namespace Go.Proofs.Ythfbkmpljobagaa
open Go.RowKit
set_option maxRecDepth 100000
set_option maxHeartbeats 400000

theorem v1 : cutVal ⟨#[97, 98, 99, 100]⟩ 2 = .tuple #[.string ⟨#[97, 98]⟩, .int .u8 99, .string ⟨#[100]⟩, .bool true] := by kernel_rfl
theorem v2 : cutVal ⟨#[97, 98, 99, 100]⟩ 4 = .tuple #[.string ⟨#[]⟩, .int .u8 0, .string ⟨#[]⟩, .bool false] := by kernel_rfl

theorem all3_any (a b c : ByteArray) (bl : Nat) (w : World) (hb : bl < w.heap.size) (ha : a.size ≤ maxLen) (hbz : b.size ≤ maxLen) (hcz : c.size ≤ maxLen)
    (h0 : w.cell? ⟨bl, 0, none⟩ = some (.string a)) (h1 : w.cell? ⟨bl, 1, none⟩ = some (.string b)) (h2 : w.cell? ⟨bl, 2, none⟩ = some (.string c)) :
    Calls Try.prog 13 #[.slice (some ⟨bl, 0, none⟩) 3 3] w fun e w' => e = .returned (.int .i64 (lcpAll a [b, c])) ∧ Below w.heap.size w w' :=
  all_any a [b, c] bl 0 3 w hb (by intro x hx; simp at hx; rcases hx with rfl | rfl | rfl <;> assumption) (by simp; decide) (by simp) (by
    intro i hi
    match i, hi with
    | 0, _ => simpa using h0
    | 1, _ => simpa using h1
    | 2, _ => simpa using h2
    | n + 3, hi => exact absurd hi (by simp))

theorem awake_any (w : World) : Calls Try.prog 9 #[] w fun e w' => e = .returned (.bool true) ∧ Below w.heap.size w w' := by
  have e1 : Hid (((lcp [97, 98, 99, 100] [97, 98, 120, 100] : Nat) : Int) = 2) := by show _ = _; decide
  have e2 : Hid (((lcpAll ⟨#[97, 98, 99, 100]⟩ [⟨#[97, 98, 120]⟩, ⟨#[97, 98]⟩] : Nat) : Int) = 2) := by show _ = _; decide
  go_enter Try.func9, Try.ntmps9
  go_wp2_with fail
  refine (cut_any _ _ _ (by decide)).mono ?_
  rintro e w1 ⟨rfl, hb1⟩
  rw [v1]
  go_wp2_with fail
  refine (cut_any _ _ _ (by decide)).mono ?_
  rintro e w2 ⟨rfl, hb2⟩
  rw [v2]
  go_wp2_with fail
  refine (common_any _ _ _ (by decide) (by decide)).mono ?_
  rintro e w3 ⟨rfl, hb3⟩
  rw [e1.out]
  go_wp2_with fail
  refine (all3_any ⟨#[97, 98, 99, 100]⟩ ⟨#[97, 98, 120]⟩ ⟨#[97, 98]⟩ _ _ (by simp) (by decide) (by decide) (by decide) (by simp [go_sem]) (by simp [go_sem]) (by simp [go_sem])).mono ?_
  rintro e w4 ⟨rfl, hb4⟩
  rw [e2.out]
  go_wp2_with fail
  go_ret
  exact ⟨rfl, ((hb1.trans (hb2.mono hb1.size)).trans (hb3.mono (Nat.le_trans hb1.size hb2.size))).trans ((((Below.refl _ _).alloc (Nat.le_refl _) _).trans (hb4.mono (by simp))).mono (Nat.le_trans hb1.size (Nat.le_trans hb2.size hb3.size)))⟩

/-- What a Cut's answer holds. -/
theorem cutVal_shape (s : ByteArray) (n : Int) : ∃ (a : ByteArray) (c : UInt8) (b : ByteArray) (k : Bool), cutVal s n = .tuple #[.string a, .int .u8 c.toNat, .string b, .bool k] := by
  unfold cutVal
  split
  · exact ⟨_, _, _, _, rfl⟩
  · exact ⟨⟨#[]⟩, 0, ⟨#[]⟩, false, rfl⟩

theorem tells_any (s t : ByteArray) (n : Int) (w : World) (hs : s.size ≤ 2000) (ht : t.size ≤ 2000) (c : UInt8) (hc : IntKind.u8.wrap n = c.toNat) :
    Calls Try.prog 10 #[.string s, .string t, .int .i64 n] w fun e w' => e = .returned (.bool true) ∧ Below w.heap.size w w' := by
  have H1 : Hid (s.size ≤ maxLen) := Nat.le_trans hs (by decide)
  have H2 : Hid (t.size ≤ maxLen) := Nat.le_trans ht (by decide)
  have H3 : Hid (s.size ≤ 1000000) := Nat.le_trans hs (by decide)
  have H4 : Hid (t.size ≤ 1000000) := Nat.le_trans ht (by decide)
  clear hs ht
  obtain ⟨a, d, b, k, hv⟩ := cutVal_shape s n
  have HV := Lib.hid hv
  clear hv
  go_enter Try.func10, Try.ntmps10
  go_wp2_with fail
  refine (cut_any _ _ _ H1.out).mono ?_
  rintro e w1 ⟨rfl, hb1⟩
  rw [HV.out]
  go_wp2_with fail
  refine (rcut_any _ _ _ H1.out).mono ?_
  rintro e w2 ⟨rfl, hb2⟩
  rw [HV.out]
  go_wp2_with fail
  refine (common_any _ _ _ H1.out H2.out).mono ?_
  rintro e w3 ⟨rfl, hb3⟩
  go_wp2_with fail
  refine (rcommon_any _ _ _ H1.out H2.out).mono ?_
  rintro e w4 ⟨rfl, hb4⟩
  go_wp2_with fail
  refine (begins_any _ _ _ H1.out H2.out).mono ?_
  rintro e w5 ⟨rfl, hb5⟩
  go_wp2_with fail
  refine (rbegins_any _ _ _ H1.out H2.out).mono ?_
  rintro e w6 ⟨rfl, hb6⟩
  go_wp2_with fail
  refine (begins_any _ _ _ H2.out H1.out).mono ?_
  rintro e w7 ⟨rfl, hb7⟩
  go_wp2_with fail
  refine (rbegins_any _ _ _ H2.out H1.out).mono ?_
  rintro e w8 ⟨rfl, hb8⟩
  go_wp2_with fail
  refine (rest_any _ _ _ H1.out).mono ?_
  rintro e w9 ⟨rfl, hb9⟩
  go_wp2_with fail
  refine (rrest_any _ _ _ H1.out).mono ?_
  rintro e w10 ⟨rfl, hb10⟩
  go_wp2_with fail
  refine (join_any _ _ c _ H3.out H4.out).mono ?_
  rintro e w11 ⟨rfl, hb11⟩
  go_wp2_with fail
  refine (rjoin_any _ _ c _ H3.out H4.out).mono ?_
  rintro e w12 ⟨rfl, hb12⟩
  go_wp2_with fail
  go_ret
  exact ⟨rfl, Below.step (Below.step (Below.step (Below.step (Below.step (Below.step (Below.step (Below.step (Below.step (Below.step (Below.step hb1 hb2) hb3) hb4) hb5) hb6) hb7) hb8) hb9) hb10) hb11) hb12⟩

end Go.Proofs.Ythfbkmpljobagaa
