/- What Beyond returns, as a function of the bytes; the examples of the chapter. -/
import Derived.Test.YtpklolidgegloaaReach
import Derived.Test.YtpklolidgegloaaBeyond
namespace Go.Proofs.Ytpklolidgegloaa
open Go.RowKit
set_option maxRecDepth 100000
set_option maxHeartbeats 400000

def beyondL : List UInt8 → Option (List UInt8)
  | [] => none
  | c :: l => match beyondL l with
    | some r => some (c :: r)
    | none => if c = 255 then none else some [c + 1]
theorem beyondL_all : ∀ l : List UInt8, (∀ c ∈ l, c = 255) → beyondL l = none
  | [], _ => rfl
  | c :: l, h => by rw [beyondL, beyondL_all l (fun x hx => h x (by simp [hx])), h c (by simp)]; rfl
theorem beyondL_at (c : UInt8) (ff : List UInt8) (hc : c ≠ 255) (hf : ∀ x ∈ ff, x = 255) : ∀ q, beyondL (q ++ c :: ff) = some (q ++ [c + 1])
  | [] => by simp [beyondL, beyondL_all ff hf, hc]
  | d :: q => by simp [beyondL, beyondL_at c ff hc hf q]
theorem beyondL_cases : ∀ l : List UInt8, (beyondL l = none ∧ ∀ c ∈ l, c = 255) ∨ ∃ q c ff, l = q ++ c :: ff ∧ c ≠ 255 ∧ (∀ x ∈ ff, x = 255) ∧ beyondL l = some (q ++ [c + 1])
  | [] => .inl ⟨rfl, by simp⟩
  | c :: l => by
    rcases beyondL_cases l with ⟨h1, h2⟩ | ⟨q, d, ff, rfl, h2, h3, h4⟩
    · by_cases hc : c = 255
      · left
        refine ⟨by rw [beyondL, h1]; simp [hc], ?_⟩
        intro x hx
        rcases List.mem_cons.1 hx with rfl | hx
        · exact hc
        · exact h2 x hx
      · exact .inr ⟨[], c, l, rfl, hc, h2, beyondL_at c l hc h2 []⟩
    · exact .inr ⟨c :: q, d, ff, rfl, h2, h3, beyondL_at d ff h2 h3 (c :: q)⟩

def beyondOk (s : ByteArray) : Bool := (beyondL s.data.toList).isSome
def beyondB (s : ByteArray) : ByteArray := ⟨((beyondL s.data.toList).getD []).toArray⟩
theorem beyondIs_eq {s r : ByteArray} {b : Bool} (h : BeyondIs s r b) : r = beyondB s ∧ b = beyondOk s := by
  rcases h with ⟨rfl, rfl, h⟩ | ⟨rfl, i, hi, h1, h2, rfl⟩
  · have e : beyondL s.data.toList = none := beyondL_all _ (fun c hc => by
      obtain ⟨k, hk, rfl⟩ := List.mem_iff_getElem.1 hc
      exact h k (by simpa using hk))
    unfold beyondB beyondOk
    rw [e]
    exact ⟨rfl, rfl⟩
  · have hl : i < s.data.toList.length := by simpa using hi
    have e0 : s.data.toList = s.data.toList.take i ++ s[i] :: s.data.toList.drop (i + 1) := by
      conv => lhs; rw [← List.take_append_drop i s.data.toList, List.drop_eq_getElem_cons hl]
      rfl
    have e : beyondL s.data.toList = some (s.data.toList.take i ++ [s[i] + 1]) := by
      conv => lhs; rw [e0]
      refine beyondL_at _ _ h1 (fun c hc => ?_) _
      obtain ⟨k, hk, rfl⟩ := List.mem_iff_getElem.1 hc
      rw [List.getElem_drop]
      have hk' : i + 1 + k < s.size := by simp at hk; omega
      exact h2 (i + 1 + k) hk' (by omega)
    unfold beyondB beyondOk
    rw [e]
    refine ⟨bytes_ext ?_, rfl⟩
    rw [append_list, one_list, clipB, extract_list]
    simp

theorem beyond_val (s : ByteArray) (hs : s.size ≤ 1000000) (w : World) :
    Calls Try.prog 14 #[.string s] w fun e w' => e = .returned (.tuple #[.string (beyondB s), .bool (beyondOk s)]) ∧ Below w.heap.size w w' := by
  refine (callsIn_wide (n := 3)).1 ((beyond_in 3 (by omega) s hs w).mono ?_)
  rintro e w' ⟨⟨r, b, rfl, h⟩, hb⟩
  obtain ⟨rfl, rfl⟩ := beyondIs_eq h
  exact ⟨rfl, hb⟩

theorem awake_any (w : World) : Calls Try.prog 7 #[] w fun e w' => e = .returned (.bool true) ∧ Below w.heap.size w w' := by
  have a1 : Hid (beyondB ⟨#[97, 98]⟩ = ⟨#[97, 99]⟩ ∧ beyondOk ⟨#[97, 98]⟩ = true) := ⟨by kernel_rfl, by kernel_rfl⟩
  have a2 : Hid (beyondB ⟨#[97, 255]⟩ = ⟨#[98]⟩ ∧ beyondOk ⟨#[97, 255]⟩ = true) := ⟨by kernel_rfl, by kernel_rfl⟩
  have a3 : Hid (beyondB ⟨#[255]⟩ = ⟨#[]⟩ ∧ beyondOk ⟨#[255]⟩ = false) := ⟨by kernel_rfl, by kernel_rfl⟩
  have a4 : Hid ((⟨#[97]⟩ : ByteArray) ++ one 0 = ⟨#[97, 0]⟩) := by show _ = _; kernel_rfl
  have a5 : Hid (reachB ⟨#[97, 98]⟩ ⟨#[97, 97, 57]⟩ = true) := by show _ = _; kernel_rfl
  have a6 : Hid (reachB ⟨#[97, 98]⟩ ⟨#[97, 98, 122]⟩ = true) := by show _ = _; kernel_rfl
  have a7 : Hid (reachB ⟨#[97, 98]⟩ ⟨#[97, 99]⟩ = false) := by show _ = _; kernel_rfl
  have a8 : Hid (leastB ⟨#[97, 98]⟩ ⟨#[97, 97, 57]⟩ = ⟨#[97, 98]⟩) := by show _ = _; kernel_rfl
  have a9 : Hid (leastB ⟨#[97, 98]⟩ ⟨#[97, 98, 122]⟩ = ⟨#[97, 98, 122]⟩) := by show _ = _; kernel_rfl
  go_enter Try.func7, Try.ntmps7
  go_wp2_with fail
  refine (beyond_val _ (by decide) _).mono ?_
  rw [a1.out.1, a1.out.2]
  rintro e w1 ⟨rfl, hb1⟩
  go_wp2_with fail
  refine (beyond_val _ (by decide) _).mono ?_
  rw [a2.out.1, a2.out.2]
  rintro e w2 ⟨rfl, hb2⟩
  go_wp2_with fail
  refine (beyond_val _ (by decide) _).mono ?_
  rw [a3.out.1, a3.out.2]
  rintro e w3 ⟨rfl, hb3⟩
  go_wp2_with fail
  refine (after_any _ _ (by decide)).mono ?_
  rw [a4.out]
  rintro e w4 ⟨rfl, rfl⟩
  go_wp2_with fail
  refine (reaches_any _ _ _ (by decide) (by decide)).mono ?_
  rw [a5.out]
  rintro e w5 ⟨rfl, hb5⟩
  go_wp2_with fail
  refine (reaches_any _ _ _ (by decide) (by decide)).mono ?_
  rw [a6.out]
  rintro e w6 ⟨rfl, hb6⟩
  go_wp2_with fail
  refine (reaches_any _ _ _ (by decide) (by decide)).mono ?_
  rw [a7.out]
  rintro e w7 ⟨rfl, hb7⟩
  go_wp2_with fail
  refine (least_any _ _ _ (by decide) (by decide)).mono ?_
  rw [a8.out]
  rintro e w8 ⟨rfl, hb8⟩
  go_wp2_with fail
  refine (least_any _ _ _ (by decide) (by decide)).mono ?_
  rw [a9.out]
  rintro e w9 ⟨rfl, hb9⟩
  go_wp2_with fail
  go_ret
  exact ⟨rfl, Below.step (Below.step (Below.step (Below.step (Below.step (Below.step (Below.step hb1 hb2) hb3) hb5) hb6) hb7) hb8) hb9⟩

end Go.Proofs.Ytpklolidgegloaa
