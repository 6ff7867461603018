/- The walk of Split. -/
import Derived.Test.YthkndfammlibpaaOwner
namespace Go.Proofs.Ythkndfammlibpaa
open Go.RowKit
set_option maxRecDepth 100000
set_option maxHeartbeats 2000000

theorem find_sound (f : Nat → Bool) {k : Nat} (h : firstOf f = some k) : f k = true := List.find?_some h
theorem owner_size {s : ByteArray} {k : Nat} (h : ownerOf s = some k) : 8 ≤ s.size := by
  have := find_sound _ h
  have h2 := begins_le this
  rw [pre_size] at h2
  exact h2

/-- The value of Split. -/
def splitV (s : ByteArray) : Value := match ownerOf s with
  | none => .tuple #[.int .i64 0, .string ⟨#[]⟩, .int .i64 4]
  | some k => match keyL (s.data.toList.drop 8) with
    | none => .tuple #[.int .i64 0, .string ⟨#[]⟩, .int .i64 4]
    | some xs => .tuple #[.int .i64 (k : Int), .string (bz xs), .int .i64 0]
theorem split_any (s : ByteArray) (hs : s.size ≤ 1000000) (w : World) :
    Calls Try.prog 13 #[.string s] w fun e w' => e = .returned (splitV s) ∧ Below w.heap.size w w' := by
  have HO := Lib.hid (owner_any s)
  cases ho : ownerOf s with
  | none =>
    have HV : Hid (splitV s = .tuple #[.int .i64 0, .string ⟨#[]⟩, .int .i64 4]) := by show _ = _; rw [splitV, ho]
    rw [show ownerV s = .tuple #[.int .i64 0, .bool false] from by rw [ownerV, ho]] at HO
    go_enter Try.func13, Try.ntmps13
    go_wp2_with (go_at_call 10; refine (HO.out _).mono ?_; rintro e w1 ⟨rfl, hb1⟩)
    exact bodyPost_ret (v := splitV s) (by rw [HV.out]; simp [results, Try.results13, go_sem]) rfl ⟨rfl, hb1⟩
  | some k =>
    have h8 := owner_size ho
    rw [show ownerV s = .tuple #[.int .i64 (k : Int), .bool true] from by rw [ownerV, ho]] at HO
    have g1 : (8 : Int) ≤ (s.size : Int) := by omega
    obtain ⟨x, hx⟩ : ∃ x, s.extract 8 s.size = x := ⟨_, rfl⟩
    have hxl : x.data.toList = s.data.toList.drop 8 := by
      rw [← hx, extract_list, List.take_of_length_le (by simp)]
    have hxs : x.size ≤ 1000000 := by rw [← hx, ByteArray.size_extract]; omega
    have HD := decodeD_any x hxs
    rw [hxl] at HD
    have HX := Lib.hid hx
    cases hk : keyL (s.data.toList.drop 8) with
    | none =>
      have HV : Hid (splitV s = .tuple #[.int .i64 0, .string ⟨#[]⟩, .int .i64 4]) := by show _ = _; rw [splitV, ho]; simp only [hk]
      simp only [isCode, hk, Option.isSome_none, Bool.false_eq_true, if_false, Option.getD_none] at HD
      have HD := Lib.hid HD
      clear hx hxl hk ho
      go_enter Try.func13, Try.ntmps13
      go_wp2_with (first
        | (go_at_call 10; refine (HO.out _).mono ?_; rintro e w1 ⟨rfl, hb1⟩)
        | (go_at_call 27; rw [HX.out]; refine (HD.out _).mono ?_; rintro e w2 ⟨rfl, hb2⟩))
      exact bodyPost_ret (v := splitV s) (by rw [HV.out]; simp [results, Try.results13, go_sem]) rfl ⟨rfl, Below.step hb1 hb2⟩
    | some xs =>
      have HV : Hid (splitV s = .tuple #[.int .i64 (k : Int), .string (bz xs), .int .i64 0]) := by show _ = _; rw [splitV, ho]; simp only [hk]
      simp only [isCode, hk, Option.isSome_some, if_pos, Option.getD_some] at HD
      have HD := Lib.hid HD
      clear hx hxl hk ho
      go_enter Try.func13, Try.ntmps13
      go_wp2_with (first
        | (go_at_call 10; refine (HO.out _).mono ?_; rintro e w1 ⟨rfl, hb1⟩)
        | (go_at_call 27; rw [HX.out]; refine (HD.out _).mono ?_; rintro e w2 ⟨rfl, hb2⟩))
      exact bodyPost_ret (v := splitV s) (by rw [HV.out]; simp [results, Try.results13, go_sem]) rfl ⟨rfl, Below.step hb1 hb2⟩
end Go.Proofs.Ythkndfammlibpaa
