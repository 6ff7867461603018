/- Owners of paths; the examples of the chapter. -/
import Derived.Test.YthkndfammlibpaaSplit
namespace Go.Proofs.Ythkndfammlibpaa
open Go.RowKit
set_option maxRecDepth 100000
set_option maxHeartbeats 2000000

theorem preL_inj {j k : Nat} (hj : j ≤ 17) (hk : k ≤ 17) (h : preL j = preL k) : j = k := by
  have h2 : UInt8.ofNat j = UInt8.ofNat k := by simpa [preL] using h
  have := congrArg UInt8.toNat h2
  rw [UInt8.toNat_ofNat', UInt8.toNat_ofNat', Nat.mod_eq_of_lt (by omega), Nat.mod_eq_of_lt (by omega)] at this
  exact this
theorem begins_list (s : ByteArray) (k : Nat) : begins s (pre k) = decide (preL k <+: s.data.toList) := by
  have := begins_bz s.data.toList (preL k)
  rw [bz_list] at this
  exact this
theorem begins_same {s : ByteArray} {j k : Nat} (hj : j ≤ 17) (hk : k ≤ 17) (h1 : begins s (pre j) = true) (h2 : begins s (pre k) = true) : j = k := by
  rw [begins_list, decide_eq_true_eq, List.prefix_iff_eq_take] at h1 h2
  exact preL_inj hj hk (h1.trans h2.symm)
theorem ownerOf_of {s : ByteArray} {k : Nat} (h1 : 1 ≤ k) (h2 : k ≤ 16) (h : begins s (pre k) = true) : ownerOf s = some k := by
  refine find_some (fun k => begins s (pre k)) k h1 h (fun j j1 j2 => ?_) 16 h2
  cases hb : begins s (pre j) with
  | false => rfl
  | true => have := begins_same (by omega) (by omega) hb h; omega
theorem upN_mem {x : Nat} : ∀ {m : Nat}, x ∈ upN m → 1 ≤ x ∧ x ≤ m
  | 0, h => by simp [upN] at h
  | m + 1, h => by
    rw [upN, List.mem_append] at h
    rcases h with h | h
    · have := upN_mem h; omega
    · simp at h; omega
theorem ownerOf_some {s : ByteArray} {k : Nat} (h : ownerOf s = some k) : 1 ≤ k ∧ k ≤ 16 ∧ begins s (pre k) = true :=
  ⟨(upN_mem (List.mem_of_find?_eq_some h)).1, (upN_mem (List.mem_of_find?_eq_some h)).2, find_sound _ h⟩
theorem begins_path (k : Nat) (x : ByteArray) : begins (pre k ++ x) (pre k) = true := by
  rw [begins_list, decide_eq_true_eq, append_list]
  exact List.prefix_append _ _
theorem split_path {k : Nat} (h1 : 1 ≤ k) (h2 : k ≤ 16) (s : ByteArray) (hs : s.size ≤ 16) : splitV (pre k ++ codeOf s) = .tuple #[.int .i64 (k : Int), .string s, .int .i64 0] := by
  have hd : (pre k ++ codeOf s).data.toList.drop 8 = encB s.data.toList ++ [0, 0] := by rw [append_list]; rfl
  rw [splitV, ownerOf_of h1 h2 (begins_path k _)]
  simp only [hd, keyL_code (k := s.data.toList) (by rw [length_list]; exact hs), bz_list]
theorem path_back {s : ByteArray} {k : Nat} {xs : List UInt8} (ho : ownerOf s = some k) (hk : keyL (s.data.toList.drop 8) = some xs) : s = pre k ++ codeOf (bz xs) ∧ xs.length ≤ 16 := by
  obtain ⟨h1, h2, h3⟩ := ownerOf_some ho
  obtain ⟨e1, e2⟩ := keyL_some hk
  refine ⟨bytes_ext ?_, e2⟩
  rw [begins_list, decide_eq_true_eq, List.prefix_iff_eq_take] at h3
  rw [append_list, show (codeOf (bz xs)).data.toList = encB xs ++ [0, 0] from rfl, ← e1, show (pre k).data.toList = preL k from rfl, h3]
  exact (List.take_append_drop 8 _).symm

theorem awake_any (w : World) : Calls Try.prog 7 #[] w fun e w' => e = .returned (.bool true) ∧ Below w.heap.size w w' := by
  have HP : Hid (∀ W : World, Calls Try.prog 14 #[.int .i64 3] W fun e w' => e = .returned (.tuple #[.string ⟨#[0, 0, 0, 0, 0, 0, 0, 3]⟩, .int .i64 0]) ∧ Below W.heap.size W w') := Lib.hid fun W => prefixD_any 3 W
  have HJ : Hid (∀ W : World, Calls Try.prog 12 #[.int .i64 3, .string ⟨#[97]⟩] W fun e w' => e = .returned (.tuple #[.string ⟨#[0, 0, 0, 0, 0, 0, 0, 3, 97, 0, 0]⟩, .int .i64 0]) ∧ Below W.heap.size W w') := Lib.hid fun W => join_any 3 ⟨#[97]⟩ (by decide) W
  have HR : Hid (∀ W : World, Calls Try.prog 11 #[.int .i64 3] W fun e w' => e = .returned (.tuple #[.string ⟨#[0, 0, 0, 0, 0, 0, 0, 3]⟩, .string ⟨#[0, 0, 0, 0, 0, 0, 0, 4]⟩, .int .i64 0]) ∧ Below W.heap.size W w') := Lib.hid fun W => range_any 3 W
  have HS : Hid (∀ W : World, Calls Try.prog 13 #[.string ⟨#[0, 0, 0, 0, 0, 0, 0, 3, 97, 0, 0]⟩] W fun e w' => e = .returned (.tuple #[.int .i64 3, .string ⟨#[97]⟩, .int .i64 0]) ∧ Below W.heap.size W w') := Lib.hid fun W => by
    have h := split_any (pre 3 ++ codeOf ⟨#[97]⟩) (by decide) W
    rw [split_path (by omega) (by omega) _ (by decide)] at h
    exact h
  have hcat : (⟨#[0, 0, 0, 0, 0, 0, 0, 3]⟩ : ByteArray) ++ ⟨#[97, 0, 0]⟩ = ⟨#[0, 0, 0, 0, 0, 0, 0, 3, 97, 0, 0]⟩ := rfl
  go_enter Try.func7, Try.ntmps7
  go_wp2_with (first
    | (go_at_call 14; with_reducible refine (HP.out _).mono ?_; rintro e w1 ⟨rfl, hb1⟩)
    | (go_at_call 12; with_reducible refine (HJ.out _).mono ?_; rintro e w2 ⟨rfl, hb2⟩)
    | (go_at_call 11; with_reducible refine (HR.out _).mono ?_; rintro e w3 ⟨rfl, hb3⟩)
    | (go_at_call 13; with_reducible refine (HS.out _).mono ?_; rintro e w4 ⟨rfl, hb4⟩))
  go_ret
  exact ⟨rfl, Below.step (Below.step (Below.step hb1 hb2) hb3) hb4⟩
end Go.Proofs.Ythkndfammlibpaa
