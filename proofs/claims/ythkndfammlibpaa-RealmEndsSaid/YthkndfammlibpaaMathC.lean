/- Codes and keys. -/
import Derived.Test.YthkndfammlibpaaDec
namespace Go.Proofs.Ythkndfammlibpaa
open Go.RowKit Go.Shelf

theorem parse_code : ∀ (k t : List UInt8), parse (encB k ++ 0 :: 0 :: t) = some (k, t)
  | [], t => parse_fin (l := 0 :: 0 :: t) rfl
  | c :: k, t => by
    by_cases hc : c = 0
    · subst hc
      have h : encB (0 :: k) ++ 0 :: 0 :: t = 0 :: 1 :: (encB k ++ 0 :: 0 :: t) := by simp [encB]
      rw [h, parse_byte (c := 0) (t := encB k ++ 0 :: 0 :: t) rfl, parse_code k t]
      rfl
    · have h : encB (c :: k) ++ 0 :: 0 :: t = c :: (encB k ++ 0 :: 0 :: t) := by simp [encB, hc]
      rw [h, parse_byte (c := c) (t := encB k ++ 0 :: 0 :: t) (by simp [met, hc]), parse_code k t]
      rfl
theorem code_parse (n : Nat) : ∀ (l k t : List UInt8), l.length ≤ n → parse l = some (k, t) → l = encB k ++ 0 :: 0 :: t := by
  induction n with
  | zero =>
    intro l k t h hp
    obtain rfl : l = [] := by cases l <;> simp_all
    rw [parse_broken rfl] at hp
    cases hp
  | succ n ih =>
    intro l k t h hp
    cases hm : met l with
    | broken => rw [parse_broken hm] at hp; cases hp
    | fin u =>
      rw [parse_fin hm] at hp
      cases hp
      exact met_fin hm
    | byte c u =>
      rw [parse_byte hm] at hp
      cases hq : parse u with
      | none => rw [hq] at hp; cases hp
      | some p =>
        obtain ⟨k', t'⟩ := p
        rw [hq] at hp
        cases hp
        have hu : u.length ≤ n := by rcases met_byte hm with ⟨_, rfl⟩ | ⟨_, rfl⟩ <;> simp at h <;> omega
        have := ih u k' t' hu hq
        rcases met_byte hm with ⟨rfl, rfl⟩ | ⟨hc, rfl⟩
        · rw [this]; simp [encB]
        · rw [this]; simp [encB, hc]
theorem keyL_code {k : List UInt8} (h : k.length ≤ 16) : keyL (encB k ++ [0, 0]) = some k := by
  rw [keyL, parse_code k []]
  simp [h]
theorem keyL_some {l k : List UInt8} (h : keyL l = some k) : l = encB k ++ [0, 0] ∧ k.length ≤ 16 := by
  unfold keyL at h
  split at h
  case h_1 k' hp =>
    split at h
    case isTrue h2 => cases h; exact ⟨code_parse _ _ _ _ (Nat.le_refl _) hp, h2⟩
    case isFalse => cases h
  case h_2 => cases h
theorem bz_list (s : ByteArray) : bz s.data.toList = s := bytes_ext rfl
theorem codeOf_bz (s : ByteArray) : codeOf s = bz (encB s.data.toList ++ [0, 0]) := rfl

theorem keyL_a : keyL [97] = none := by rw [keyL, parse_byte (c := 97) (t := []) rfl, parse_broken rfl]; rfl
theorem keyL_b : keyL [97, 0] = none := by rw [keyL, parse_byte (c := 97) (t := [0]) rfl, parse_broken rfl]; rfl
theorem keyL_c : keyL [97, 0, 2] = none := by rw [keyL, parse_byte (c := 97) (t := [0, 2]) rfl, parse_broken rfl]; rfl
theorem keyL_d : keyL [0, 0, 0] = none := by rw [keyL, parse_fin (t := [0]) rfl]

set_option maxRecDepth 100000
set_option maxHeartbeats 2000000
/-- Whether a text is a code. -/
def isCode (l : List UInt8) : Bool := (keyL l).isSome
theorem decodeD_any (s : ByteArray) (hs : s.size ≤ 1000000) (w : World) :
    Calls Try.prog 27 #[.string s] w fun e w' => e = .returned (.tuple #[.string (bz ((keyL s.data.toList).getD [])), .int .i64 (if isCode s.data.toList = true then 0 else 4)]) ∧ Below w.heap.size w w' := by
  have H := Lib.hid (decode_in s.data.toList (by rw [length_list]; exact hs))
  have H : Hid (∀ W : World, Calls Try.prog 37 #[.string s] W fun e w' => e = .returned (.tuple #[.string (bz ((keyL s.data.toList).getD [])), .int .i64 (if isCode s.data.toList = true then 0 else 4)]) ∧ Below W.heap.size W w') := Lib.hid fun W => by
    refine (bz_list s ▸ H.out W).mono ?_
    rintro e w' ⟨rfl, hb⟩
    refine ⟨?_, hb⟩
    rw [decOf, isCode]
    cases keyL s.data.toList <;> rfl
  obtain ⟨x, hx⟩ : ∃ x, bz ((keyL s.data.toList).getD []) = x := ⟨_, rfl⟩
  obtain ⟨y, hy⟩ : ∃ y : Int, (if isCode s.data.toList = true then 0 else 4) = y := ⟨_, rfl⟩
  rw [hx, hy] at H ⊢
  go_enter Try.func27, Try.ntmps27
  go_wp2_with (go_at_call 37; refine (H.out _).mono ?_; rintro e w1 ⟨rfl, hb1⟩)
  go_ret2
  exact ⟨rfl, hb1⟩
end Go.Proofs.Ythkndfammlibpaa
