/- Join, and the reference's. -/
import Derived.Test.YthkndfammlibpaaPlace
namespace Go.Proofs.Ythkndfammlibpaa
open Go.RowKit
set_option maxRecDepth 100000
set_option maxHeartbeats 2000000

theorem errno_any (t : Int) (s : ByteArray) (hs : s.size ≤ maxLen) (w : World) :
    Calls Try.prog 25 #[.agg #[.int .i64 t, .string s]] w fun e w' => e = .returned (.int .i64 (if tenant t = true then (if s.size ≤ 16 then 0 else 3) else 2)) ∧ Below w.heap.size w w' := by
  unfold maxLen at hs
  have HV := Lib.hid (valid_any t)
  obtain ⟨y, hy⟩ : ∃ y : Int, (if tenant t = true then (if s.size ≤ 16 then 0 else 3) else 2) = y := ⟨_, rfl⟩
  rw [hy]
  cases hv : tenant t
  · rw [hv] at HV hy
    obtain rfl : (2 : Int) = y := hy
    clear hv
    go_enter Try.func25, Try.ntmps25
    go_wp2_with (go_at_call 28; refine (HV.out _).mono ?_; rintro e w1 ⟨rfl, rfl⟩)
    go_ret
    exact ⟨rfl, (Below.refl _ _).alloc (Nat.le_refl _) _⟩
  · rw [hv] at HV hy
    by_cases hl : s.size ≤ 16
    · rw [if_pos rfl, if_pos hl] at hy
      subst hy
      have k1 : (s.size : Int) ≤ 16 := by omega
      clear hv hl
      go_enter Try.func25, Try.ntmps25
      go_wp2_with (go_at_call 28; refine (HV.out _).mono ?_; rintro e w1 ⟨rfl, rfl⟩)
      go_ret
      exact ⟨rfl, (Below.refl _ _).alloc (Nat.le_refl _) _⟩
    · rw [if_pos rfl, if_neg hl] at hy
      subst hy
      have k1 : (16 : Int) < (s.size : Int) := by omega
      clear hv hl
      go_enter Try.func25, Try.ntmps25
      go_wp2_with (go_at_call 28; refine (HV.out _).mono ?_; rintro e w1 ⟨rfl, rfl⟩)
      go_ret
      exact ⟨rfl, (Below.refl _ _).alloc (Nat.le_refl _) _⟩

theorem pre_size (t : Nat) : (pre t).size = 8 := by rw [← length_list]; rfl
theorem text_any (t : Nat) (ht : t ≤ 16) (s : ByteArray) (hs : s.size ≤ 16) (w : World) :
    Calls Try.prog 26 #[.agg #[.int .i64 (t : Int), .string s]] w fun e w' => e = .returned (.string (pre t ++ codeOf s)) ∧ Below w.heap.size w w' := by
  have HE := Lib.hid (fun W => encode_any s W hs)
  have HP := Lib.hid (prefix_any t ht)
  have z1 := encB_le s.data.toList
  have z3 := length_list s
  have z4 : (codeOf s).size = (encB s.data.toList).length + 2 := by
    rw [← length_list, show (codeOf s).data.toList = encB s.data.toList ++ [0, 0] from rfl]; simp
  have z5 := pre_size t
  obtain ⟨c, hc⟩ : ∃ c, codeOf s = c := ⟨_, rfl⟩
  have z6 : c.size ≤ 34 := by rw [← hc, z4]; omega
  rw [hc] at HE ⊢
  clear z1 z3 z4 hc
  go_enter Try.func26, Try.ntmps26
  go_wp2_with (first
    | (go_at_call 36; refine (HE.out _).mono ?_; rintro e w1 ⟨rfl, hb1⟩; have c1 : w1.cell? ⟨w.heap.size, 0, none⟩ = some (.int .i64 (t : Int)) := (block_below hb1 0 _ rfl).1)
    | (go_at_call 23; refine (HP.out _).mono ?_; rintro e w2 ⟨rfl, hb2⟩))
  go_ret
  exact ⟨rfl, (Below.step ((Below.refl _ _).alloc (Nat.le_refl _) _) hb1).trans (hb2.mono (by have := hb1.size; simp at this; omega))⟩
end Go.Proofs.Ythkndfammlibpaa
