/- The walk of the law CodeBack. -/
import Derived.Test.YtdogeimgaebnjaaAwake
namespace Go.Proofs.Ytdogeimgaebnjaa
open Go.RowKit Go.Shelf
set_option maxRecDepth 100000
set_option maxHeartbeats 2000000

theorem codeL_list (s : ByteArray) : (codeOf s).data.toList = encB s.data.toList ++ [0, 0] := rfl
theorem codeOf_size (s : ByteArray) : (codeOf s).size = (encB s.data.toList).length + 2 := by
  rw [← length_list, codeL_list]; simp
theorem encB_ge : ∀ l : List UInt8, l.length ≤ (encB l).length
  | [] => by simp [encB]
  | c :: l => by
    have := encB_ge l
    simp only [encB, List.length_append, List.length_cons]
    split <;> simp <;> omega
theorem decode_back (s : ByteArray) (hs : s.size ≤ 16) (W : World) : Calls Try.prog 12 #[.string (codeOf s)] W fun e w' => e = .returned (.tuple #[.string s, .int .i64 0]) ∧ Below W.heap.size W w' := by
  have h1 := encB_le s.data.toList
  have h3 := length_list s
  have h := decodeD_any (codeOf s) (by rw [codeOf_size]; omega) W
  rw [isCode, codeL_list, keyL_code (by rw [length_list]; exact hs)] at h
  simp only [Option.isSome_some, if_pos, Option.getD_some] at h
  rw [bz_list] at h
  exact h
theorem is_code (s : ByteArray) (hs : s.size ≤ 16) (W : World) : Calls Try.prog 13 #[.string (codeOf s)] W fun e w' => e = .returned (.bool true) ∧ Below W.heap.size W w' := by
  have h1 := encB_le s.data.toList
  have h3 := length_list s
  have h := is_any (codeOf s) (by rw [codeOf_size]; omega) W
  rw [isCode, codeL_list, keyL_code (by rw [length_list]; exact hs)] at h
  exact h

theorem codeBack_any (s : ByteArray) (w : World) (hs : s.size ≤ maxLen) :
    Calls Try.prog 5 #[.string s] w fun e w' => e = .returned (.bool true) ∧ Below w.heap.size w w' := by
  by_cases hb : 1000 < s.size
  · have k1 : (1000 : Int) < (s.size : Int) := by omega
    go_enter Try.func5, Try.ntmps5
    go_wp2_with (go_at_call 7; refine (awake_any _).mono ?_; rintro e w1 ⟨rfl, hb1⟩)
    go_ret
    exact ⟨rfl, hb1⟩
  have k1 : (s.size : Int) ≤ 1000 := by omega
  by_cases hl : 16 < s.size
  · have k2 : (16 : Int) < (s.size : Int) := by omega
    have HE := Lib.hid (fun W => encode_long s W hl hs)
    go_enter Try.func5, Try.ntmps5
    go_wp2_with (first
      | (go_at_call 7; refine (awake_any _).mono ?_; rintro e w1 ⟨rfl, hb1⟩)
      | (go_at_call 11; refine (HE.out _).mono ?_; rintro e w2 ⟨rfl, hb2⟩))
    go_ret
    exact ⟨rfl, hb1.next hb2⟩
  have k2 : (s.size : Int) ≤ 16 := by omega
  have hle : s.size ≤ 16 := by omega
  have HE := Lib.hid (fun W => encode_any s W hle)
  have HD := Lib.hid (decode_back s hle)
  have HI := Lib.hid (is_code s hle)
  have z1 := encB_le s.data.toList
  have z2 := encB_ge s.data.toList
  have z3 := length_list s
  have z4 := codeOf_size s
  have HX := Lib.hid (decodeD_any s (by omega))
  have HJ := Lib.hid (is_any s (by omega))
  obtain ⟨c, hc⟩ : ∃ c, codeOf s = c := ⟨_, rfl⟩
  have m1 : (c.size : Int) ≤ 34 := by rw [← hc, z4]; omega
  have m2 : (s.size : Int) + 2 ≤ (c.size : Int) := by rw [← hc, z4]; omega
  rw [hc] at HE HD HI
  cases hk : keyL s.data.toList with
  | none =>
    simp only [isCode, hk, Option.isSome_none, Bool.false_eq_true, if_false, Option.getD_none] at HX HJ
    clear z1 z2 z3 z4 hc hk hb hl hs
    go_enter Try.func5, Try.ntmps5
    go_wp2_with (first
      | (go_at_call 7; refine (awake_any _).mono ?_; rintro e w1 ⟨rfl, hb1⟩)
      | (go_at_call 11; with_reducible refine (HE.out _).mono ?_; rintro e w2 ⟨rfl, hb2⟩)
      | (go_at_call 12; with_reducible refine (HD.out _).mono ?_; rintro e w3 ⟨rfl, hb3⟩)
      | (go_at_call 13; with_reducible refine (HI.out _).mono ?_; rintro e w4 ⟨rfl, hb4⟩)
      | (go_at_call 12; with_reducible refine (HX.out _).mono ?_; rintro e w5 ⟨rfl, hb5⟩)
      | (go_at_call 13; with_reducible refine (HJ.out _).mono ?_; rintro e w6 ⟨rfl, hb6⟩))
    go_ret
    exact ⟨rfl, ((((hb1.next hb2).next hb3).next hb4).next hb5).next hb6⟩
  | some k =>
    obtain ⟨e1, e2⟩ := keyL_some hk
    have hE2 : ∀ W, Calls Try.prog 11 #[.string (bz k)] W fun e w' => e = .returned (.tuple #[.string s, .int .i64 0]) ∧ Below W.heap.size W w' := fun W => by
      have h := encode_any (bz k) W (by rw [bz_size]; exact e2)
      rw [codeOf_bz, show (bz k).data.toList = k from rfl, ← e1, bz_list] at h
      exact h
    have HE2 := Lib.hid hE2
    simp only [isCode, hk, Option.isSome_some, if_pos, Option.getD_some] at HX HJ
    clear z1 z2 z3 z4 hc hk hb hl hs e1 e2 hE2
    go_enter Try.func5, Try.ntmps5
    go_wp2_with (first
      | (go_at_call 7; refine (awake_any _).mono ?_; rintro e w1 ⟨rfl, hb1⟩)
      | (go_at_call 11; with_reducible refine (HE.out _).mono ?_; rintro e w2 ⟨rfl, hb2⟩)
      | (go_at_call 12; with_reducible refine (HD.out _).mono ?_; rintro e w3 ⟨rfl, hb3⟩)
      | (go_at_call 13; with_reducible refine (HI.out _).mono ?_; rintro e w4 ⟨rfl, hb4⟩)
      | (go_at_call 12; with_reducible refine (HX.out _).mono ?_; rintro e w5 ⟨rfl, hb5⟩)
      | (go_at_call 11; with_reducible refine (HE2.out _).mono ?_; rintro e w6 ⟨rfl, hb6⟩))
    go_ret
    exact ⟨rfl, ((((hb1.next hb2).next hb3).next hb4).next hb5).next hb6⟩
end Go.Proofs.Ytdogeimgaebnjaa
