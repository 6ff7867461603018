/- The walk of the law CodeTells. -/
import Derived.Test.YtdogeimgaebnjaaRefD
namespace Go.Proofs.Ytdogeimgaebnjaa
open Go.RowKit Go.Shelf
set_option maxRecDepth 100000
set_option maxHeartbeats 2000000

theorem tells_any (s : ByteArray) (hs : s.size ≤ 1000) (w : World) :
    Calls Try.prog 8 #[.string s] w fun e w' => e = .returned (.bool true) ∧ Below w.heap.size w w' := by
  obtain ⟨b, v, hE, hF⟩ : ∃ (b : ByteArray) (v : Int), (∀ W : World, Calls Try.prog 11 #[.string s] W fun e w' => e = .returned (.tuple #[.string b, .int .i64 v]) ∧ Below W.heap.size W w') ∧
      (∀ W : World, Calls Try.prog 14 #[.string s] W fun e w' => e = .returned (.tuple #[.string b, .int .i64 v]) ∧ w' = W) := by
    by_cases h : 16 < s.size
    · exact ⟨_, _, fun W => encode_long s W h (by unfold maxLen; omega), fun W => rencode_long s W h (by unfold maxLen; omega)⟩
    · exact ⟨_, _, fun W => encode_any s W (by omega), fun W => rencode_any s W (by omega)⟩
  obtain ⟨d, hd⟩ : ∃ d, bz ((keyL s.data.toList).getD []) = d := ⟨_, rfl⟩
  have HE := Lib.hid hE
  have HF := Lib.hid hF
  have HI := Lib.hid (is_any s (by omega))
  obtain ⟨u, hu⟩ : ∃ u, isCode s.data.toList = u := ⟨_, rfl⟩
  have hdec : decOf s.data.toList = .tuple #[.string d, .int .i64 (if u = true then 0 else 4)] := by
    rw [← hd, ← hu, decOf, isCode]
    cases keyL s.data.toList <;> rfl
  have HD := decodeD_any s (by omega)
  have HR := rdecode_any s hs
  rw [hdec] at HR
  simp only [hd, hu] at HD HR HI
  clear hE hF hdec hd hu
  cases u
  all_goals
    simp only [Bool.false_eq_true, if_false, if_pos] at HD HR
    have HD := Lib.hid HD
    have HR := Lib.hid HR
    go_enter Try.func8, Try.ntmps8
    go_wp2_with (first
      | (go_at_call 11; with_reducible refine (HE.out _).mono ?_; rintro e w1 ⟨rfl, hb1⟩)
      | (go_at_call 14; with_reducible refine (HF.out _).mono ?_; rintro e w2 ⟨rfl, rfl⟩)
      | (go_at_call 12; with_reducible refine (HD.out _).mono ?_; rintro e w3 ⟨rfl, hb3⟩)
      | (go_at_call 15; with_reducible refine (HR.out _).mono ?_; rintro e w4 ⟨rfl, rfl⟩)
      | (go_at_call 13; with_reducible refine (HI.out _).mono ?_; rintro e w5 ⟨rfl, hb5⟩))
    go_ret
    exact ⟨rfl, (hb1.next hb3).next hb5⟩

theorem codeTells_any (s t : ByteArray) (w : World) (hs : s.size ≤ maxLen) (ht : t.size ≤ maxLen) :
    Calls Try.prog 3 #[.string s, .string t] w fun e w' => e = .returned (.bool true) ∧ Below w.heap.size w w' := by
  unfold maxLen at hs ht
  by_cases h1 : 1000 < s.size
  · have k1 : (1000 : Int) < (s.size : Int) := by omega
    go_enter Try.func3, Try.ntmps3
    go_wp2_with (go_at_call 7; refine (awake_any _).mono ?_; rintro e w1 ⟨rfl, hb1⟩)
    go_ret
    exact ⟨rfl, hb1⟩
  have k1 : (s.size : Int) ≤ 1000 := by omega
  by_cases h2 : 1000 < t.size
  · have k2 : (1000 : Int) < (t.size : Int) := by omega
    go_enter Try.func3, Try.ntmps3
    go_wp2_with (go_at_call 7; refine (awake_any _).mono ?_; rintro e w1 ⟨rfl, hb1⟩)
    go_ret
    exact ⟨rfl, hb1⟩
  have k2 : (t.size : Int) ≤ 1000 := by omega
  have HS := Lib.hid (tells_any s (by omega))
  have HT := Lib.hid (tells_any t (by omega))
  obtain ⟨x, hx⟩ : ∃ x, Op.bytesLess s.toList t.toList = x := ⟨_, rfl⟩
  have HL := Lib.hid (less_any s t)
  have HM := Lib.hid (fun W => rless_any s t W (by omega))
  rw [hx] at HL HM
  cases x
  all_goals
    go_enter Try.func3, Try.ntmps3
    go_wp2_with (first
      | (go_at_call 8; with_reducible refine (HS.out _).mono ?_; rintro e w1 ⟨rfl, hb1⟩)
      | (go_at_call 8; with_reducible refine (HT.out _).mono ?_; rintro e w2 ⟨rfl, hb2⟩)
      | (go_at_call 9; with_reducible refine (HL.out _).mono ?_; rintro e w3 ⟨rfl, rfl⟩)
      | (go_at_call 10; with_reducible refine (HM.out _).mono ?_; rintro e w4 ⟨rfl, hb4⟩)
      | (go_at_call 7; refine (awake_any _).mono ?_; rintro e w5 ⟨rfl, hb5⟩))
    go_ret
    exact ⟨rfl, ((hb1.next hb2).next hb4).next hb5⟩
end Go.Proofs.Ytdogeimgaebnjaa
