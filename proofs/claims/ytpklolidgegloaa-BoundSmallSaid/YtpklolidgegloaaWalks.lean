/- The walks of the bound layer: the small functions. -/
import Derived.Test.YtpklolidgegloaaKit
namespace Go.Proofs.Ytpklolidgegloaa
open Go.RowKit
set_option maxRecDepth 100000
set_option maxHeartbeats 400000

theorem of_any (s : ByteArray) (w : World) :
    Calls Try.prog 25 #[.string s] w fun e w' => e = .returned (.agg #[.string s]) ∧ Below w.heap.size w w' := by
  go_enter Try.func25, Try.ntmps25
  go_wp2
  exact bodyPost_ret (v := .agg #[.string s]) (by simp [results, Try.results25, go_sem]) rfl ⟨rfl, (Below.refl _ _).alloc (Nat.le_refl _) _⟩

theorem field0 (x : ByteArray) (w : World) : (Instr.field 42 (.agg #[.string x]) 0).run Try.prog w = .ok (.string x) w := by kernel_rfl

theorem cutter_any (s : ByteArray) (w : World) :
    Calls Try.prog 26 #[.string s] w fun e w' => e = .returned (.func (.func 29) #[] #[.pointer (some ⟨w.heap.size, 0, none⟩)]) ∧ w' = w.alloc (.cells #[.string s] 40) := by
  go_enter Try.func26, Try.ntmps26
  have hmf := @makeFunc_run Try.prog
  go_wp2
  go_ret
  exact ⟨rfl, rfl⟩

theorem back_any (s : ByteArray) (w : World) :
    Calls Try.prog 27 #[.string s] w fun e w' => e = .returned (.func (.func 30) #[] #[.pointer (some ⟨w.heap.size, 0, none⟩)]) ∧ w' = w.alloc (.cells #[.string s] 40) := by
  go_enter Try.func27, Try.ntmps27
  have hmf := @makeFunc_run Try.prog
  go_wp2
  go_ret
  exact ⟨rfl, rfl⟩

/-- The first bytes of a string, as many as n says and there are. -/
def clipB (s : ByteArray) (n : Int) : ByteArray := s.extract 0 n.toNat

theorem cutter1_any (s : ByteArray) (n : Int) (w : World) (b : Nat) (hs : s.size ≤ maxLen) (hc : w.cell? ⟨b, 0, none⟩ = some (.string s)) :
    Calls Try.prog 29 #[.int .i64 n, .pointer (some ⟨b, 0, none⟩)] w fun e w' => e = .returned (.string (clipB s n)) ∧ w' = w := by
  unfold maxLen at hs
  have big : ∀ k, s.size ≤ k → s.extract 0 k = s := fun k hk => by
    apply bytes_ext; rw [extract_list]; simp; rw [List.take_of_length_le (by simpa using hk)]
  have BIG := Lib.hid big
  clear big
  rcases (show n < 0 ∨ (0 ≤ n ∧ n < s.size) ∨ (s.size : Int) ≤ n from by omega) with h1 | ⟨h1, h2⟩ | h1
  all_goals
    go_enter Try.func29, Try.ntmps29
    go_wp2
  all_goals
    go_ret
  all_goals
    refine ⟨ret_str ?_, rfl⟩
    unfold clipB
    first
      | rfl
      | (rw [show n.toNat = 0 by omega]; done)
      | (rw [show n.toNat = 0 by omega]; apply bytes_ext; rw [extract_list]; simp; done)
      | (rw [BIG.out n.toNat (by omega)]; done)
      | (rw [BIG.out n.toNat (by omega), BIG.out _ (by omega)]; done)
      | (rw [BIG.out n.toNat (by omega)]
         have hz : s.size = 0 := by split at * <;> omega
         have e : s.data.toList = [] := by rw [← List.length_eq_zero_iff]; simpa using hz
         apply bytes_ext
         rw [e]
         rfl)

theorem after_any (s : ByteArray) (w : World) (hs : s.size ≤ 1000000) :
    Calls Try.prog 13 #[.string s] w fun e w' => e = .returned (.string (s ++ one 0)) ∧ w' = w := by
  go_enter Try.func13, Try.ntmps13
  go_wp2
  go_ret
  exact ⟨rfl, rfl⟩

theorem clip_any (s : ByteArray) (n : Int) (w : World) (hs : s.size ≤ maxLen) :
    Calls Try.prog 17 #[.string s, .int .i64 n] w fun e w' => e = .returned (.string (clipB s n)) ∧ Below w.heap.size w w' := by
  have HS := Lib.hid hs
  clear hs
  have hfd := field0
  go_enter Try.func17, Try.ntmps17
  go_wp2_with (first | (go_at_call 25; refine (of_any _ _).mono ?_; rintro e w1 ⟨rfl, hb1⟩) | (go_at_call 26; refine (cutter_any _ _).mono ?_; rintro e w2 ⟨rfl, rfl⟩) | (go_at_call 29; refine (cutter1_any s n _ _ HS.out (by simp [go_sem])).mono ?_; rintro e w3 ⟨rfl, rfl⟩))
  go_ret
  exact ⟨rfl, Below.new hb1 _⟩

end Go.Proofs.Ytpklolidgegloaa
