/- The walks of the bound layer: the small functions. -/
import Derived.Test.YthkndfammlibpaaKit
namespace Go.Proofs.Ythkndfammlibpaa.Bd
open Go.Proofs.Ythkndfammlibpaa
open Go.RowKit
set_option maxRecDepth 100000
set_option maxHeartbeats 400000

theorem of_any (s : ByteArray) (w : World) :
    Calls Try.prog 33 #[.string s] w fun e w' => e = .returned (.agg #[.string s]) ∧ Below w.heap.size w w' := by
  go_enter Try.func33, Try.ntmps33
  go_wp2
  exact bodyPost_ret (v := .agg #[.string s]) (by simp [results, Try.results33, go_sem]) rfl ⟨rfl, (Below.refl _ _).alloc (Nat.le_refl _) _⟩

theorem field0 (x : ByteArray) (w : World) : (Instr.field 57 (.agg #[.string x]) 0).run Try.prog w = .ok (.string x) w := by kernel_rfl

theorem cutter_any (s : ByteArray) (w : World) :
    Calls Try.prog 34 #[.string s] w fun e w' => e = .returned (.func (.func 39) #[] #[.pointer (some ⟨w.heap.size, 0, none⟩)]) ∧ w' = w.alloc (.cells #[.string s] 55) := by
  go_enter Try.func34, Try.ntmps34
  have hmf := @makeFunc_run Try.prog
  go_wp2
  go_ret
  exact ⟨rfl, rfl⟩

theorem back_any (s : ByteArray) (w : World) :
    Calls Try.prog 35 #[.string s] w fun e w' => e = .returned (.func (.func 40) #[] #[.pointer (some ⟨w.heap.size, 0, none⟩)]) ∧ w' = w.alloc (.cells #[.string s] 55) := by
  go_enter Try.func35, Try.ntmps35
  have hmf := @makeFunc_run Try.prog
  go_wp2
  go_ret
  exact ⟨rfl, rfl⟩

/-- The first bytes of a string, as many as n says and there are. -/
def clipB (s : ByteArray) (n : Int) : ByteArray := s.extract 0 n.toNat

theorem cutter1_any (s : ByteArray) (n : Int) (w : World) (b : Nat) (hs : s.size ≤ maxLen) (hc : w.cell? ⟨b, 0, none⟩ = some (.string s)) :
    Calls Try.prog 39 #[.int .i64 n, .pointer (some ⟨b, 0, none⟩)] w fun e w' => e = .returned (.string (clipB s n)) ∧ w' = w := by
  unfold maxLen at hs
  have big : ∀ k, s.size ≤ k → s.extract 0 k = s := fun k hk => by
    apply bytes_ext; rw [extract_list]; simp; rw [List.take_of_length_le (by simpa using hk)]
  have BIG := Lib.hid big
  clear big
  rcases (show n < 0 ∨ (0 ≤ n ∧ n < s.size) ∨ (s.size : Int) ≤ n from by omega) with h1 | ⟨h1, h2⟩ | h1
  all_goals
    go_enter Try.func39, Try.ntmps39
    go_wp2
  all_goals
    go_ret
  all_goals
    refine ⟨ret_str ?_, rfl⟩
    unfold clipB
    first
      | rfl
      | (rw [show n.toNat = 0 by omega]; done)
      | (rw [show n.toNat = 0 by omega]; apply bytes_ext; rw [extract_list]; simp; done)
      | (rw [BIG.out n.toNat (by omega)]; done)
      | (rw [BIG.out n.toNat (by omega), BIG.out _ (by omega)]; done)
      | (rw [BIG.out n.toNat (by omega)]
         have hz : s.size = 0 := by split at * <;> omega
         have e : s.data.toList = [] := by rw [← List.length_eq_zero_iff]; simpa using hz
         apply bytes_ext
         rw [e]
         rfl)

end Go.Proofs.Ythkndfammlibpaa.Bd
