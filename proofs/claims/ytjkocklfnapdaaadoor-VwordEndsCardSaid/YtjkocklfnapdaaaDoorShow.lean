/- The text of a word. -/
import Derived.Test.YtjkocklfnapdaaaDoorFormat
namespace Go.Proofs.YtjkocklfnapdaaaDoor
open Go.RowKit
set_option maxRecDepth 100000
set_option maxHeartbeats 1000000

/-- The text of word number m: its version's numeral, '+' where it is locked, 'x' where it is dead. -/
def showL (m : Nat) : List UInt8 := Lib.decDigits (m / 4) ++ (if m % 2 = 1 then [43] else []) ++ (if m / 2 % 2 = 1 then [120] else [])
def showB (m : Nat) : ByteArray := ⟨(showL m).toArray⟩

theorem ret_str {a b : ByteArray} (h : a = b) : Ending.returned (.string a) = .returned (.string b) := by rw [h]
theorem bytes_ext {a b : ByteArray} (h : a.data.toList = b.data.toList) : a = b := by
  cases a; cases b; simp at h; rw [h]
theorem showB_list (m : Nat) : (showB m).data.toList = showL m := by simp [showB]

theorem dec_size (u : Nat) (h : u < 18446744073709551616) : (⟨(Lib.decDigits u).toArray⟩ : ByteArray).size ≤ 20 := by
  show ((Lib.decDigits u).toArray).size ≤ 20
  rw [List.size_toArray, Lib.decDigits_length]
  by_cases h0 : u = 0
  · subst h0; simp [Lib.nDigits]
  · have := Lib.numDigits_eq u (by omega) h; split at this <;> omega

theorem cell_new_below {w1 w5 : World} {v : Value} {T : TypeId} (hb : Below (w1.alloc (.cells #[v] T)).heap.size (w1.alloc (.cells #[v] T)) w5) : w5.cell? ⟨w1.heap.size, 0, none⟩ = some v := by
  rw [hb.cell (p := ⟨w1.heap.size, 0, none⟩) (by simp)]
  simp [go_sem]

theorem show_any (m : Nat) (w : World) (h : m < 18446744073709551616) (htab : Tab w) :
    Calls Tryd.prog 23 #[.int .u64 m] w fun e w' => e = .returned (.string (showB m)) ∧ Below w.heap.size w w' := by
  have H : Hid (W64 (m : Int)) := ⟨by omega, by omega⟩
  have HT := Lib.hid htab
  clear htab
  have hv : ((m : Int) / 4) = ((m / 4 : Nat) : Int) := by omega
  have HV := Lib.hid hv
  clear hv
  have HM : Hid (m / 4 < 18446744073709551616) := by show _ < _; omega
  have hsz := dec_size (m / 4) HM.out
  generalize hd : (⟨(Lib.decDigits (m / 4)).toArray⟩ : ByteArray) = D at *
  have HD := Lib.hid hd
  clear hd h
  have hfd := field0
  rcases (show (m % 2 = 0 ∨ m % 2 = 1) ∧ (m / 2 % 2 = 0 ∨ m / 2 % 2 = 1) from by omega) with ⟨h1 | h1, h2 | h2⟩
  all_goals
    have d1 : ((m : Int) % 2 != 0) = decide (m % 2 = 1) := by rw [Bool.eq_iff_iff]; simp; omega
    have d2 : ((m : Int) / 2 % 2 != 0) = decide (m / 2 % 2 = 1) := by rw [Bool.eq_iff_iff]; simp; omega
    rw [h1] at d1
    rw [h2] at d2
    simp only [Nat.zero_ne_one, Nat.one_ne_zero, decide_true, decide_false] at d1 d2
    have H1 := Lib.hid h1
    have H2 := Lib.hid h2
    clear h1 h2
    go_enter Tryd.func23, Tryd.ntmps23
    go_wp2_with (first
      | (go_at_call 29; refine (of_any _ _).mono ?_; rintro e w1 ⟨rfl, hb1⟩)
      | (go_at_call 39; refine (bversion_any _ _ H.out).mono ?_; rintro e w2 ⟨rfl, rfl⟩; rw [HV.out])
      | (go_at_call 35; refine (blocked_any _ _ H.out).mono ?_; rintro e w3 ⟨rfl, rfl⟩)
      | (go_at_call 36; refine (bdead_any _ _ H.out).mono ?_; rintro e w4 ⟨rfl, rfl⟩)
      | (go_at_call 42; refine (format_any _ HM.out _ (HT.out.on (Below.new (by assumption) _))).mono ?_; rw [HD.out]; rintro e w5 ⟨rfl, hb5⟩; have c5 := cell_new_below hb5))
  all_goals
    go_ret
    refine ⟨ret_str (bytes_ext ?_), Below.step (Below.new hb1 _) hb5⟩
    rw [showB_list, showL, ← HD.out, H1.out, H2.out]
    simp

end Go.Proofs.YtjkocklfnapdaaaDoor
