/- The law BookCopies, with lists of any length. -/
import Derived.Test.YtcpmnkihhenbgaaCopW
namespace Go.Proofs.Ytcpmnkihhenbgaa
open Go.RowKit Go.Shelf
set_option maxRecDepth 1000000
set_option maxHeartbeats 4000000

theorem copies_out (q : Lm) (ao : Option Addr) (len cap : Nat) (ao2 : Option Addr) (len2 cap2 : Nat) (w : World) (h : ¬ (len ≤ 80 ∧ len2 ≤ 80)) :
    Calls Try.prog 4 #[q.v, .slice ao len cap, .slice ao2 len2 cap2] w fun e w' => e = .returned (.bool true) ∧ Below w.heap.size w w' := by
  obtain ⟨W1, hW1⟩ : ∃ W1, W1 = (w.alloc (.cells #[.int .u64 (q.k : Int), .int .u64 (q.b : Int)] 24)).alloc (.cells #[.slice ao2 len2 cap2] 25) := ⟨_, rfl⟩
  have B1 : Hid (Below w.heap.size w W1) := by show Below _ _ _; rw [hW1]; exact Below.new (Below.new (Below.refl _ _) _) _
  have f1 : Fresh W1 (w.heap.size + 1) #[.slice ao2 len2 cap2] 25 := by rw [hW1]; exact Fresh.new _ _ _ _ (by simp)
  have HW1 := Lib.hid hW1
  have gm := f1.cell 0
  simp only [List.getElem?_toArray, List.getElem?_cons_zero] at gm
  unfold Lm.v
  clear hW1 f1
  refine (callsIn_wide (n := 10)).1 ?_
  refine callsIn_of_wp_marks Try.func4 rfl trivial ?_ rfl
  simp only [Try.ntmps4, List.size_toArray, List.length_cons, List.length_nil, Nat.reduceAdd, Nat.reduceSub, Array.replicate_succ, Array.replicate_zero, List.push_toArray, List.append_toArray, List.nil_append, List.cons_append]
  refine wpIn_wide.2 ?_
  refine wp_mono (Q := calmQ _) ?_ calmQ_out
  go_upto_region 1 with fail
  rw [← HW1.out]
  by_cases hl : len ≤ 80
  · have k1 : ¬ (80 : Int) < (len : Int) := by omega
    have k2 : (80 : Int) < (len2 : Int) := by omega
    clear h hl
    go_wp2_with (go_at_call 9; refine (awake_any _).mono ?_; rintro e2 w2 ⟨rfl, hb2⟩; have H2 := Lib.hid (Below.step B1.out hb2); clear hb2)
    refine calm_ret (v := .bool true) rfl ?_ ⟨rfl, H2.out⟩
    simp [results, Try.results4, go_sem]
  · have k1 : (80 : Int) < (len : Int) := by omega
    clear h hl
    go_wp2_with (go_at_call 9; refine (awake_any _).mono ?_; rintro e2 w2 ⟨rfl, hb2⟩; have H2 := Lib.hid (Below.step B1.out hb2); clear hb2)
    refine calm_ret (v := .bool true) rfl ?_ ⟨rfl, H2.out⟩
    simp [results, Try.results4, go_sem]
theorem copies_walk (q : Lm) (ao : Option Addr) (len cap : Nat) (ao2 : Option Addr) (len2 cap2 : Nat) (w : World) {P1 : Prop} (_ : P1) (hdd : IsDeeds w ao len) (hdd2 : IsDeeds w ao2 len2) :
    Calls Try.prog 4 #[q.v, .slice ao len cap, .slice ao2 len2 cap2] w fun e w' => e = .returned (.bool true) ∧ Below w.heap.size w w' := by
  by_cases h : len ≤ 80 ∧ len2 ≤ 80
  · exact copies_in q ao len cap ao2 len2 cap2 w hdd hdd2 h.1 h.2
  · exact copies_out q ao len cap ao2 len2 cap2 w h
end Go.Proofs.Ytcpmnkihhenbgaa
