/- The law BookTells, over its opened arguments. -/
import Derived.Test.YtcpmnkihhenbgaaTellsB
namespace Go.Proofs.Ytcpmnkihhenbgaa
open Go.RowKit Go.Shelf
set_option maxRecDepth 1000000
set_option maxHeartbeats 4000000

theorem tells_out (q : Lm) (ao : Option Addr) (len cap : Nat) (key : ByteArray) (lim : Int) (w : World) (h : ¬ (len ≤ 80 ∧ key.size ≤ 100)) :
    Calls Try.prog 3 #[q.v, .slice ao len cap, .string key, .int .i64 lim] w fun e w' => e = .returned (.bool true) ∧ Below w.heap.size w w' := by
  obtain ⟨W1, hW1⟩ : ∃ W1, W1 = w.alloc (.cells #[.int .u64 (q.k : Int), .int .u64 (q.b : Int)] 24) := ⟨_, rfl⟩
  have B1 : Hid (Below w.heap.size w W1) := by show Below _ _ _; rw [hW1]; exact Below.new (Below.refl _ _) _
  have HW1 := Lib.hid hW1
  unfold Lm.v
  clear hW1
  by_cases hl : len ≤ 80
  · have k1 : ¬ (80 : Int) < (len : Int) := by omega
    have k2 : (100 : Int) < (key.size : Int) := by omega
    clear h hl
    go_enter Try.func3, Try.ntmps3
    go_upto_region 1 with fail
    rw [← HW1.out]
    go_wp2_with (go_at_call 9; refine (awake_any _).mono ?_; rintro e2 w2 ⟨rfl, hb2⟩; have H2 := Lib.hid (Below.step B1.out hb2); clear hb2)
    go_ret
    exact ⟨rfl, H2.out⟩
  · have k1 : (80 : Int) < (len : Int) := by omega
    clear h hl
    go_enter Try.func3, Try.ntmps3
    go_upto_region 1 with fail
    rw [← HW1.out]
    go_wp2_with (go_at_call 9; refine (awake_any _).mono ?_; rintro e2 w2 ⟨rfl, hb2⟩; have H2 := Lib.hid (Below.step B1.out hb2); clear hb2)
    go_ret
    exact ⟨rfl, H2.out⟩
theorem tells_walk (q : Lm) (ao : Option Addr) (len cap : Nat) (key : ByteArray) (lim : Int) (w : World) {P1 P2 P3 : Prop} (_ : P1) (hdd : IsDeeds w ao len) (_ : P2) (_ : P3) :
    Calls Try.prog 3 #[q.v, .slice ao len cap, .string key, .int .i64 lim] w fun e w' => e = .returned (.bool true) ∧ Below w.heap.size w w' := by
  by_cases h : len ≤ 80 ∧ key.size ≤ 100
  · exact tells_in q ao len cap key lim w hdd h.1 h.2
  · exact tells_out q ao len cap key lim w h
end Go.Proofs.Ytcpmnkihhenbgaa
