/- The walks of turns, tells and VwordTells. -/
import Derived.Test.YtjkocklfnapdaaaDoorParts
import Derived.Test.YtjkocklfnapdaaaDoorRefShow
namespace Go.Proofs.YtjkocklfnapdaaaDoor
open Go.RowKit
set_option maxRecDepth 100000
set_option maxHeartbeats 2000000

theorem turns_free (n : Int) (w : World) (h : W64 n) (he : n % 4 = 0) :
    Calls Tryd.prog 27 #[.int .u64 n] w fun e w' => e = .returned (.bool true) ∧ Below w.heap.size w w' := by
  have H := Lib.hid h
  have HE := Lib.hid he
  clear h he
  go_enter Tryd.func27, Tryd.ntmps27
  go_wp2_with fail
  refine (lock_yes n _ H.out (by have := HE.out; omega)).mono ?_
  rintro e w1 ⟨rfl, hb1⟩
  go_wp2_with fail
  refine (lockR_yes n _ H.out (by have := HE.out; omega)).mono ?_
  rintro e w2 ⟨rfl, hb2⟩
  go_wp2_with fail
  refine (drop_no n _ H.out (by have := HE.out; omega)).mono ?_
  rintro e w3 ⟨rfl, hb3⟩
  go_wp2_with fail
  refine (dropR_no n _ H.out (by have := HE.out; omega)).mono ?_
  rintro e w4 ⟨rfl, hb4⟩
  go_wp2_with fail
  refine (done_no n _ H.out (by have := HE.out; omega)).mono ?_
  rintro e w5 ⟨rfl, hb5⟩
  go_wp2_with fail
  refine (doneR_no n _ H.out (by have := HE.out; omega)).mono ?_
  rintro e w6 ⟨rfl, hb6⟩
  go_wp2_with fail
  refine (kill_no n _ H.out (by have := HE.out; omega)).mono ?_
  rintro e w7 ⟨rfl, hb7⟩
  go_wp2_with fail
  refine (killR_no n _ H.out (by have := HE.out; omega)).mono ?_
  rintro e w8 ⟨rfl, hb8⟩
  go_wp2_with fail
  go_ret
  exact ⟨rfl, (Below.step (Below.step (Below.step (Below.step (Below.step (Below.step (Below.step hb1 hb2) hb3) hb4) hb5) hb6) hb7) hb8)⟩

theorem turns_held (n : Int) (w : World) (h : W64 n) (he : n % 4 = 1) :
    Calls Tryd.prog 27 #[.int .u64 n] w fun e w' => e = .returned (.bool true) ∧ Below w.heap.size w w' := by
  have H := Lib.hid h
  have HE := Lib.hid he
  clear h he
  go_enter Tryd.func27, Tryd.ntmps27
  go_wp2_with fail
  refine (lock_no n _ H.out (by have := HE.out; omega)).mono ?_
  rintro e w1 ⟨rfl, hb1⟩
  go_wp2_with fail
  refine (lockR_no n _ H.out (by have := HE.out; omega)).mono ?_
  rintro e w2 ⟨rfl, hb2⟩
  go_wp2_with fail
  refine (drop_yes n _ H.out (by have := HE.out; omega)).mono ?_
  rintro e w3 ⟨rfl, hb3⟩
  go_wp2_with fail
  refine (dropR_yes n _ H.out (by have := HE.out; omega)).mono ?_
  rintro e w4 ⟨rfl, hb4⟩
  go_wp2_with fail
  refine (done_yes n _ H.out (by have := HE.out; omega)).mono ?_
  rintro e w5 ⟨rfl, hb5⟩
  go_wp2_with fail
  refine (doneR_yes n _ H.out (by have := HE.out; omega)).mono ?_
  rintro e w6 ⟨rfl, hb6⟩
  go_wp2_with fail
  refine (kill_yes n _ H.out (by have := HE.out; omega)).mono ?_
  rintro e w7 ⟨rfl, hb7⟩
  go_wp2_with fail
  refine (killR_yes n _ H.out (by have := HE.out; omega)).mono ?_
  rintro e w8 ⟨rfl, hb8⟩
  go_wp2_with fail
  go_ret
  exact ⟨rfl, (Below.step (Below.step (Below.step (Below.step (Below.step (Below.step (Below.step hb1 hb2) hb3) hb4) hb5) hb6) hb7) hb8)⟩

theorem turns_dead (n : Int) (w : World) (h : W64 n) (he : n % 4 = 2 ∨ n % 4 = 3) :
    Calls Tryd.prog 27 #[.int .u64 n] w fun e w' => e = .returned (.bool true) ∧ Below w.heap.size w w' := by
  have H := Lib.hid h
  have HE := Lib.hid he
  clear h he
  go_enter Tryd.func27, Tryd.ntmps27
  go_wp2_with fail
  refine (lock_no n _ H.out (by have := HE.out; omega)).mono ?_
  rintro e w1 ⟨rfl, hb1⟩
  go_wp2_with fail
  refine (lockR_no n _ H.out (by have := HE.out; omega)).mono ?_
  rintro e w2 ⟨rfl, hb2⟩
  go_wp2_with fail
  refine (drop_no n _ H.out (by have := HE.out; omega)).mono ?_
  rintro e w3 ⟨rfl, hb3⟩
  go_wp2_with fail
  refine (dropR_no n _ H.out (by have := HE.out; omega)).mono ?_
  rintro e w4 ⟨rfl, hb4⟩
  go_wp2_with fail
  refine (done_no n _ H.out (by have := HE.out; omega)).mono ?_
  rintro e w5 ⟨rfl, hb5⟩
  go_wp2_with fail
  refine (doneR_no n _ H.out (by have := HE.out; omega)).mono ?_
  rintro e w6 ⟨rfl, hb6⟩
  go_wp2_with fail
  refine (kill_no n _ H.out (by have := HE.out; omega)).mono ?_
  rintro e w7 ⟨rfl, hb7⟩
  go_wp2_with fail
  refine (killR_no n _ H.out (by have := HE.out; omega)).mono ?_
  rintro e w8 ⟨rfl, hb8⟩
  go_wp2_with fail
  go_ret
  exact ⟨rfl, (Below.step (Below.step (Below.step (Below.step (Below.step (Below.step (Below.step hb1 hb2) hb3) hb4) hb5) hb6) hb7) hb8)⟩

theorem turns_any (n : Int) (w : World) (h : W64 n) :
    Calls Tryd.prog 27 #[.int .u64 n] w fun e w' => e = .returned (.bool true) ∧ Below w.heap.size w w' := by
  rcases (show n % 4 = 0 ∨ n % 4 = 1 ∨ (n % 4 = 2 ∨ n % 4 = 3) by omega) with h0 | h0 | h0
  · exact turns_free n w h h0
  · exact turns_held n w h h0
  · exact turns_dead n w h h0

theorem tells_any (m : Nat) (w : World) (hm : m < 18446744073709551616) (htab : Tab w) :
    Calls Tryd.prog 10 #[.int .u64 m] w fun e w' => e = .returned (.bool true) ∧ Below w.heap.size w w' := by
  have WM : Hid (W64 (m : Int)) := ⟨by omega, by omega⟩
  have HT := Lib.hid htab
  have HM := Lib.hid hm
  have q1 : ((m : Int) % 2 == 1) = ((m : Int) % 2 != 0) := by rw [Bool.eq_iff_iff]; simp; omega
  have q2 : ((m : Int) / 2 % 2 == 1) = ((m : Int) / 2 % 2 != 0) := by rw [Bool.eq_iff_iff]; simp; omega
  have Q1 := Lib.hid q1
  have Q2 := Lib.hid q2
  clear hm htab q1 q2
  go_enter Tryd.func10, Tryd.ntmps10
  go_wp2_with fail
  refine (ofR_any m _ WM.out).mono ?_
  rw [Q1.out, Q2.out]
  rintro e w1 ⟨rfl, hb1⟩
  go_wp2_with fail
  have B2 := Lib.hid (Below.new hb1 (.cells #[.int .u64 ((m : Int) / 4), .bool ((m : Int) % 2 != 0), .bool ((m : Int) / 2 % 2 != 0)] 41))
  generalize hW : w1.alloc (.cells #[.int .u64 ((m : Int) / 4), .bool ((m : Int) % 2 != 0), .bool ((m : Int) / 2 % 2 != 0)] 41) = w2 at *
  have c0 : w2.cell? ⟨w1.heap.size, 0, none⟩ = some (.int .u64 ((m : Int) / 4)) := by rw [← hW]; simp [go_sem]
  have c1 : w2.cell? ⟨w1.heap.size, 1, none⟩ = some (.bool ((m : Int) % 2 != 0)) := by rw [← hW]; simp [go_sem]
  have c2 : w2.cell? ⟨w1.heap.size, 2, none⟩ = some (.bool ((m : Int) / 2 % 2 != 0)) := by rw [← hW]; simp [go_sem]
  clear hW
  have r0 := fun d os => cell_regrown c0 d os
  have r1 := fun d os => cell_regrown c1 d os
  have r2 := fun d os => cell_regrown c2 d os
  clear c0 c1 c2 hb1
  refine wp_region_quiet_below (by kernel_rfl) (by kernel_rfl) ?_
  repeat (any_goals (first | go_big_quiet_step (first
    | (go_at_call 21; exact Calls.regrown_of (version_any m _ WM.out))
    | (go_at_call 17; exact Calls.regrown_of (locked_any m _ WM.out))
    | (go_at_call 18; exact Calls.regrown_of (dead_any m _ WM.out))
    | (go_at_call 15; exact Calls.regrown_of (free_any m _ WM.out))
    | (go_at_call 26; exact Calls.regrown_of (freeR_any m _ WM.out))
    | (go_at_call 23; exact Calls.regrown_of (show_any m _ HM.out ((HT.out.on B2.out).on (below_regrown _ _ _))))
    | (go_at_call 13; exact Calls.regrown_of (showR_loop m _ HM.out))
    | (go_at_call 27; exact Calls.regrown_of (turns_any m _ WM.out))) | quiet_step (fail)))
  refine wpQuiet_nil ?_
  intro w3 hw3
  have hb3 : Below w2.heap.size w2 w3 := by obtain ⟨p, rfl⟩ := hw3; exact below_regrown _ _ _
  clear hw3
  go_wp2_with fail
  go_ret
  exact ⟨rfl, Below.step B2.out hb3⟩

/- New agrees with the reference's, at every version. -/
theorem new_any (v : Nat) (l d : Bool) : ∃ (x e : Int), (∀ w, Calls Tryd.prog 8 #[.int .u64 v, .bool l, .bool d] w fun r w' => r = .returned (.tuple #[.int .u64 x, .int .i64 e]) ∧ Below w.heap.size w w') ∧
    (∀ w, Calls Tryd.prog 9 #[.int .u64 v, .bool l, .bool d] w fun r w' => r = .returned (.tuple #[.int .u64 x, .int .i64 e]) ∧ Below w.heap.size w w') := by
  by_cases h : v < 4611686018427387904
  · refine ⟨VN v l d, 0, fun w => ?_, fun w => newR_yes v l d w (by omega) (by omega)⟩
    refine (new_yes v l d w (by omega) (by omega)).mono ?_
    rintro e w' ⟨rfl, rfl⟩
    exact ⟨rfl, Below.refl _ _⟩
  · refine ⟨0, 2, fun w => ?_, fun w => ?_⟩
    · refine (new_no v l d w (by omega)).mono ?_
      rintro e w' ⟨rfl, rfl⟩
      exact ⟨rfl, Below.refl _ _⟩
    · refine (newR_no v l d w (by omega)).mono ?_
      rintro e w' ⟨rfl, rfl⟩
      exact ⟨rfl, Below.refl _ _⟩

theorem tellsLaw_walk (m v : Nat) (l d : Bool) (w : World) (hm : m < 18446744073709551616) (hv : v < 18446744073709551616) (htab : Tab w) :
    Calls Tryd.prog 3 #[.int .u64 m, .int .u64 v, .bool l, .bool d] w fun e w' => e = .returned (.bool true) ∧ Below w.heap.size w w' := by
  have HT := Lib.hid htab
  have HM := Lib.hid hm
  obtain ⟨x, e, h1, h2⟩ := new_any v l d
  obtain ⟨y, f, h3, h4⟩ := new_any (v % 4611686018427387904) l d
  have A1 := Lib.hid h1
  have A2 := Lib.hid h2
  have A3 := Lib.hid h3
  have A4 := Lib.hid h4
  clear h1 h2 h3 h4 hm htab hv
  go_enter Tryd.func3, Tryd.ntmps3
  go_wp2_with fail
  refine (A1.out _).mono ?_
  rintro r w1 ⟨rfl, hb1⟩
  go_wp2_with fail
  refine (A2.out _).mono ?_
  rintro r w2 ⟨rfl, hb2⟩
  go_wp2_with fail
  rw [show (v : Int) % 4611686018427387904 = ((v % 4611686018427387904 : Nat) : Int) by omega]
  refine (A3.out _).mono ?_
  rintro r w3 ⟨rfl, hb3⟩
  go_wp2_with fail
  rw [show (v : Int) % 4611686018427387904 = ((v % 4611686018427387904 : Nat) : Int) by omega]
  refine (A4.out _).mono ?_
  rintro r w4 ⟨rfl, hb4⟩
  have B4 := Lib.hid (Below.step (Below.step (Below.step hb1 hb2) hb3) hb4)
  clear hb1 hb2 hb3 hb4
  go_wp2_with fail
  refine (tells_any m _ HM.out (HT.out.on B4.out)).mono ?_
  rintro r w5 ⟨rfl, hb5⟩
  have B5 := Lib.hid (Below.step B4.out hb5)
  clear hb5
  go_wp2_with fail
  refine (awake_any _ (HT.out.on B5.out)).mono ?_
  rintro r w6 ⟨rfl, hb6⟩
  go_wp2_with fail
  go_ret
  exact ⟨rfl, Below.step B5.out hb6⟩

theorem vwordTells_walk (n k : Int) (l d : Bool) (w : World) (hn : (Lit.int .u64 n).wf = true) (hk : (Lit.int .u64 k).wf = true) (htab : Tab w) :
    Calls Tryd.prog 3 #[.int .u64 n, .int .u64 k, .bool l, .bool d] w fun e w' => e = .returned (.bool true) ∧ Below w.heap.size w w' := by
  obtain ⟨m, rfl, hm⟩ := u64_nat hn
  obtain ⟨o, rfl, ho⟩ := u64_nat hk
  exact tellsLaw_walk m o l d w hm ho htab

end Go.Proofs.YtjkocklfnapdaaaDoor
