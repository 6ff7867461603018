/- The walk of VwordOnce. -/
import Derived.Test.YtjkocklfnapdaaaDoorAwake
namespace Go.Proofs.YtjkocklfnapdaaaDoor
open Go.RowKit
set_option maxRecDepth 100000
set_option maxHeartbeats 2000000

theorem once_held (n : Int) (w : World) (h : W64 n) (htab : Tab w) (he : n % 4 = 1) :
    Calls Tryd.prog 6 #[.int .u64 n] w fun e w' => e = .returned (.bool true) ∧ Below w.heap.size w w' := by
  have H := Lib.hid h
  have HT := Lib.hid htab
  have d1 : (n % 4 == 0) = false := by simp; omega
  have d2 : (n % 2 != 0) = true := by simp; omega
  have d3 : (n / 2 % 2 != 0) = false := by simp; omega
  have HE := Lib.hid he
  clear h htab he
  go_enter Tryd.func6, Tryd.ntmps6
  go_wp2_with fail
  refine (awake_any _ HT.out).mono ?_
  rintro e w1 ⟨rfl, hb1⟩
  go_wp2_with fail
  refine (lock_no n _ H.out (by have := HE.out; omega)).mono ?_
  rintro e w2 ⟨rfl, hb2⟩
  go_wp2_with fail
  refine (free_any n _ H.out).mono ?_
  rintro e w3 ⟨rfl, hb3⟩
  go_wp2_with fail
  refine (lock_no n _ H.out (by have := HE.out; omega)).mono ?_
  rintro e w4 ⟨rfl, hb4⟩
  go_wp2_with fail
  refine (done_yes n _ H.out HE.out).mono ?_
  rintro e w5 ⟨rfl, hb5⟩
  go_wp2_with (first | (go_at_call 17; refine (locked_any n _ H.out).mono ?_; rintro e w6 ⟨rfl, hb6⟩) | (go_at_call 18; refine (dead_any n _ H.out).mono ?_; rintro e w7 ⟨rfl, hb7⟩))
  go_ret
  exact ⟨rfl, Below.step (Below.step (Below.step (Below.step (Below.step (Below.step hb1 hb2) hb3) hb4) hb5) hb6) hb7⟩

theorem once_dead (n : Int) (w : World) (h : W64 n) (htab : Tab w) (he : n % 4 = 2 ∨ n % 4 = 3) :
    Calls Tryd.prog 6 #[.int .u64 n] w fun e w' => e = .returned (.bool true) ∧ Below w.heap.size w w' := by
  have H := Lib.hid h
  have HT := Lib.hid htab
  have d1 : (n % 4 == 0) = false := by simp; omega
  have d3 : (n / 2 % 2 != 0) = true := by simp; omega
  have HE := Lib.hid he
  clear h htab he
  go_enter Tryd.func6, Tryd.ntmps6
  go_wp2_with fail
  refine (awake_any _ HT.out).mono ?_
  rintro e w1 ⟨rfl, hb1⟩
  go_wp2_with fail
  refine (lock_no n _ H.out (by have := HE.out; omega)).mono ?_
  rintro e w2 ⟨rfl, hb2⟩
  go_wp2_with fail
  refine (free_any n _ H.out).mono ?_
  rintro e w3 ⟨rfl, hb3⟩
  go_wp2_with fail
  refine (lock_no n _ H.out (by have := HE.out; omega)).mono ?_
  rintro e w4 ⟨rfl, hb4⟩
  go_wp2_with fail
  refine (done_no n _ H.out (by have := HE.out; omega)).mono ?_
  rintro e w5 ⟨rfl, hb5⟩
  go_wp2_with (first | (go_at_call 17; refine (locked_any n _ H.out).mono ?_; rintro e w6 ⟨rfl, hb6⟩) | (go_at_call 18; refine (dead_any n _ H.out).mono ?_; rintro e w7 ⟨rfl, hb7⟩))
  go_ret
  exact ⟨rfl, Below.step (Below.step (Below.step (Below.step (Below.step hb1 hb2) hb3) hb4) hb5) hb7⟩

theorem once_free (n c d : Int) (w : World) (h : W64 n) (htab : Tab w) (he : n % 4 = 0) (hc : doneV (n + 1) = c) (hd : killV (n + 1) = d) :
    Calls Tryd.prog 6 #[.int .u64 n] w fun e w' => e = .returned (.bool true) ∧ Below w.heap.size w w' := by
  have H := Lib.hid h
  have HT := Lib.hid htab
  have H1 : Hid (W64 (n + 1)) := ⟨by have := h.1; omega, by have := h.2; omega⟩
  have HC : Hid (W64 c) := hc ▸ doneV_W _
  have HD : Hid (W64 d) := hd ▸ killV_W _
  have hc' : c = (n + 4) % 18446744073709551616 := by rw [← hc]; unfold doneV; congr 1; omega
  have hd' : d = (n + 6) % 18446744073709551616 := by rw [← hd]; unfold killV; congr 1; omega
  have h0 := h.1
  have h00 := h.2
  have c4 : Hid (c % 4 = 0) := by show _ = _; omega
  have d4 : Hid (d % 4 = 2) := by show _ = _; omega
  have q1 : (n % 4 == 0) = true := by simpa using he
  have q2 : (c == n) = false := by simp; omega
  have q3 : (c == n + 1) = false := by simp; omega
  have q4 : (d == n) = false := by simp; omega
  have q5 : (d / 2 % 2 != 0) = true := by simp; have := d4.out; omega
  have q6 : (c % 2 != 0) = false := by simp; have := c4.out; omega
  have q7 : (d % 2 != 0) = false := by simp; have := d4.out; omega
  have q8 : (c % 4 == 0) = true := by simpa using c4.out
  have q9 : ((n + 1) / 4 == n / 4) = true := by simp; omega
  have X1 : Hid (c / 4 = (n / 4 + 1) % 4611686018427387904) := by show _ = _; omega
  have X2 : Hid (d / 4 = (n / 4 + 1) % 4611686018427387904) := by show _ = _; omega
  have E1 := Lib.hid hc
  have E2 := Lib.hid hd
  have HE := Lib.hid he
  clear h htab hc hd he hc' hd' h0 h00
  go_enter Tryd.func6, Tryd.ntmps6
  go_wp2_with fail
  refine (awake_any _ HT.out).mono ?_
  rintro e w1 ⟨rfl, hb1⟩
  go_wp2_with fail
  refine (lock_yes n _ H.out HE.out).mono ?_
  rintro e w2 ⟨rfl, hb2⟩
  go_wp2_with fail
  refine (free_any n _ H.out).mono ?_
  rintro e w3 ⟨rfl, hb3⟩
  go_wp2_with fail
  refine (lock_no (n + 1) _ H1.out (by have := HE.out; omega)).mono ?_
  rintro e w4 ⟨rfl, hb4⟩
  go_wp2_with fail
  refine (drop_yes (n + 1) _ H1.out (by have := HE.out; omega)).mono ?_
  rintro e w5 ⟨rfl, hb5⟩
  go_wp2_with fail
  refine (done_yes (n + 1) _ H1.out (by have := HE.out; omega)).mono ?_
  rw [E1.out]
  rintro e w6 ⟨rfl, hb6⟩
  go_wp2_with fail
  refine (kill_yes (n + 1) _ H1.out (by have := HE.out; omega)).mono ?_
  rw [E2.out]
  rintro e w7 ⟨rfl, hb7⟩
  have hB1 := Below.step (Below.step (Below.step (Below.step (Below.step (Below.step hb1 hb2) hb3) hb4) hb5) hb6) hb7
  clear hb1 hb2 hb3 hb4 hb5 hb6 hb7
  go_wp2_with fail
  refine (dead_any d _ HD.out).mono ?_
  rintro e w8 ⟨rfl, hb8⟩
  go_wp2_with fail
  refine (locked_any c _ HC.out).mono ?_
  rintro e w9 ⟨rfl, hb9⟩
  go_wp2_with fail
  refine (locked_any d _ HD.out).mono ?_
  rintro e w10 ⟨rfl, hb10⟩
  go_wp2_with fail
  refine (version_any n _ H.out).mono ?_
  rintro e w11 ⟨rfl, hb11⟩
  go_wp2_with fail
  generalize hT : (IntKind.u64.wrap (n / 4 + 1)).tmod 4611686018427387904 = T
  have hT' : T = (n / 4 + 1) % 4611686018427387904 := by
    have h1 := H.out.1
    have h2 := H.out.2
    rw [← hT, wrapU, Int.emod_eq_of_lt (by omega) (by omega), Int.tmod_eq_emod_of_nonneg (by omega)]
  have x1 : (c / 4 == T) = true := by rw [hT', X1.out]; simp
  have x2 : (d / 4 == T) = true := by rw [hT', X2.out]; simp
  clear hT hT'
  refine (lock_no d _ HD.out (by have := d4.out; omega)).mono ?_
  rintro e w12 ⟨rfl, hb12⟩
  go_wp2_with fail
  refine (drop_no d _ HD.out (by have := d4.out; omega)).mono ?_
  rintro e w13 ⟨rfl, hb13⟩
  go_wp2_with fail
  refine (done_no d _ HD.out (by have := d4.out; omega)).mono ?_
  rintro e w14 ⟨rfl, hb14⟩
  go_wp2_with fail
  refine (kill_no d _ HD.out (by have := d4.out; omega)).mono ?_
  rintro e w15 ⟨rfl, hb15⟩
  have hB2 := Below.step (Below.step (Below.step (Below.step (Below.step (Below.step (Below.step (Below.step hB1 hb8) hb9) hb10) hb11) hb12) hb13) hb14) hb15
  clear hB1 hb8 hb9 hb10 hb11 hb12 hb13 hb14 hb15
  go_wp2_with fail
  refine (version_any (n + 1) _ H1.out).mono ?_
  rintro e w16 ⟨rfl, hb16⟩
  go_wp2_with fail
  refine (version_any n _ H.out).mono ?_
  rintro e w17 ⟨rfl, hb17⟩
  go_wp2_with fail
  refine (version_any c _ HC.out).mono ?_
  rintro e w18 ⟨rfl, hb18⟩
  go_wp2_with fail
  refine (version_any d _ HD.out).mono ?_
  rintro e w19 ⟨rfl, hb19⟩
  go_wp2_with fail
  refine (free_any c _ HC.out).mono ?_
  rintro e w20 ⟨rfl, hb20⟩
  go_wp2_with fail
  go_ret
  exact ⟨rfl, Below.step (Below.step (Below.step (Below.step (Below.step hB2 hb16) hb17) hb18) hb19) hb20⟩

theorem vwordOnce_walk (n : Int) (w : World) (hn : (Lit.int .u64 n).wf = true) (htab : Tab w) :
    Calls Tryd.prog 6 #[.int .u64 n] w fun e w' => e = .returned (.bool true) ∧ Below w.heap.size w w' := by
  have h : W64 n := by
    have : 0 ≤ n ∧ n ≤ 18446744073709551615 := by simpa [Lit.wf, IntKind.min, IntKind.max, IntKind.signed, IntKind.bits] using hn
    exact ⟨this.1, by omega⟩
  rcases (show n % 4 = 0 ∨ n % 4 = 1 ∨ (n % 4 = 2 ∨ n % 4 = 3) by omega) with h0 | h0 | h0
  · exact once_free n _ _ w h htab h0 rfl rfl
  · exact once_held n w h htab h0
  · exact once_dead n w h htab h0

end Go.Proofs.YtjkocklfnapdaaaDoor
