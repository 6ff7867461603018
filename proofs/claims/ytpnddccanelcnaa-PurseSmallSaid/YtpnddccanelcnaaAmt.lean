/- Amounts: sums, differences, the lesser, what is within. -/
import Derived.Test.YtpnddccanelcnaaMap
import Derived.Deep.RegionHeld3
namespace Go.Proofs.Ytpnddccanelcnaa
open Go.RowKit
set_option maxRecDepth 100000
set_option maxHeartbeats 4000000

theorem ret_lim {a b c d : Int} (h : a = c) (k : b = d) : Ending.returned (lim a b) = .returned (lim c d) := by rw [h, k]
theorem wrapU (x : Int) : IntKind.u64.wrap x = x % 18446744073709551616 := by simp [IntKind.wrap, IntKind.bits, IntKind.signed]

theorem minus_any (a b c d : Int) (h1 : 0 ≤ c) (h2 : c ≤ a) (h3 : a < 18446744073709551616) (h4 : 0 ≤ d) (h5 : d ≤ b) (h6 : b < 18446744073709551616) (w : World) :
    Calls Try.prog 48 #[lim a b, lim c d] w fun e w' => e = .returned (lim (a - c) (b - d)) ∧ Below w.heap.size w w' := by
  have q1 : IntKind.u64.wrap (a - c) = a - c := by rw [wrapU]; omega
  have q2 : IntKind.u64.wrap (b - d) = b - d := by rw [wrapU]; omega
  clear h1 h2 h3 h4 h5 h6
  go_enter Try.func48, Try.ntmps48
  go_wp2_with fail
  exact bodyPost_ret (v := lim (a - c) (b - d)) (by simp [results, Try.results48, go_sem]) rfl ⟨rfl, Below.new (Below.new (Below.new (Below.refl w.heap.size w) _) _) _⟩

theorem plus_any (a b c d : Int) (h1 : 0 ≤ a) (h2 : 0 ≤ c) (h3 : a + c < 18446744073709551616) (h4 : 0 ≤ b) (h5 : 0 ≤ d) (h6 : b + d < 18446744073709551616) (w : World) :
    Calls Try.prog 46 #[lim a b, lim c d] w fun e w' => e = .returned (lim (a + c) (b + d)) ∧ Below w.heap.size w w' := by
  have q1 : IntKind.u64.wrap (a + c) = a + c := by rw [wrapU]; omega
  have q2 : IntKind.u64.wrap (b + d) = b + d := by rw [wrapU]; omega
  clear h1 h2 h3 h4 h5 h6
  go_enter Try.func46, Try.ntmps46
  go_wp2_with fail
  exact bodyPost_ret (v := lim (a + c) (b + d)) (by simp [results, Try.results46, go_sem]) rfl ⟨rfl, Below.new (Below.new (Below.new (Below.refl w.heap.size w) _) _) _⟩

theorem least_any (a b c d : Int) (w : World) :
    Calls Try.prog 50 #[lim a b, lim c d] w fun e w' => e = .returned (lim (min a c) (min b d)) ∧ Below w.heap.size w w' := by
  go_enter Try.func50, Try.ntmps50
  go_wp2_with fail
  all_goals
    first
    | exact bodyPost_ret (v := lim a b) (by simp [results, Try.results50, go_sem]) rfl ⟨ret_lim (by omega) (by omega), Below.new (Below.new (Below.new (Below.refl w.heap.size w) _) _) _⟩
    | exact bodyPost_ret (v := lim a d) (by simp [results, Try.results50, go_sem]) rfl ⟨ret_lim (by omega) (by omega), Below.new (Below.new (Below.new (Below.refl w.heap.size w) _) _) _⟩
    | exact bodyPost_ret (v := lim c b) (by simp [results, Try.results50, go_sem]) rfl ⟨ret_lim (by omega) (by omega), Below.new (Below.new (Below.new (Below.refl w.heap.size w) _) _) _⟩
    | exact bodyPost_ret (v := lim c d) (by simp [results, Try.results50, go_sem]) rfl ⟨ret_lim (by omega) (by omega), Below.new (Below.new (Below.new (Below.refl w.heap.size w) _) _) _⟩

theorem within_any (a b : Int) (w : World) :
    Calls Try.prog 45 #[lim a b] w fun e w' => e = .returned (.func (.func 49) #[] #[.pointer (some ⟨w.heap.size, 0, none⟩)]) ∧ w' = w.alloc (.cells #[.int .u64 a, .int .u64 b] 24) := by
  have hmf := @makeFunc_run Try.prog
  go_enter Try.func45, Try.ntmps45
  go_wp2_with fail
  go_ret
  exact ⟨rfl, rfl⟩

theorem within1_any (x y a b : Int) (q : Nat) (w : World) (h : Fresh w q #[.int .u64 a, .int .u64 b] 24) :
    Calls Try.prog 49 #[lim x y, .pointer (some ⟨q, 0, none⟩)] w fun e w' => e = .returned (.bool (decide (x ≤ a) && decide (y ≤ b))) ∧ Below w.heap.size w w' := by
  have hl := h.lt
  have H1 := Lib.hid (Fresh.new w w.heap.size #[.int .u64 x, .int .u64 y] 24 rfl)
  have H2 := Lib.hid (h.alloc (.cells #[.int .u64 x, .int .u64 y] 24))
  obtain ⟨W, hW⟩ : ∃ W, W = w.alloc (.cells #[.int .u64 x, .int .u64 y] 24) := ⟨_, rfl⟩
  have HB : Hid (Below w.heap.size w W) := by show Below _ _ _; rw [hW]; exact Below.new (Below.refl _ _) _
  have c0 : W.cell? ⟨w.heap.size, 0, none⟩ = some (.int .u64 x) := by rw [hW]; exact H1.out.cell 0
  have c1 : W.cell? ⟨w.heap.size, 1, none⟩ = some (.int .u64 y) := by rw [hW]; exact H1.out.cell 1
  have d0 : W.cell? ⟨q, 0, none⟩ = some (.int .u64 a) := by rw [hW]; exact H2.out.cell 0
  have d1 : W.cell? ⟨q, 1, none⟩ = some (.int .u64 b) := by rw [hW]; exact H2.out.cell 1
  have HW := Lib.hid hW
  clear hW h hl
  have g0 := fun d os => cell_regrown c0 d os
  have g1 := fun d os => cell_regrown c1 d os
  have g2 := fun d os => cell_regrown d0 d os
  have g3 := fun d os => cell_regrown d1 d os
  have hcs : ∀ x a : Int, ∃ u : Int, min x a = u ∧ ((decide (x ≤ a) = true ∧ u = x) ∨ (decide (x ≤ a) = false ∧ ¬ u = x ∧ (u == x) = false)) := by
    intro x a
    by_cases h : x ≤ a
    · exact ⟨x, by omega, .inl ⟨decide_eq_true h, rfl⟩⟩
    · exact ⟨a, by omega, .inr ⟨decide_eq_false h, by omega, by simp; omega⟩⟩
  obtain ⟨u, hu, hu2⟩ := hcs x a
  obtain ⟨v, hv, hv2⟩ := hcs y b
  have HU := Lib.hid (And.intro hu hv)
  clear hu hv hcs
  rcases hu2 with ⟨p1, rfl⟩ | ⟨p1, p2, p3⟩ <;> rcases hv2 with ⟨r1, rfl⟩ | ⟨r1, r2, r3⟩
  all_goals
    have HP := Lib.hid (And.intro p1 r1)
    clear p1 r1
    go_enter Try.func49, Try.ntmps49
    go_wp2_with fail
    rw [← HW.out]
    refine wp_region_quiet_below (by kernel_rfl) (by kernel_rfl) ?_
    repeat (any_goals (first | go_big_quiet_step ((go_at_call 50; exact Calls.regrown_of ((least_any _ _ a b _).mono fun e w' h => ⟨by rw [h.1, HU.out.1, HU.out.2], h.2⟩))) | quiet_step (fail)))
    refine wpQuiet_nil ?_
    intro w5 hw5
    have hb5 : Below W.heap.size W w5 := by obtain ⟨p, rfl⟩ := hw5; exact below_regrown _ _ _
    clear hw5
    go_wp2_with fail
    go_ret
    exact ⟨ret_bool (by rw [HP.out.1, HP.out.2]; rfl), Below.step HB.out hb5⟩
end Go.Proofs.Ytpnddccanelcnaa
