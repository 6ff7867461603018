/- The reference's Fair. -/
import Derived.Test.YtjlfgmjcmicoaaaRefBound
import Derived.Test.YtjlfgmjcmicoaaaFair
namespace Go.Proofs.Ytjlfgmjcmicoaaa
open Go.RowKit
set_option maxRecDepth 100000

set_option maxHeartbeats 4000000 in
theorem rfair_any (r : Req) (x : Eff) (w : World) (h : r.Ok) : Calls Try.prog 10 #[reqV r, effV x] w fun e w' => e = .returned (.bool (fairB r x)) ∧ Below w.heap.size w w' := by
  have HO := Lib.hid h
  have HZ : Hid (fairB r x = (isB r && inB 1099511627776 [x.p, x.t, x.k, x.m] && (decide (x.t ≤ x.k + 1) && decide (x.p ≤ boundZ r x.t + x.m)))) := rfl
  obtain ⟨b, hb⟩ : ∃ b, isB r = b := ⟨_, rfl⟩
  have HB := Lib.hid hb
  obtain ⟨p, t, k, m⟩ := x
  dsimp only at HZ
  cases b with
  | false =>
    clear h hb
    go_enter Try.func10, Try.ntmps10
    go_wp2_with fail
    refine (ris_any r _ HO.out).mono ?_
    rw [HB.out]
    rintro e w1 ⟨rfl, hb1⟩
    go_wp2_with fail
    go_ret
    exact ⟨ret_bool (by rw [HZ.out, HB.out]; rfl), Below.step (Below.new ((Below.refl _ _).alloc (Nat.le_refl _) _) _) hb1⟩
  | true =>
    have HS : Hid (small p → boundZ r t ≤ 200000000000000 ∨ ¬ small t) := fun _ => by
      by_cases ht : small t
      · exact .inl (boundZ_range r t hb ht).2
      · exact .inr ht
    have HR := Lib.hid (fun ht => boundZ_range r t hb ht)
    clear h hb HS
    have cases5 : (¬ small p) ∨ (small p ∧ ¬ small t) ∨ (small p ∧ small t ∧ ¬ small k) ∨ (small p ∧ small t ∧ small k ∧ ¬ small m) ∨ (small p ∧ small t ∧ small k ∧ small m) := by
      by_cases a : small p <;> by_cases b : small t <;> by_cases c : small k <;> by_cases d : small m <;> simp [a, b, c, d]
    by_cases hall : small p ∧ small t ∧ small k ∧ small m
    · clear cases5
      obtain ⟨s1, s2, s3, s4⟩ := hall
      obtain ⟨z1, z2⟩ := HR.out s2
      have HI : Hid (inB 1099511627776 [p, t, k, m] = true) := by show _ = _; simpa [inB, small] using And.intro s1 (And.intro s2 (And.intro s3 s4))
      have Q1 : Hid (decide (0 ≤ p ∧ p ≤ 1099511627776) = true) := by show _ = _; rw [decide_eq_true_iff]; exact s1
      have Q2 : Hid (decide (0 ≤ t ∧ t ≤ 1099511627776) = true) := by show _ = _; rw [decide_eq_true_iff]; exact s2
      have Q3 : Hid (decide (0 ≤ k ∧ k ≤ 1099511627776) = true) := by show _ = _; rw [decide_eq_true_iff]; exact s3
      have Q4 : Hid (decide (0 ≤ m ∧ m ≤ 1099511627776) = true) := by show _ = _; rw [decide_eq_true_iff]; exact s4
      obtain ⟨z, hz⟩ : ∃ z, boundZ r t = z := ⟨_, rfl⟩
      rw [hz] at z1 z2
      have HZ2 := Lib.hid hz
      clear hz HR
      unfold small at s1 s2 s3 s4
      have HW := Lib.hid (And.intro (show IntKind.i64.wrap (1 + k) = 1 + k from IntWalk.i64_in _ (by omega)) (show IntKind.i64.wrap (p - m) = p - m from IntWalk.i64_in _ (by omega)))
      obtain ⟨v1, hv1⟩ : ∃ v, decide (t ≤ 1 + k) = v := ⟨_, rfl⟩
      have HV1 := Lib.hid hv1
      have HE : Hid (fairB r ⟨p, t, k, m⟩ = (decide (t ≤ 1 + k) && decide (p - m ≤ z))) := by
        show _ = _
        rw [HZ.out, HB.out, HI.out, HZ2.out]
        simp only [Bool.true_and]
        congr 1
        · rw [decide_eq_decide]; omega
        · rw [decide_eq_decide]; omega
      clear hv1
      cases v1
      all_goals
        go_enter Try.func10, Try.ntmps10
        go_wp2_with fail
        refine (ris_any r _ HO.out).mono ?_
        rw [HB.out]
        rintro e W ⟨rfl, hb1⟩
        have F1 := ((fresh_req w r _ rfl).alloc (.cells #[.int .i64 p, .int .i64 t, .int .i64 k, .int .i64 m] 38)).below hb1
        have E1 := (Fresh.new (w.alloc (.cells #[.int .i64 r.d, .int .i64 r.ht, .int .u32 r.hg, .int .u8 r.hr, .string r.key, .string r.val, .string r.old, .int .i64 r.lim, .int .i64 r.ten, .int .u64 r.qk, .int .u64 r.qb, .int .u8 r.rts] 31)) (w.heap.size + 1) #[.int .i64 p, .int .i64 t, .int .i64 k, .int .i64 m] 38 (by simp)).below hb1
        have hB1 := Lib.hid (Below.step (Below.new ((Below.refl w.heap.size w).alloc (Nat.le_refl _) _) _) hb1)
        have e0 : W.cell? ⟨w.heap.size + 1, 0, none⟩ = some (.int .i64 p) := E1.cell 0
        have e1 : W.cell? ⟨w.heap.size + 1, 1, none⟩ = some (.int .i64 t) := E1.cell 1
        have e2 : W.cell? ⟨w.heap.size + 1, 2, none⟩ = some (.int .i64 k) := E1.cell 2
        have e3 : W.cell? ⟨w.heap.size + 1, 3, none⟩ = some (.int .i64 m) := E1.cell 3
        obtain ⟨c0, c1, c2, c3, c4, c5, c6, c7, c8, c9, c10, c11⟩ := req_cells F1
        have l0 : w.heap.size < W.heap.size := F1.lt
        have l1 : w.heap.size + 1 < W.heap.size := E1.lt
        clear F1 E1 hb1
        go_wp2_with fail
        refine (rsmall_any p _).mono ?_
        rw [Q1.out]
        rintro e w2 ⟨rfl, rfl⟩
        go_wp2_with fail
        refine (rsmall_any t _).mono ?_
        rw [Q2.out]
        rintro e w2 ⟨rfl, rfl⟩
        go_wp2_with fail
        refine (rsmall_any k _).mono ?_
        rw [Q3.out]
        rintro e w2 ⟨rfl, rfl⟩
        go_wp2_with fail
        refine (rsmall_any m _).mono ?_
        rw [Q4.out]
        rintro e w2 ⟨rfl, rfl⟩
        go_wp2_with fail
        have g0 := fun d os => cell_regrown c0 d os
        have g1 := fun d os => cell_regrown c1 d os
        have g2 := fun d os => cell_regrown c2 d os
        have g3 := fun d os => cell_regrown c3 d os
        have g4 := fun d os => cell_regrown c4 d os
        have g5 := fun d os => cell_regrown c5 d os
        have g6 := fun d os => cell_regrown c6 d os
        have g7 := fun d os => cell_regrown c7 d os
        have g8 := fun d os => cell_regrown c8 d os
        have g9 := fun d os => cell_regrown c9 d os
        have g10 := fun d os => cell_regrown c10 d os
        have g11 := fun d os => cell_regrown c11 d os
        have h0 := fun d os => cell_regrown e0 d os
        have h1 := fun d os => cell_regrown e1 d os
        have h2 := fun d os => cell_regrown e2 d os
        have h3 := fun d os => cell_regrown e3 d os
        have y1 := HW.out.1
        have y2 := HW.out.2
        have q1 := HV1.out
        refine wp_region_quiet_below (by kernel_rfl) (by kernel_rfl) ?_
        repeat (any_goals (first | go_big_quiet_step ((go_at_call 11; exact Calls.regrown_of ((rbound_any r t _ HO.out).mono fun e w' h => ⟨by rw [h.1, HZ2.out], h.2⟩))) | quiet_step (fail)))
        refine wpQuiet_nil ?_
        intro w5 hw5
        have hb5 : Below w2.heap.size w2 w5 := by obtain ⟨p, rfl⟩ := hw5; exact below_regrown _ _ _
        clear hw5
        go_wp2_with fail
        go_ret
        exact ⟨ret_bool (by first | (rw [HE.out, HV1.out]; rfl) | (rw [HE.out, HV1.out]; simp)), Below.step hB1.out hb5⟩
    · have HI : Hid (inB 1099511627776 [p, t, k, m] = false) := by
        show _ = _
        cases e : inB 1099511627776 [p, t, k, m] with
        | false => rfl
        | true => exact absurd (inB_four (x := ⟨p, t, k, m⟩) e) hall
      have HF : Hid (fairB r ⟨p, t, k, m⟩ = false) := by show _ = _; rw [HZ.out, HI.out]; simp
      have cases4 : (¬ small p) ∨ (small p ∧ ¬ small t) ∨ (small p ∧ small t ∧ ¬ small k) ∨ (small p ∧ small t ∧ small k ∧ ¬ small m) := by
        rcases cases5 with h | h | h | h | h
        · exact .inl h
        · exact .inr (.inl h)
        · exact .inr (.inr (.inl h))
        · exact .inr (.inr (.inr h))
        · exact absurd h hall
      have Q : ∀ n b, (if b then small n else ¬ small n) → decide (0 ≤ n ∧ n ≤ 1099511627776) = b := fun n b h => by
        cases b <;> simpa [small] using h
      clear cases5 hall HR HZ HI
      have HQ := Lib.hid Q
      clear Q
      rcases cases4 with s1 | ⟨s1, s2⟩ | ⟨s1, s2, s3⟩ | ⟨s1, s2, s3, s4⟩
      all_goals
        go_enter Try.func10, Try.ntmps10
        go_wp2_with fail
        refine (ris_any r _ HO.out).mono ?_
        rw [HB.out]
        rintro e W ⟨rfl, hb1⟩
        have E1 := (Fresh.new (w.alloc (.cells #[.int .i64 r.d, .int .i64 r.ht, .int .u32 r.hg, .int .u8 r.hr, .string r.key, .string r.val, .string r.old, .int .i64 r.lim, .int .i64 r.ten, .int .u64 r.qk, .int .u64 r.qb, .int .u8 r.rts] 31)) (w.heap.size + 1) #[.int .i64 p, .int .i64 t, .int .i64 k, .int .i64 m] 38 (by simp)).below hb1
        have hB1 := Lib.hid (Below.step (Below.new ((Below.refl w.heap.size w).alloc (Nat.le_refl _) _) _) hb1)
        have e0 : W.cell? ⟨w.heap.size + 1, 0, none⟩ = some (.int .i64 p) := E1.cell 0
        have e1 : W.cell? ⟨w.heap.size + 1, 1, none⟩ = some (.int .i64 t) := E1.cell 1
        have e2 : W.cell? ⟨w.heap.size + 1, 2, none⟩ = some (.int .i64 k) := E1.cell 2
        have e3 : W.cell? ⟨w.heap.size + 1, 3, none⟩ = some (.int .i64 m) := E1.cell 3
        have l1 : w.heap.size + 1 < W.heap.size := E1.lt
        clear E1 hb1
        go_wp2_with fail
        refine (rsmall_any p _).mono ?_
        first | rw [HQ.out p false s1] | rw [HQ.out p true s1]
        rintro e w2 ⟨rfl, rfl⟩
        go_wp2_with fail
      · go_ret
        exact ⟨ret_bool (by rw [HF.out]), hB1.out⟩
      all_goals
        refine (rsmall_any t _).mono ?_
        first | rw [HQ.out t false s2] | rw [HQ.out t true s2]
        rintro e w2 ⟨rfl, rfl⟩
        go_wp2_with fail
      · go_ret
        exact ⟨ret_bool (by rw [HF.out]), hB1.out⟩
      all_goals
        refine (rsmall_any k _).mono ?_
        first | rw [HQ.out k false s3] | rw [HQ.out k true s3]
        rintro e w2 ⟨rfl, rfl⟩
        go_wp2_with fail
      · go_ret
        exact ⟨ret_bool (by rw [HF.out]), hB1.out⟩
      · refine (rsmall_any m _).mono ?_
        rw [HQ.out m false s4]
        rintro e w2 ⟨rfl, rfl⟩
        go_wp2_with fail
        go_ret
        exact ⟨ret_bool (by rw [HF.out]), hB1.out⟩

end Go.Proofs.Ytjlfgmjcmicoaaa
