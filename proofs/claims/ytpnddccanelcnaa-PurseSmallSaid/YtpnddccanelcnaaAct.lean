/- The law's operation. -/
import Derived.Test.YtpnddccanelcnaaOk
namespace Go.Proofs.Ytpnddccanelcnaa
open Go.RowKit
set_option maxRecDepth 100000
set_option maxHeartbeats 4000000

theorem pick_any (x n : Int) (hn : 1 ≤ n) (hn2 : n ≤ 4611686018427387904) (w : World) :
    Calls Try.prog 24 #[.int .i64 x, .int .i64 n] w fun e w' => e = .returned (.int .i64 (x % n)) ∧ w' = w := by
  have h1 := Int.lt_tmod_of_pos x (show (0 : Int) < n by omega)
  have h2 := Int.tmod_lt_of_pos x (show (0 : Int) < n by omega)
  obtain ⟨y, hy⟩ : ∃ y, x.tmod n = y := ⟨_, rfl⟩
  rw [hy] at h1 h2
  have hn0 : ¬ n < 1 := by omega
  have hnz : ¬ n = 0 := by omega
  have e1 : x % n = y % n := by
    have h := Int.mul_tdiv_add_tmod x n
    rw [hy] at h
    rw [← h, Int.add_comm, Int.add_mul_emod_self_left]
  rcases (show y < 0 ∨ 0 ≤ y from by omega) with h | h
  · have hr : x % n = y + n := by
      rw [e1, ← Int.add_emod_right]
      exact Int.emod_eq_of_lt (by omega) (by omega)
    have kw : IntKind.i64.wrap (y + n) = y + n := IntWalk.i64_in _ (by omega)
    have HR := Lib.hid hr
    clear e1 hr
    go_enter Try.func24, Try.ntmps24
    go_wp2_with fail
    go_ret
    exact ⟨ret_int HR.out.symm, rfl⟩
  · have hr : x % n = y := by
      rw [e1]
      exact Int.emod_eq_of_lt (by omega) (by omega)
    have h' : ¬ y < 0 := by omega
    have HR := Lib.hid hr
    clear e1 hr
    go_enter Try.func24, Try.ntmps24
    go_wp2_with fail
    go_ret
    exact ⟨ret_int HR.out.symm, rfl⟩

/-- What an operation makes of a purse: the state, the ticket, the error. -/
structure Step (s s' : Pu) (n e : Int) : Prop where
  lk : s'.lk = s.lk
  lb : s'.lb = s.lb
  same : e ≠ 0 → s' = s ∧ n = 0
  new : n ≠ 0 → n = s.last + 1 ∧ s'.last = s.last + 1
  old : n = 0 → s'.last = s.last
def opS (s : Pu) (c tk k b : Int) : Pu × Int × Int :=
  if c = 2 then match getT s.tk tk with | some t => (comP s t, 0, 0) | none => (s, 0, 5)
  else if c = 3 then match getT s.tk tk with | some t => (refP s t, 0, 0) | none => (s, 0, 5)
  else if c = 4 then (takeIf s k b, 0, codeOf (fitB s k b))
  else if c = 5 then (payIf s k b, 0, codeOf (payB s k b))
  else if fitB s k b = true then (resP s k b, s.last + 1, 0) else (s, 0, 10)
theorem opS_step (s : Pu) (c tk k b N : Int) (h : s.Ok N) (hk : U k) (hb : U b) : (opS s c tk k b).1.Ok (N + 1) ∧ Step s (opS s c tk k b).1 (opS s c tk k b).2.1 (opS s c tk k b).2.2 := by
  have hl := h.last.1
  unfold opS
  split
  · cases hg : getT s.tk tk with
    | some t => exact ⟨(h.com hg).more (by omega), rfl, rfl, fun e => absurd rfl e, fun e => absurd rfl e, fun _ => rfl⟩
    | none => exact ⟨h.more (by omega), rfl, rfl, fun _ => ⟨rfl, rfl⟩, fun e => absurd rfl e, fun _ => rfl⟩
  · split
    · cases hg : getT s.tk tk with
      | some t => exact ⟨(h.ref hg).more (by omega), rfl, rfl, fun e => absurd rfl e, fun e => absurd rfl e, fun _ => rfl⟩
      | none => exact ⟨h.more (by omega), rfl, rfl, fun _ => ⟨rfl, rfl⟩, fun e => absurd rfl e, fun _ => rfl⟩
    · split
      · refine ⟨(h.take hk hb).more (by omega), ?_⟩
        unfold takeIf codeOf
        cases fitB s k b <;> exact ⟨rfl, rfl, by simp, by simp, fun _ => rfl⟩
      · split
        · refine ⟨(h.pay hk hb).more (by omega), ?_⟩
          unfold payIf codeOf
          cases payB s k b <;> exact ⟨rfl, rfl, by simp, by simp, fun _ => rfl⟩
        · split
          · rename_i hf
            exact ⟨h.res hk hb hf, rfl, rfl, fun e => absurd rfl e, fun _ => ⟨rfl, rfl⟩, fun e => by show s.last + 1 = s.last; have : s.last + 1 = 0 := e; omega⟩
          · exact ⟨h.more (by omega), rfl, rfl, fun _ => ⟨rfl, rfl⟩, fun e => absurd rfl e, fun _ => rfl⟩


abbrev deedV (c tk k b : Int) : Value := .agg #[.int .i64 c, .int .i64 tk, .int .u64 k, .int .u64 b]

theorem act_any {W : World} {p a m : Nat} {s : Pu} {N : Int} (c tk k b : Int) (h : At W p a m s) (ho : s.Ok N) (hN : N ≤ 1000000000) (hk : U k) (hb : U b) :
    Calls Try.prog 23 #[.pointer (some ⟨p, 0, none⟩), deedV c tk k b] W fun e w' => e = .returned (.tuple #[.int .i64 (opS s (c % 6) tk k b).2.1, .int .i64 (opS s (c % 6) tk k b).2.2]) ∧ Turned [a, m] W w' ∧ At w' p a m (opS s (c % 6) tk k b).1 := by
  have hx0 := Int.emod_nonneg c (show (6 : Int) ≠ 0 by decide)
  have hx1 := Int.emod_lt_of_pos c (show (0 : Int) < 6 by decide)
  have HK := Lib.hid (pick_any c 6 (by decide) (by decide))
  obtain ⟨x, hx⟩ : ∃ x, c % 6 = x := ⟨_, rfl⟩
  rw [hx] at hx0 hx1 HK ⊢
  have B0 := (Below.refl W.heap.size W).alloc (Nat.le_refl _) (.cells #[.int .i64 c, .int .i64 tk, .int .u64 k, .int .u64 b] 35)
  have A0 := h.below B0
  have D := Fresh.new W W.heap.size #[.int .i64 c, .int .i64 tk, .int .u64 k, .int .u64 b] 35 rfl
  obtain ⟨W1, hW⟩ : ∃ W1, W1 = W.alloc (.cells #[.int .i64 c, .int .i64 tk, .int .u64 k, .int .u64 b] 35) := ⟨_, rfl⟩
  rw [← hW] at B0 A0 D
  have d0 := D.cell 0
  have d1 := D.cell 1
  have d2 := D.cell 2
  have d3 := D.cell 3
  simp only [List.getElem?_toArray, List.getElem?_cons_zero, List.getElem?_cons_succ] at d0 d1 d2 d3
  have HB := Lib.hid B0
  have HW := Lib.hid hW
  have HF := Lib.hid ho.fit
  have HKB := Lib.hid (And.intro hk hb)
  -- what the call comes to
  obtain ⟨r, hr⟩ : ∃ r, opS s x tk k b = r := ⟨_, rfl⟩
  rw [hr]
  rcases (show x = 2 ∨ x = 3 ∨ x = 4 ∨ x = 5 ∨ (x = 0 ∨ x = 1) from by omega) with rfl | rfl | rfl | rfl | hx01
  · have HC : Hid (Calls Try.prog 15 #[.pointer (some ⟨p, 0, none⟩), .int .i64 tk] W1 fun e w' => e = .returned (.int .i64 r.2.2) ∧ Turned [a, m] W1 w' ∧ At w' p a m r.1) ∧ r.2.1 = 0 := by
      have hr' : opS s 2 tk k b = match getT s.tk tk with | some t => (comP s t, 0, 0) | none => (s, 0, 5) := by unfold opS; simp
      rw [hr'] at hr
      cases hg : getT s.tk tk with
      | some t =>
        rw [hg] at hr
        subst hr
        obtain ⟨q1, q2, q3, q4, q5⟩ := ho.tick hg
        exact ⟨commit_yes tk t A0 ho.uniq hg ho.hk q2 (by have := ho.sk; have := ho.bk; have := ho.lk.2; omega) ho.hb q4 (by have := ho.sb; have := ho.bb; have := ho.lb.2; omega), rfl⟩
      | none =>
        rw [hg] at hr
        subst hr
        exact ⟨commit_no tk A0 ho.uniq hg, rfl⟩
    obtain ⟨HC, e1⟩ := HC
    rw [e1]
    clear hr e1 A0 D B0 hW h ho hk hb hx hx0 hx1
    go_enter Try.func23, Try.ntmps23
    go_wp2_with fail
    rw [← HW.out]
    refine (HK.out _).mono ?_
    rintro e w2 ⟨rfl, hw2⟩
    subst hw2
    go_wp2_with fail
    refine HC.out.mono ?_
    rintro e w3 ⟨rfl, ht, ha⟩
    have H1 := Lib.hid ht
    have H2 := Lib.hid ha
    clear ht ha
    go_wp2_with fail
    go_ret2
    exact ⟨rfl, (Turned.of_below HB.out).trans H1.out, H2.out⟩
  · have HC : Hid (Calls Try.prog 16 #[.pointer (some ⟨p, 0, none⟩), .int .i64 tk] W1 fun e w' => e = .returned (.int .i64 r.2.2) ∧ Turned [a, m] W1 w' ∧ At w' p a m r.1) ∧ r.2.1 = 0 := by
      have hr' : opS s 3 tk k b = match getT s.tk tk with | some t => (refP s t, 0, 0) | none => (s, 0, 5) := by unfold opS; simp
      rw [hr'] at hr
      cases hg : getT s.tk tk with
      | some t =>
        rw [hg] at hr
        subst hr
        obtain ⟨q1, q2, q3, q4, q5⟩ := ho.tick hg
        exact ⟨refund_yes tk t A0 ho.uniq hg q2 (by have := ho.sk; have := ho.hk; omega) (by have := ho.bk; have := ho.lk.2; omega) q4 (by have := ho.sb; have := ho.hb; omega) (by have := ho.bb; have := ho.lb.2; omega), rfl⟩
      | none =>
        rw [hg] at hr
        subst hr
        exact ⟨refund_no tk A0 ho.uniq hg, rfl⟩
    obtain ⟨HC, e1⟩ := HC
    rw [e1]
    clear hr e1 A0 D B0 hW h ho hk hb hx hx0 hx1
    go_enter Try.func23, Try.ntmps23
    go_wp2_with fail
    rw [← HW.out]
    refine (HK.out _).mono ?_
    rintro e w2 ⟨rfl, hw2⟩
    subst hw2
    go_wp2_with fail
    refine HC.out.mono ?_
    rintro e w3 ⟨rfl, ht, ha⟩
    have H1 := Lib.hid ht
    have H2 := Lib.hid ha
    clear ht ha
    go_wp2_with fail
    go_ret2
    exact ⟨rfl, (Turned.of_below HB.out).trans H1.out, H2.out⟩
  · have HC : Hid (Calls Try.prog 17 #[.pointer (some ⟨p, 0, none⟩), .int .u64 k, .int .u64 b] W1 fun e w' => e = .returned (.int .i64 r.2.2) ∧ Turned [a, m] W1 w' ∧ At w' p a m r.1) ∧ r.2.1 = 0 := by
      have hr' : opS s 4 tk k b = (takeIf s k b, 0, codeOf (fitB s k b)) := by unfold opS; simp
      rw [hr'] at hr
      subst hr
      exact ⟨ptake_any k b A0 ho.fit hk hb, rfl⟩
    obtain ⟨HC, e1⟩ := HC
    rw [e1]
    clear hr e1 A0 D B0 hW h ho hk hb hx hx0 hx1
    go_enter Try.func23, Try.ntmps23
    go_wp2_with fail
    rw [← HW.out]
    refine (HK.out _).mono ?_
    rintro e w2 ⟨rfl, hw2⟩
    subst hw2
    go_wp2_with fail
    refine HC.out.mono ?_
    rintro e w3 ⟨rfl, ht, ha⟩
    have H1 := Lib.hid ht
    have H2 := Lib.hid ha
    clear ht ha
    go_wp2_with fail
    go_ret2
    exact ⟨rfl, (Turned.of_below HB.out).trans H1.out, H2.out⟩
  · have HC : Hid (Calls Try.prog 18 #[.pointer (some ⟨p, 0, none⟩), .int .u64 k, .int .u64 b] W1 fun e w' => e = .returned (.int .i64 r.2.2) ∧ Turned [a, m] W1 w' ∧ At w' p a m r.1) ∧ r.2.1 = 0 := by
      have hr' : opS s 5 tk k b = (payIf s k b, 0, codeOf (payB s k b)) := by unfold opS; simp
      rw [hr'] at hr
      subst hr
      exact ⟨ppay_any k b A0 ho.fit hk hb, rfl⟩
    obtain ⟨HC, e1⟩ := HC
    rw [e1]
    clear hr e1 A0 D B0 hW h ho hk hb hx hx0 hx1
    go_enter Try.func23, Try.ntmps23
    go_wp2_with fail
    rw [← HW.out]
    refine (HK.out _).mono ?_
    rintro e w2 ⟨rfl, hw2⟩
    subst hw2
    go_wp2_with fail
    refine HC.out.mono ?_
    rintro e w3 ⟨rfl, ht, ha⟩
    have H1 := Lib.hid ht
    have H2 := Lib.hid ha
    clear ht ha
    go_wp2_with fail
    go_ret2
    exact ⟨rfl, (Turned.of_below HB.out).trans H1.out, H2.out⟩
  · have HC : Hid (Calls Try.prog 14 #[.pointer (some ⟨p, 0, none⟩), .int .u64 k, .int .u64 b] W1 fun e w' => e = .returned (.tuple #[.int .i64 r.2.1, .int .i64 r.2.2]) ∧ Turned [a, m] W1 w' ∧ At w' p a m r.1) := by
      have hr' : opS s x tk k b = if fitB s k b = true then (resP s k b, s.last + 1, 0) else (s, 0, 10) := by
        unfold opS
        rw [if_neg (by omega), if_neg (by omega), if_neg (by omega), if_neg (by omega)]
      rw [hr'] at hr
      cases hf : fitB s k b with
      | true =>
        rw [hf, if_pos rfl] at hr
        subst hr
        exact preserve_yes k b A0 ho.fit hk hb hf ho.uniq ho.next ho.last.1 (by have := ho.last.2; omega)
      | false =>
        rw [hf, if_neg (by decide)] at hr
        subst hr
        exact preserve_no k b A0 ho.fit hk hb hf
    have hn2 : ¬ x = 2 := by omega
    have hn3 : ¬ x = 3 := by omega
    have hn4 : ¬ x = 4 := by omega
    have hn5 : ¬ x = 5 := by omega
    clear hr A0 D B0 hW h ho hk hb hx hx0 hx1 hx01
    go_enter Try.func23, Try.ntmps23
    go_wp2_with fail
    rw [← HW.out]
    refine (HK.out _).mono ?_
    rintro e w2 ⟨rfl, hw2⟩
    subst hw2
    go_wp2_with fail
    refine HC.out.mono ?_
    rintro e w3 ⟨rfl, ht, ha⟩
    have H1 := Lib.hid ht
    have H2 := Lib.hid ha
    clear ht ha
    go_wp2_with fail
    go_ret2
    exact ⟨rfl, (Turned.of_below HB.out).trans H1.out, H2.out⟩

end Go.Proofs.Ytpnddccanelcnaa
