/- The walk of PurseOnce. -/
import Derived.Test.YtpnddccanelcnaaBoundW
namespace Go.Proofs.Ytpnddccanelcnaa
open Go.RowKit
set_option maxRecDepth 100000
set_option maxHeartbeats 8000000

theorem getT_none_of {l : List Tk} {n : Int} (h : ∀ t ∈ l, t.n ≠ n) : getT l n = none := by
  unfold getT
  rw [List.find?_eq_none]
  intro t ht
  simpa using h t ht
theorem getT_snoc {l : List Tk} {t : Tk} (h : getT l t.n = none) : getT (l ++ [t]) t.n = some t := by
  unfold getT at *
  rw [List.find?_append, h]
  simp
theorem getT_del (l : List Tk) (n : Int) : getT (delT l n) n = none := getT_none_of (fun t ht => by
  have := (List.mem_filter.1 ht).2
  simpa using this)

theorem purseOnce_walk (lk lb : Int) (kp : Bool) (o : Int) (ao : Option Addr) (len cap : Nat) (w : World) (hk : U lk) (hb : U lb) (hd : IsDeeds w ao len) :
    Calls Try.prog 8 #[lim lk lb, .slice ao len cap, .bool kp, .int .i64 o] w fun e w' => e = .returned (.bool true) ∧ Below w.heap.size w w' := by
  have HU := Lib.hid (And.intro hk hb)
  have HD := Lib.hid hd
  have hlen := hd.1
  clear hk hb hd
  go_enter Try.func8, Try.ntmps8
  go_wp2_with fail
  obtain ⟨W0, hW0⟩ : ∃ W0, W0 = w.alloc (.cells #[.int .u64 lk, .int .u64 lb] 24) := ⟨_, rfl⟩
  rw [← hW0]
  have HB0 : Hid (Below w.heap.size w W0) := by show Below _ _ _; rw [hW0]; exact Below.new (Below.refl _ _) _
  have HL0 : Hid (Fresh W0 w.heap.size #[.int .u64 lk, .int .u64 lb] 24) := by show Fresh _ _ _ _; rw [hW0]; exact Fresh.new _ _ _ _ rfl
  clear hW0
  refine (awake_any _).mono ?_
  rintro e w1 ⟨rfl, hb1⟩
  have HB1 := Lib.hid (Below.step HB0.out hb1)
  have HL1 := Lib.hid (HL0.out.below hb1)
  clear hb1
  have l0 := HL1.out.cell 0
  have l1 := HL1.out.cell 1
  simp only [List.getElem?_toArray, List.getElem?_cons_zero, List.getElem?_cons_succ] at l0 l1
  go_wp2_with fail
  refine (new_any lk lb _).mono ?_
  rintro e w2 ⟨p, a, m, hp, ha, hm, rfl, hb2, hat⟩
  have HS : Hid (∀ k ∈ [a, m], w1.heap.size ≤ k) := by intro k hk; simp at hk; rcases hk with rfl | rfl <;> assumption
  have HSw : Hid (∀ k ∈ [a, m], w.heap.size ≤ k) := fun k hk => Nat.le_trans HB1.out.size (HS.out k hk)
  have HLn : Hid (w.heap.size ∉ [a, m]) := by
    intro e
    have := HS.out _ e
    have := HL1.out.lt
    omega
  have HB2 := Lib.hid (Below.step HB1.out hb2)
  have HL2 := Lib.hid (HL1.out.below hb2)
  have HA2 := Lib.hid hat
  clear hp ha hm hb2 hat l0 l1
  go_wp2_with fail
  go_loopw [10, 11] (fun lt it wr => ∃ (i : Nat) (s : Pu), i ≤ len ∧ i ≤ 100 ∧ it = .int .i64 i ∧ lt = .int .i64 s.last ∧ s.lk = lk ∧ s.lb = lb ∧ s.Ok i ∧ Below w.heap.size w wr ∧ At wr p a m s ∧ Fresh wr w.heap.size #[.int .u64 lk, .int .u64 lb] 24) (fun _ it _ => 100 - (intOf it).toNat)
  case atStart => exact ⟨0, ⟨lk, lb, 0, 0, 0, 0, 0, []⟩, by omega, by omega, rfl, rfl, rfl, rfl, ok_new lk lb HU.out.1 HU.out.2, HB2.out, HA2.out, HL2.out⟩
  case round =>
    obtain ⟨i, s, hi, hi100, rfl, rfl, hlk, hlb, hok, hB, hA, hL⟩ := hrel
    have HB := Lib.hid hB
    have HA := Lib.hid hA
    have HL := Lib.hid hL
    have HO := Lib.hid hok
    have HLK := Lib.hid (And.intro hlk hlb)
    clear hB hA hL hok hlk hlb
    by_cases hgo : i < len ∧ i < 100
    · obtain ⟨g1, g2⟩ := hgo
      have q1 : (i : Int) < (len : Int) := by omega
      have q2 : (i : Int) < 100 := by omega
      have q3 : decide (i < len) = true := decide_eq_true g1
      have q0 : (0 : Int) ≤ (i : Int) := Int.natCast_nonneg _
      have HI := Lib.hid (And.intro g1 g2)
      obtain ⟨g, off, rfl, hg, hc⟩ : ∃ g off, ao = some ⟨g, off, none⟩ ∧ g < w.heap.size ∧ ∀ i, i < len → ∃ c t k b : Int, U k ∧ U b ∧ w.cell? ⟨g, off + i * 4, none⟩ = some (.int .i64 c) ∧ w.cell? ⟨g, off + i * 4 + 1, none⟩ = some (.int .i64 t) ∧ w.cell? ⟨g, off + i * 4 + 2, none⟩ = some (.int .u64 k) ∧ w.cell? ⟨g, off + i * 4 + 3, none⟩ = some (.int .u64 b) := by
        rcases HD.out.2 with h | h
        · omega
        · exact h
      obtain ⟨c, t, k, b, u1, u2, e0, e1, e2, e3⟩ := hc i g1
      have HC := Lib.hid (And.intro u1 u2)
      have HG : Hid (∀ W, Below w.heap.size w W → W.cell? ⟨g, off + i * 4, none⟩ = some (.int .i64 c) ∧ W.cell? ⟨g, off + i * 4 + 1, none⟩ = some (.int .i64 t) ∧ W.cell? ⟨g, off + i * 4 + 2, none⟩ = some (.int .u64 k) ∧ W.cell? ⟨g, off + i * 4 + 3, none⟩ = some (.int .u64 b)) := fun W hb =>
        ⟨by rw [hb.cell (p := ⟨g, off + i * 4, none⟩) hg]; exact e0, by rw [hb.cell (p := ⟨g, off + i * 4 + 1, none⟩) hg]; exact e1, by rw [hb.cell (p := ⟨g, off + i * 4 + 2, none⟩) hg]; exact e2, by rw [hb.cell (p := ⟨g, off + i * 4 + 3, none⟩) hg]; exact e3⟩
      clear hc u1 u2 e0 e1 e2 e3 hg g1 g2 hi hi100
      obtain ⟨e0, e1, e2, e3⟩ := HG.out wr HB.out
      go_wp2_with fail
      clear e0 e1 e2 e3
      refine (act_any c t k b HA.out HO.out (by have := HI.out.2; omega) HC.out.1 HC.out.2).mono ?_
      obtain ⟨hok6, hstep⟩ := opS_step s (c % 6) t k b i HO.out HC.out.1 HC.out.2
      obtain ⟨⟨s', n, er⟩, hr⟩ : ∃ r : Pu × Int × Int, opS s (c % 6) t k b = r := ⟨_, rfl⟩
      rw [hr] at hok6 hstep ⊢
      dsimp only at hok6 hstep ⊢
      rintro e w6 ⟨rfl, ht6, ha6⟩
      have HB6 := Lib.hid (ht6.below HB.out HSw.out HB.out.size)
      have HA6 := Lib.hid ha6
      have HL6 := Lib.hid (ht6.other HL.out HLn.out)
      have HO6 := Lib.hid hok6
      have HK6 : Hid (s'.lk = lk ∧ s'.lb = lb) := ⟨hstep.lk.trans HLK.out.1, hstep.lb.trans HLK.out.2⟩
      have harms : (n = 0 ∧ Hid (s'.last = s.last)) ∨ (n = s.last + 1 ∧ Hid (s'.last = s.last + 1)) := by
        by_cases hn : n = 0
        · exact .inl ⟨hn, hstep.old hn⟩
        · exact .inr (hstep.new hn)
      have hla := HO.out.last
      have hla1 := hla.1
      clear ht6 ha6 hok6 hstep hr hla
      have m1 : ¬ s.last < 0 := by omega
      have m2 : ¬ s.last + 1 < s.last := by omega
      have m3 : s.last < s.last + 1 := by omega
      rcases harms with ⟨rfl, hL⟩ | ⟨rfl, hL⟩
      all_goals
        go_wp2_with fail
        all_goals
          refine ⟨⟨i + 1, s', by have := HI.out.1; omega, by have := HI.out.2; omega, by go_num, by (first | rw [hL.out] | (rw [hL.out]; rfl)), HK6.out.1, HK6.out.2, HO6.out.more (by omega), HB6.out, HA6.out, HL6.out⟩, ?_⟩
          have := HI.out.2
          simp [intOf]
          omega
    · rcases (show ((i : Int) < (len : Int) ∧ decide (i < len) = true ∧ ¬ (i : Int) < 100) ∨ (¬ (i : Int) < (len : Int) ∧ decide (i < len) = false) from by
        by_cases e : i < len
        · exact .inl ⟨by omega, decide_eq_true e, by omega⟩
        · exact .inr ⟨by omega, decide_eq_false e⟩) with ⟨q1, q2, q3⟩ | ⟨q1, q2⟩
      all_goals
        have hla := HO.out.last
        have hfit : fitB s 0 0 = true := by
          have hf := HO.out.fit
          unfold fitB
          simp
          have := hf.bk1
          have := hf.bb1
          omega
        have hi2 : (i : Int) ≤ 100 := by omega
        have u0 : U 0 := u_lit 0 (by decide)
        have HR := Lib.hid (preserve_yes 0 0 HA.out HO.out.fit u0 u0 hfit HO.out.uniq HO.out.next hla.1 (by omega))
        have HO1 := Lib.hid (HO.out.res u0 u0 hfit)
        have hg1 : getT (resP s 0 0).tk (s.last + 1) = some ⟨s.last + 1, 0, 0⟩ := getT_snoc (t := ⟨s.last + 1, 0, 0⟩) HO.out.next
        have HG1 := Lib.hid hg1
        have hdel : ∀ n, ¬ (1 ≤ n ∧ n ≤ s.last) → getT (delT (resP s 0 0).tk (s.last + 1)) n = none := by
          intro n hn
          refine getT_none_of (fun t ht e => ?_)
          have h1 := (List.mem_filter.1 ht).2
          have h2 := HO1.out.keys t (mem_del ht)
          have h3 : (resP s 0 0).last = s.last + 1 := rfl
          simp at h1
          omega
        have HD := Lib.hid hdel
        have kw : IntKind.i64.wrap (s.last + 1) = s.last + 1 := IntWalk.i64_in _ (by omega)
        have hl1 := hla.1
        clear hgo hi hi100 hla hfit hg1 hdel u0
        go_wp2_with fail
        refine HR.out.mono ?_
        rintro e v1 ⟨rfl, ht, ha⟩
        have HB1' := Lib.hid (ht.below HB.out HSw.out HB.out.size)
        have HA1' := Lib.hid ha
        clear ht ha
        obtain ⟨q1, q2, q3, q4, q5⟩ := HO1.out.tick HG1.out
        have hf1 := HO1.out.fit
        have HC1 : Hid (Calls Try.prog 15 #[.pointer (some ⟨p, 0, none⟩), .int .i64 (s.last + 1)] v1 fun e w' => e = .returned (.int .i64 0) ∧ Turned [a, m] v1 w' ∧ At w' p a m (comP (resP s 0 0) ⟨s.last + 1, 0, 0⟩)) :=
          commit_yes (s.last + 1) ⟨s.last + 1, 0, 0⟩ HA1'.out HO1.out.uniq HG1.out hf1.hk0 q2 (by show (resP s 0 0).hk + 0 < _; have := hf1.hk1; have := hf1.bk1; have := hf1.lk; omega) hf1.hb0 q4 (by show (resP s 0 0).hb + 0 < _; have := hf1.hb1; have := hf1.bb1; have := hf1.lb; omega)
        have HF1 : Hid (Calls Try.prog 16 #[.pointer (some ⟨p, 0, none⟩), .int .i64 (s.last + 1)] v1 fun e w' => e = .returned (.int .i64 0) ∧ Turned [a, m] v1 w' ∧ At w' p a m (refP (resP s 0 0) ⟨s.last + 1, 0, 0⟩)) :=
          refund_yes (s.last + 1) ⟨s.last + 1, 0, 0⟩ HA1'.out HO1.out.uniq HG1.out q2 (by show 0 ≤ (resP s 0 0).bk; exact hf1.bk0) (by have := hf1.bk1; have := hf1.lk; omega) q4 (by show 0 ≤ (resP s 0 0).bb; exact hf1.bb0) (by have := hf1.bb1; have := hf1.lb; omega)
        have HOc := Lib.hid (HO1.out.com HG1.out)
        have HOr := Lib.hid (HO1.out.ref HG1.out)
        clear q1 q2 q3 q4 q5 hf1
        -- what comes behind, whatever state is reached
        cases kp
        · go_wp2_with fail
          refine HF1.out.mono ?_
          rintro e v2 ⟨rfl, ht, ha⟩
          have HB2' := Lib.hid (ht.below HB1'.out HSw.out HB1'.out.size)
          have HA2' := Lib.hid ha
          have HU2 := Lib.hid HOr.out.uniq
          have HD2 : Hid (∀ n, ¬ (1 ≤ n ∧ n ≤ s.last) → getT (refP (resP s 0 0) ⟨s.last + 1, 0, 0⟩).tk n = none) := HD.out
          obtain ⟨S, hS⟩ : ∃ S, S = refP (resP s 0 0) ⟨s.last + 1, 0, 0⟩ := ⟨_, rfl⟩
          rw [← hS] at HA2' HU2 HD2
          clear ht ha hS
          go_wp2_with fail
          refine (commit_no (s.last + 1) HA2'.out HU2.out (HD2.out _ (by omega))).mono ?_
          rintro e v3 ⟨rfl, ht, ha⟩
          have HB3' := Lib.hid (ht.below HB2'.out HSw.out HB2'.out.size)
          have HA3' := Lib.hid ha
          clear ht ha
          go_wp2_with fail
          refine (refund_no (s.last + 1) HA3'.out HU2.out (HD2.out _ (by omega))).mono ?_
          rintro e v4 ⟨rfl, ht, ha⟩
          have HB4' := Lib.hid (ht.below HB3'.out HSw.out HB3'.out.size)
          have HA4' := Lib.hid ha
          clear ht ha
          rcases (show (1 ≤ o ∧ o ≤ s.last) ∨ (¬ 1 ≤ o) ∨ (1 ≤ o ∧ ¬ o ≤ s.last) from by omega) with ⟨o1, o2⟩ | o1 | ⟨o1, o2⟩
          · go_wp2_with fail
            go_ret
            exact ⟨rfl, HB4'.out⟩
          · have hno := HD2.out o (by omega)
            have HNO := Lib.hid hno
            clear hno
            go_wp2_with fail
            refine (commit_no o HA4'.out HU2.out HNO.out).mono ?_
            rintro e v5 ⟨rfl, ht, ha⟩
            have HB5' := Lib.hid (ht.below HB4'.out HSw.out HB4'.out.size)
            have HA5' := Lib.hid ha
            clear ht ha
            go_wp2_with fail
            refine (refund_no o HA5'.out HU2.out HNO.out).mono ?_
            rintro e v6 ⟨rfl, ht, ha⟩
            have HB6' := Lib.hid (ht.below HB5'.out HSw.out HB5'.out.size)
            clear ht ha
            go_wp2_with fail
            go_ret
            exact ⟨rfl, HB6'.out⟩
          · have hno := HD2.out o (by omega)
            have HNO := Lib.hid hno
            clear hno
            go_wp2_with fail
            refine (commit_no o HA4'.out HU2.out HNO.out).mono ?_
            rintro e v5 ⟨rfl, ht, ha⟩
            have HB5' := Lib.hid (ht.below HB4'.out HSw.out HB4'.out.size)
            have HA5' := Lib.hid ha
            clear ht ha
            go_wp2_with fail
            refine (refund_no o HA5'.out HU2.out HNO.out).mono ?_
            rintro e v6 ⟨rfl, ht, ha⟩
            have HB6' := Lib.hid (ht.below HB5'.out HSw.out HB5'.out.size)
            clear ht ha
            go_wp2_with fail
            go_ret
            exact ⟨rfl, HB6'.out⟩
        · go_wp2_with fail
          refine HC1.out.mono ?_
          rintro e v2 ⟨rfl, ht, ha⟩
          have HB2' := Lib.hid (ht.below HB1'.out HSw.out HB1'.out.size)
          have HA2' := Lib.hid ha
          have HU2 := Lib.hid HOc.out.uniq
          have HD2 : Hid (∀ n, ¬ (1 ≤ n ∧ n ≤ s.last) → getT (comP (resP s 0 0) ⟨s.last + 1, 0, 0⟩).tk n = none) := HD.out
          obtain ⟨S, hS⟩ : ∃ S, S = comP (resP s 0 0) ⟨s.last + 1, 0, 0⟩ := ⟨_, rfl⟩
          rw [← hS] at HA2' HU2 HD2
          clear ht ha hS
          go_wp2_with fail
          refine (commit_no (s.last + 1) HA2'.out HU2.out (HD2.out _ (by omega))).mono ?_
          rintro e v3 ⟨rfl, ht, ha⟩
          have HB3' := Lib.hid (ht.below HB2'.out HSw.out HB2'.out.size)
          have HA3' := Lib.hid ha
          clear ht ha
          go_wp2_with fail
          refine (refund_no (s.last + 1) HA3'.out HU2.out (HD2.out _ (by omega))).mono ?_
          rintro e v4 ⟨rfl, ht, ha⟩
          have HB4' := Lib.hid (ht.below HB3'.out HSw.out HB3'.out.size)
          have HA4' := Lib.hid ha
          clear ht ha
          rcases (show (1 ≤ o ∧ o ≤ s.last) ∨ (¬ 1 ≤ o) ∨ (1 ≤ o ∧ ¬ o ≤ s.last) from by omega) with ⟨o1, o2⟩ | o1 | ⟨o1, o2⟩
          · go_wp2_with fail
            go_ret
            exact ⟨rfl, HB4'.out⟩
          · have hno := HD2.out o (by omega)
            have HNO := Lib.hid hno
            clear hno
            go_wp2_with fail
            refine (commit_no o HA4'.out HU2.out HNO.out).mono ?_
            rintro e v5 ⟨rfl, ht, ha⟩
            have HB5' := Lib.hid (ht.below HB4'.out HSw.out HB4'.out.size)
            have HA5' := Lib.hid ha
            clear ht ha
            go_wp2_with fail
            refine (refund_no o HA5'.out HU2.out HNO.out).mono ?_
            rintro e v6 ⟨rfl, ht, ha⟩
            have HB6' := Lib.hid (ht.below HB5'.out HSw.out HB5'.out.size)
            clear ht ha
            go_wp2_with fail
            go_ret
            exact ⟨rfl, HB6'.out⟩
          · have hno := HD2.out o (by omega)
            have HNO := Lib.hid hno
            clear hno
            go_wp2_with fail
            refine (commit_no o HA4'.out HU2.out HNO.out).mono ?_
            rintro e v5 ⟨rfl, ht, ha⟩
            have HB5' := Lib.hid (ht.below HB4'.out HSw.out HB4'.out.size)
            have HA5' := Lib.hid ha
            clear ht ha
            go_wp2_with fail
            refine (refund_no o HA5'.out HU2.out HNO.out).mono ?_
            rintro e v6 ⟨rfl, ht, ha⟩
            have HB6' := Lib.hid (ht.below HB5'.out HSw.out HB5'.out.size)
            clear ht ha
            go_wp2_with fail
            go_ret
            exact ⟨rfl, HB6'.out⟩
end Go.Proofs.Ytpnddccanelcnaa
