/- The walk of PurseBound. -/
import Derived.Test.YtpnddccanelcnaaAwake
namespace Go.Proofs.Ytpnddccanelcnaa
open Go.RowKit
set_option maxRecDepth 100000
set_option maxHeartbeats 8000000

/-- The operations among a law's arguments. -/
def IsDeeds (W : World) (ao : Option Addr) (len : Nat) : Prop := len ≤ 9223372036854775807 ∧ (len = 0 ∨ ∃ g off, ao = some ⟨g, off, none⟩ ∧ g < W.heap.size ∧
  ∀ i, i < len → ∃ c t k b : Int, U k ∧ U b ∧ W.cell? ⟨g, off + i * 4, none⟩ = some (.int .i64 c) ∧ W.cell? ⟨g, off + i * 4 + 1, none⟩ = some (.int .i64 t) ∧ W.cell? ⟨g, off + i * 4 + 2, none⟩ = some (.int .u64 k) ∧ W.cell? ⟨g, off + i * 4 + 3, none⟩ = some (.int .u64 b))
theorem IsDeeds.below {W W' : World} {ao : Option Addr} {len : Nat} (h : IsDeeds W ao len) (hb : Below W.heap.size W W') : IsDeeds W' ao len := by
  refine ⟨h.1, ?_⟩
  rcases h.2 with h | ⟨g, off, h1, h2, h3⟩
  · exact .inl h
  · refine .inr ⟨g, off, h1, Nat.lt_of_lt_of_le h2 hb.size, fun i hi => ?_⟩
    obtain ⟨c, t, k, b, u1, u2, e0, e1, e2, e3⟩ := h3 i hi
    exact ⟨c, t, k, b, u1, u2, by rw [hb.cell (p := ⟨g, off + i * 4, none⟩) h2]; exact e0, by rw [hb.cell (p := ⟨g, off + i * 4 + 1, none⟩) h2]; exact e1, by rw [hb.cell (p := ⟨g, off + i * 4 + 2, none⟩) h2]; exact e2, by rw [hb.cell (p := ⟨g, off + i * 4 + 3, none⟩) h2]; exact e3⟩

theorem purseBound_walk (lk lb : Int) (ao : Option Addr) (len cap : Nat) (w : World) (hk : U lk) (hb : U lb) (hd : IsDeeds w ao len) :
    Calls Try.prog 6 #[lim lk lb, .slice ao len cap] w fun e w' => e = .returned (.bool true) ∧ Below w.heap.size w w' := by
  have HU := Lib.hid (And.intro hk hb)
  have HD := Lib.hid hd
  have hlen := hd.1
  clear hk hb hd
  go_enter Try.func6, Try.ntmps6
  go_wp2_with fail
  obtain ⟨W0, hW0⟩ : ∃ W0, W0 = w.alloc (.cells #[.int .u64 lk, .int .u64 lb] 24) := ⟨_, rfl⟩
  rw [← hW0]
  have HB0 : Hid (Below w.heap.size w W0) := by show Below _ _ _; rw [hW0]; exact Below.new (Below.refl _ _) _
  have HL0 : Hid (Fresh W0 w.heap.size #[.int .u64 lk, .int .u64 lb] 24) := by show Fresh _ _ _ _; rw [hW0]; exact Fresh.new _ _ _ _ rfl
  clear hW0
  refine (awake_any _).mono ?_
  rintro e w1 ⟨rfl, hb1⟩
  have HB1 := Lib.hid (Below.step HB0.out hb1)
  have HL1 := Lib.hid (HL0.out.below hb1)
  clear hb1
  have l0 := HL1.out.cell 0
  have l1 := HL1.out.cell 1
  simp only [List.getElem?_toArray, List.getElem?_cons_zero, List.getElem?_cons_succ] at l0 l1
  go_wp2_with fail
  refine (new_any lk lb _).mono ?_
  rintro e w2 ⟨p, a, m, hp, ha, hm, rfl, hb2, hat⟩
  have HS : Hid (∀ k ∈ [a, m], w1.heap.size ≤ k) := by intro k hk; simp at hk; rcases hk with rfl | rfl <;> assumption
  have HSw : Hid (∀ k ∈ [a, m], w.heap.size ≤ k) := fun k hk => Nat.le_trans HB1.out.size (HS.out k hk)
  have HLn : Hid (w.heap.size ∉ [a, m]) := by
    intro e
    have := HS.out _ e
    have := HL1.out.lt
    omega
  have HB2 := Lib.hid (Below.step HB1.out hb2)
  have HL2 := Lib.hid (HL1.out.below hb2)
  have HA2 := Lib.hid hat
  clear hp ha hm hb2 hat l0 l1
  go_wp2_with fail
  go_loopw [6, 7] (fun lt it wr => ∃ (i : Nat) (s : Pu), i ≤ len ∧ i ≤ 100 ∧ it = .int .i64 i ∧ lt = .int .i64 s.last ∧ s.lk = lk ∧ s.lb = lb ∧ s.Ok i ∧ Below w.heap.size w wr ∧ At wr p a m s ∧ Fresh wr w.heap.size #[.int .u64 lk, .int .u64 lb] 24) (fun _ it _ => 100 - (intOf it).toNat)
  case atStart => exact ⟨0, ⟨lk, lb, 0, 0, 0, 0, 0, []⟩, by omega, by omega, rfl, rfl, rfl, rfl, ok_new lk lb HU.out.1 HU.out.2, HB2.out, HA2.out, HL2.out⟩
  case round =>
    obtain ⟨i, s, hi, hi100, rfl, rfl, hlk, hlb, hok, hB, hA, hL⟩ := hrel
    have HB := Lib.hid hB
    have HA := Lib.hid hA
    have HL := Lib.hid hL
    have HO := Lib.hid hok
    have HLK := Lib.hid (And.intro hlk hlb)
    clear hB hA hL hok hlk hlb
    by_cases hgo : i < len ∧ i < 100
    · obtain ⟨g1, g2⟩ := hgo
      have q1 : (i : Int) < (len : Int) := by omega
      have q2 : (i : Int) < 100 := by omega
      have q3 : decide (i < len) = true := decide_eq_true g1
      have q0 : (0 : Int) ≤ (i : Int) := Int.natCast_nonneg _
      have HI := Lib.hid (And.intro g1 g2)
      obtain ⟨g, off, rfl, hg, hc⟩ : ∃ g off, ao = some ⟨g, off, none⟩ ∧ g < w.heap.size ∧ ∀ i, i < len → ∃ c t k b : Int, U k ∧ U b ∧ w.cell? ⟨g, off + i * 4, none⟩ = some (.int .i64 c) ∧ w.cell? ⟨g, off + i * 4 + 1, none⟩ = some (.int .i64 t) ∧ w.cell? ⟨g, off + i * 4 + 2, none⟩ = some (.int .u64 k) ∧ w.cell? ⟨g, off + i * 4 + 3, none⟩ = some (.int .u64 b) := by
        rcases HD.out.2 with h | h
        · omega
        · exact h
      obtain ⟨c, t, k, b, u1, u2, e0, e1, e2, e3⟩ := hc i g1
      have HC := Lib.hid (And.intro u1 u2)
      have HG : Hid (∀ W, Below w.heap.size w W → W.cell? ⟨g, off + i * 4, none⟩ = some (.int .i64 c) ∧ W.cell? ⟨g, off + i * 4 + 1, none⟩ = some (.int .i64 t) ∧ W.cell? ⟨g, off + i * 4 + 2, none⟩ = some (.int .u64 k) ∧ W.cell? ⟨g, off + i * 4 + 3, none⟩ = some (.int .u64 b)) := fun W hb =>
        ⟨by rw [hb.cell (p := ⟨g, off + i * 4, none⟩) hg]; exact e0, by rw [hb.cell (p := ⟨g, off + i * 4 + 1, none⟩) hg]; exact e1, by rw [hb.cell (p := ⟨g, off + i * 4 + 2, none⟩) hg]; exact e2, by rw [hb.cell (p := ⟨g, off + i * 4 + 3, none⟩) hg]; exact e3⟩
      clear hc u1 u2 e0 e1 e2 e3 hg g1 g2 hi hi100
      go_wp2_with fail
      refine (has_any HA.out).mono ?_
      rintro e v1 ⟨rfl, hb1⟩
      have HB3 := Lib.hid (Below.step HB.out hb1)
      have HA3 := Lib.hid (HA.out.below hb1)
      have HL3 := Lib.hid (HL.out.below hb1)
      clear hb1
      go_wp2_with fail
      refine (bound_any HA3.out).mono ?_
      rintro e v2 ⟨rfl, hb1⟩
      have HB4 := Lib.hid (Below.step HB3.out hb1)
      have HA4 := Lib.hid (HA3.out.below hb1)
      have HL4 := Lib.hid (HL3.out.below hb1)
      clear hb1
      go_wp2_with fail
      refine (open_any HA4.out).mono ?_
      rintro e v3 ⟨rfl, hv3⟩
      subst hv3
      obtain ⟨e0, e1, e2, e3⟩ := HG.out v3 HB4.out
      have hgv : g < v3.heap.size := World.block_lt_of_cell? v3 _ e0
      have HA5 := Lib.hid (HA4.out.below (Below.new (Below.new (Below.refl v3.heap.size v3) (.cells #[.int .u64 s.hk, .int .u64 s.hb] 24)) (.cells #[.int .u64 s.bk, .int .u64 s.bb] 24)))
      have HL5 := Lib.hid ((HL4.out.alloc (.cells #[.int .u64 s.hk, .int .u64 s.hb] 24)).alloc (.cells #[.int .u64 s.bk, .int .u64 s.bb] 24))
      have HB5 := Lib.hid (Below.new (Below.new HB4.out (.cells #[.int .u64 s.hk, .int .u64 s.hb] 24)) (.cells #[.int .u64 s.bk, .int .u64 s.bb] 24))
      have HH5 := Lib.hid ((Fresh.new v3 v3.heap.size #[.int .u64 s.hk, .int .u64 s.hb] 24 rfl).alloc (.cells #[.int .u64 s.bk, .int .u64 s.bb] 24))
      have HN5 := Lib.hid (Fresh.new (v3.alloc (.cells #[.int .u64 s.hk, .int .u64 s.hb] 24)) (v3.heap.size + 1) #[.int .u64 s.bk, .int .u64 s.bb] 24 (by simp))
      go_wp2_with fail
      clear e0 e1 e2 e3 hgv
      refine (act_any c t k b HA5.out HO.out (by have := HI.out.2; omega) HC.out.1 HC.out.2).mono ?_
      obtain ⟨hok6, hstep⟩ := opS_step s (c % 6) t k b i HO.out HC.out.1 HC.out.2
      obtain ⟨⟨s', n, er⟩, hr⟩ : ∃ r : Pu × Int × Int, opS s (c % 6) t k b = r := ⟨_, rfl⟩
      rw [hr] at hok6 hstep ⊢
      dsimp only at hok6 hstep ⊢
      rintro e w6 ⟨rfl, ht6, ha6⟩
      have HB6 := Lib.hid (ht6.below HB5.out HSw.out HB5.out.size)
      have HA6 := Lib.hid ha6
      have HL6 := Lib.hid (ht6.other HL5.out HLn.out)
      have hn1 : v3.heap.size ∉ [a, m] := by
        have h1 := HA4.out.ha.lt
        have h2 := HA4.out.hm.lt
        simp
        omega
      have hn2 : v3.heap.size + 1 ∉ [a, m] := by
        have h1 := HA4.out.ha.lt
        have h2 := HA4.out.hm.lt
        simp
        omega
      have HH6 := Lib.hid (ht6.other HH5.out hn1)
      have HN6 := Lib.hid (ht6.other HN5.out hn2)
      have HO6 := Lib.hid hok6
      have HK6 : Hid (s'.lk = lk ∧ s'.lb = lb) := ⟨hstep.lk.trans HLK.out.1, hstep.lb.trans HLK.out.2⟩
      have h0 := HH6.out.cell 0
      have h1 := HH6.out.cell 1
      have n0 := HN6.out.cell 0
      have n1 := HN6.out.cell 1
      simp only [List.getElem?_toArray, List.getElem?_cons_zero, List.getElem?_cons_succ] at h0 h1 n0 n1
      have g0 := fun d os => cell_regrown h0 d os
      have g1 := fun d os => cell_regrown h1 d os
      have g2 := fun d os => cell_regrown n0 d os
      have g3 := fun d os => cell_regrown n1 d os
      have harms : (er = 0 ∧ n = 0 ∧ s'.last = s.last) ∨ (er = 0 ∧ ¬ n = 0 ∧ n = s.last + 1 ∧ s'.last = s.last + 1) ∨ (¬ er = 0 ∧ s' = s ∧ n = 0) := by
        by_cases he : er = 0
        · by_cases hn : n = 0
          · exact .inl ⟨he, hn, hstep.old hn⟩
          · exact .inr (.inl ⟨he, hn, hstep.new hn⟩)
        · exact .inr (.inr ⟨he, hstep.same he⟩)
      have hla := HO.out.last
      clear ht6 ha6 hok6 hstep hr hn1 hn2
      have kw : IntKind.i64.wrap (s.last + 1) = s.last + 1 := IntWalk.i64_in _ (by have := HI.out.2; omega)
      have hla1 := hla.1
      clear hla
      have harms2 : ((er = 0 ∧ n = 0 ∧ Hid (s'.last = s.last)) ∨ (er = 0 ∧ ((n != 0) = true ∧ ¬ n = 0 ∧ n = s.last + 1) ∧ Hid (s'.last = s.last + 1))) ∨ (((er : Int) != 0) = true ∧ ¬ er = 0 ∧ s' = s ∧ n = 0) := by
        rcases harms with h | ⟨h1, h2, h3, h4⟩ | ⟨h1, h2⟩
        · exact .inl (.inl h)
        · exact .inl (.inr ⟨h1, ⟨by simpa using h2, h2, h3⟩, h4⟩)
        · exact .inr ⟨by simpa using h1, h1, h2⟩
      clear harms
      rcases harms2 with (⟨rfl, rfl, hL⟩ | ⟨rfl, ⟨hnb, hnn, rfl⟩, hL⟩) | ⟨he2, he, rfl, rfl⟩
      all_goals
        go_wp2_with fail
        have KA : Hid (∀ (d : Nat) (os : Array Obj), At (Sort.grow (redrawn w6 d) os) p a m s') := fun d os => HA6.out.below (below_regrown _ _ _)
        refine wp_region_quiet_below (by kernel_rfl) (by kernel_rfl) ?_
        repeat (any_goals (first | go_big_quiet_step (first
          | (go_at_call 19; exact Calls.regrown_of (has_any (KA.out _ _)))
          | (go_at_call 20; exact Calls.regrown_of (bound_any (KA.out _ _)))
          | (go_at_call 22; exact Calls.regrown_of ((open_any (KA.out _ _)).mono fun e w' h => ⟨h.1, by rw [h.2]; exact Below.refl _ _⟩))) | quiet_step (fail)))
        refine wpQuiet_nil ?_
        intro w7 hw7
        have hb7 : Below w6.heap.size w6 w7 := by obtain ⟨p, rfl⟩ := hw7; exact below_regrown _ _ _
        have HB7 := Lib.hid (Below.step HB6.out hb7)
        have HA7 := Lib.hid (HA6.out.below hb7)
        have HL7 := Lib.hid (HL6.out.below hb7)
        clear hw7 hb7 h0 h1 n0 n1 g0 g1 g2 g3
        go_wp2_with fail
        refine (has_any HA7.out).mono ?_
        rintro e w8 ⟨rfl, hb8⟩
        have HB8 := Lib.hid (Below.step HB7.out hb8)
        have HA8 := Lib.hid (HA7.out.below hb8)
        have HL8 := Lib.hid (HL7.out.below hb8)
        clear hb8
        go_wp2_with fail
        refine (bound_any HA8.out).mono ?_
        rintro e w9 ⟨rfl, hb9⟩
        have HB9 := Lib.hid (Below.step HB8.out hb9)
        have HA9 := Lib.hid (HA8.out.below hb9)
        have HL9 := Lib.hid (HL8.out.below hb9)
        clear hb9
        go_wp2_with fail
        refine (pleft_any HA9.out HO6.out.fit).mono ?_
        rw [HK6.out.1, HK6.out.2]
        rintro e w10 ⟨rfl, hb10⟩
        have HB10 := Lib.hid (Below.step HB9.out hb10)
        have HA10 := Lib.hid (HA9.out.below hb10)
        have HL10 := Lib.hid (HL9.out.below hb10)
        clear hb10
        have hf := HO6.out.fit
        have f1 : ¬ s'.bk < s'.hk := by have := hf.hk1; omega
        have f2 : ¬ s'.bb < s'.hb := by have := hf.hb1; omega
        have f3 : ¬ lk < s'.bk := by have := hf.bk1; have := HK6.out.1; omega
        have f4 : ¬ lb < s'.bb := by have := hf.bb1; have := HK6.out.2; omega
        have f5 : IntKind.u64.wrap (lk - s'.bk) = lk - s'.bk := by rw [wrapU]; have := hf.bk0; have := hf.bk1; have := HK6.out.1; have := hf.lk; omega
        have f6 : IntKind.u64.wrap (lb - s'.bb) = lb - s'.bb := by rw [wrapU]; have := hf.bb0; have := hf.bb1; have := HK6.out.2; have := hf.lb; omega
        have l0 := HL10.out.cell 0
        have l1 := HL10.out.cell 1
        simp only [List.getElem?_toArray, List.getElem?_cons_zero, List.getElem?_cons_succ] at l0 l1
        have ll := HL10.out.lt
        have ll1 : w.heap.size < w10.heap.size + 1 := by omega
        have ll2 : w.heap.size < w10.heap.size + 1 + 1 := by omega
        have ll3 : w.heap.size ≠ w10.heap.size := by omega
        have ll4 : w.heap.size ≠ w10.heap.size + 1 := by omega
        have ll5 : w.heap.size ≠ w10.heap.size + 1 + 1 := by omega
        clear hf
        go_wp2_with fail
        refine ⟨⟨i + 1, s', by have := HI.out.1; omega, by have := HI.out.2; omega, by go_num, by first | rw [hL.out] | rfl, HK6.out.1, HK6.out.2, HO6.out.more (by omega), Below.new (Below.new (Below.new HB10.out _) _) _, HA10.out.below (Below.new (Below.new (Below.new (Below.refl _ _) _) _) _), ((HL10.out.alloc _).alloc _).alloc _⟩, ?_⟩
        have := HI.out.2
        simp [intOf]
        omega
    · have hlen := HO.out.len
      have q9 : (s.tk.length : Int) ≤ s.last := hlen
      rcases (show ((i : Int) < (len : Int) ∧ decide (i < len) = true ∧ ¬ (i : Int) < 100) ∨ (¬ (i : Int) < (len : Int) ∧ decide (i < len) = false) from by
        by_cases e : i < len
        · exact .inl ⟨by omega, decide_eq_true e, by omega⟩
        · exact .inr ⟨by omega, decide_eq_false e⟩) with ⟨q1, q2, q3⟩ | ⟨q1, q2⟩
      all_goals
        clear hgo hi hi100
        go_wp2_with fail
        refine (open_any HA.out).mono ?_
        rintro e w5 ⟨rfl, hw5⟩
        subst hw5
        go_wp2_with fail
        go_ret
        exact ⟨rfl, HB.out⟩

end Go.Proofs.Ytpnddccanelcnaa
