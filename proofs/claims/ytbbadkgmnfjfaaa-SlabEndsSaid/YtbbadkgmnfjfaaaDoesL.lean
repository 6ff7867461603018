/- The walk of SlabDoes. -/
import Derived.Test.YtbbadkgmnfjfaaaDoes
import Derived.Test.YtbbadkgmnfjfaaaAwake
import Derived.Test.YtbbadkgmnfjfaaaOpenD
namespace Go.Proofs.Ytbbadkgmnfjfaaa
open Go.RowKit
set_option maxRecDepth 100000
set_option maxHeartbeats 8000000

/-- What holds ahead of round i of SlabDoes. -/
def RoundD (w : World) (r gr N : Nat) (vs vt : Value) (i : Nat) (wr : World) : Prop := ∃ (p a g : Nat) (s : Sb) (T : List Rf), vs = .pointer (some ⟨p, 0, none⟩) ∧ St w.heap.size wr p a g r gr s N i vt T ∧ T.length ≤ i ∧ Below w.heap.size w wr

theorem slabDoes_any (slots : Int) (ao : Option Addr) (len cap : Nat) (w : World) (hs : I64 slots) (hd : IsDeeds w ao len) :
    Calls Try.prog 3 #[.int .i64 slots, .slice ao len cap] w fun e w' => e = .returned (.bool true) ∧ Below w.heap.size w w' := by
  by_cases hc : (200 < slots ∧ slots ≤ 4096) ∨ 200 < len
  · have hq : (decide ((200 : Int) < slots) = true ∧ decide (slots ≤ 4096) = true) ∨ (decide ((200 : Int) < slots) = true ∧ decide (slots ≤ 4096) = false ∧ decide ((200 : Int) < (len : Int)) = true) ∨ (decide ((200 : Int) < slots) = false ∧ decide ((200 : Int) < (len : Int)) = true) := by
      simp only [decide_eq_true_eq, decide_eq_false_iff_not]; omega
    clear hc hs hd
    rcases hq with ⟨q1, q2⟩ | ⟨q1, q2, q3⟩ | ⟨q1, q3⟩
    all_goals
      go_enter Try.func3, Try.ntmps3
      go_wp2_with fail
      refine (awake_any _).mono ?_
      rintro e w1 ⟨rfl, hb1⟩
      go_wp2_with fail
      go_ret
      exact ⟨rfl, hb1⟩
  have hlen : len ≤ 200 := by omega
  have q3 : decide ((200 : Int) < (len : Int)) = false := decide_eq_false (by omega)
  by_cases hN : 1 ≤ slots ∧ slots ≤ 4096
  · obtain ⟨N, rfl⟩ : ∃ N : Nat, slots = N := ⟨slots.toNat, by omega⟩
    have q1 : decide ((200 : Int) < (N : Int)) = false := decide_eq_false (by omega)
    have HC : Hid (1 ≤ N ∧ N ≤ 200 ∧ len ≤ 200) := ⟨by omega, by omega, hlen⟩
    have HD := Lib.hid hd
    clear hc hs hd hN hlen
    go_enter Try.func3, Try.ntmps3
    go_wp2_with fail
    refine (Si.new_yes N (by have := HC.out; omega) (by have := HC.out; omega) _).mono ?_
    rintro e w2 ⟨p, a, g, hp, ha, hg, rfl, hb2, h2⟩
    have HB2 := Lib.hid hb2
    have HA2 := Lib.hid (⟨hp, ha, hg, h2⟩ : _ ∧ _ ∧ _ ∧ _)
    clear hb2 h2 hp ha hg
    go_wp2_with fail
    refine (rnew_yes N (by have := HC.out; omega) (by have := HC.out; omega) _).mono ?_
    rintro e w3 ⟨r, gr, hr, hgr, rfl, hb3, h3⟩
    have HB3 := Lib.hid (Below.step HB2.out hb3)
    have HS : Hid (RoundD w r gr N (.pointer (some ⟨p, 0, none⟩)) (.slice none 0 0) 0 w3) := by
      obtain ⟨k1, k2, k3, k4⟩ := HA2.out
      have z := HB2.out.size
      refine ⟨p, a, g, _, [], rfl, ⟨k4.below hb3, h3, new_wf _ N, ?_, ⟨rfl, .inl ⟨rfl, rfl⟩⟩, by omega⟩, Nat.le_refl _, HB3.out⟩
      intro j t hj
      have := List.mem_of_getElem? hj
      simp only [newSb, List.mem_replicate] at this
      exact ⟨0, by rw [this.2]⟩
    clear hb3 h3 hr hgr
    go_wp2_with fail
    go_loopw [5, 9, 10] (fun vs vt iv wr => ∃ i : Nat, i ≤ len ∧ iv = .int .i64 i ∧ RoundD w r gr N vs vt i wr) (fun _ _ iv _ => len - (intOf iv).toNat)
    case atStart => exact ⟨0, by omega, rfl, HS.out⟩
    case round =>
      obtain ⟨i, hi, rfl, p, a, g, s, T, rfl, hS, hT, hB⟩ := hrel
      have i0 : (0 : Int) ≤ (i : Int) := by omega
      by_cases hlt : i < len
      · have i1 : (i : Int) < (len : Int) := by omega
        have i2 : decide (i < len) = true := decide_eq_true hlt
        obtain ⟨gd, od, rfl, d, hdok, hdat⟩ := HD.out.at' i hlt
        obtain ⟨hgl, d0, d1, d2, d3, d4⟩ := hdat _ hB
        have HX := Lib.hid (does_any hS (by have := HC.out; omega) (by have := HC.out; omega) hT (by have := hB.size; exact this) d hdok)
        have HB := Lib.hid hB
        have kw : IntKind.i64.wrap ((i : Int) + 1) = (i : Int) + 1 := IntWalk.i64_in _ (by have := HC.out; omega)
        clear hS hT hB hdok hdat
        go_wp2_with fail
        refine HX.out.mono ?_
        rintro e w4 ⟨p', a', g', s', vt', T', rfl, hS', hT', hB'⟩
        have HX' := Lib.hid (same_any hS'.sl hS'.rf hS'.wf (by have := HC.out; omega) (by have := HC.out; omega) hS'.nt)
        have HS' := Lib.hid (⟨hS', hT', hB'⟩ : _ ∧ _ ∧ _)
        clear hS' hT' hB' d0 d1 d2 d3 d4
        go_wp2_with fail
        refine HX'.out.mono ?_
        rintro e w5 ⟨rfl, hb5⟩
        have HR : Hid (RoundD w r gr N (.pointer (some ⟨p', 0, none⟩)) vt' (i + 1) w5) := by
          obtain ⟨k1, k2, k3⟩ := HS'.out
          have z := HB.out.size
          have z2 := k3.size
          exact ⟨p', a', g', s', T', rfl, k1.below hb5, k2, (HB.out.trans k3).trans (hb5.mono (by omega))⟩
        clear hb5
        go_wp2_with fail
        go_roundw
        case rel => exact ⟨i + 1, by omega, by first | rfl | go_num | (rw [kw]; rfl), HR.out⟩
        case measure => first | (simp [intOf]; omega) | (rw [kw]; simp [intOf]; omega)
      · obtain rfl : i = len := by omega
        have i1 : ¬ (i : Int) < (i : Int) := by omega
        have HX' := Lib.hid (same_any hS.sl hS.rf hS.wf (by have := HC.out; omega) (by have := HC.out; omega) hS.nt)
        have HB := Lib.hid hB
        clear hS hT hB hlt
        go_wp2_with fail
        refine HX'.out.mono ?_
        rintro e w5 ⟨rfl, hb5⟩
        have HB5 := Lib.hid ((HB.out).trans (hb5.mono HB.out.size))
        clear hb5
        go_wp2_with fail
        refine (awake_any _).mono ?_
        rintro e w6 ⟨rfl, hb6⟩
        have HB6 := Lib.hid (HB5.out.trans (hb6.mono HB5.out.size))
        clear hb6
        go_wp2_with fail
        go_ret
        exact ⟨rfl, HB6.out⟩
  · have hq : decide ((200 : Int) < slots) = false ∨ (decide ((200 : Int) < slots) = true ∧ decide (slots ≤ 4096) = false) := by
      simp only [decide_eq_true_eq, decide_eq_false_iff_not]; omega
    clear hc hs hd hlen
    rcases hq with q1 | ⟨q1, q2⟩
    all_goals
      have HN := Lib.hid hN
      clear hN
      go_enter Try.func3, Try.ntmps3
      go_wp2_with fail
      refine (Si.new_no slots HN.out _).mono ?_
      rintro e w2 ⟨rfl, hw2⟩
      replace hw2 := hw2.symm
      subst hw2
      go_wp2_with fail
      refine (rnew_no slots HN.out _).mono ?_
      rintro e w2 ⟨rfl, hw2⟩
      replace hw2 := hw2.symm
      subst hw2
      go_wp2_with fail
      refine (awake_any _).mono ?_
      rintro e w6 ⟨rfl, hb6⟩
      go_wp2_with fail
      go_ret
      exact ⟨rfl, hb6⟩
theorem slabDoes_walk (slots : Int) (ao : Option Addr) (len cap : Nat) (w : World) (h0 : (Lit.int .i64 slots).wf = true) (hd : IsDeeds w ao len) :
    Calls Try.prog 3 #[.int .i64 slots, .slice ao len cap] w fun e w' => e = .returned (.bool true) ∧ Below w.heap.size w w' := slabDoes_any slots ao len cap w (i64_wf h0) hd
end Go.Proofs.Ytbbadkgmnfjfaaa
