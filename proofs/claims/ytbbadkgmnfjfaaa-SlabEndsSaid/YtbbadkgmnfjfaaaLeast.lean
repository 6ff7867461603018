/- The walk of SlabLeast. -/
import Derived.Test.YtbbadkgmnfjfaaaAwake
import Derived.Test.YtbbadkgmnfjfaaaRow
import Derived.Test.YtbbadkgmnfjfaaaPick
import Derived.Test.YtbbadkgmnfjfaaaTaken
namespace Go.Proofs.Ytbbadkgmnfjfaaa
open Go.RowKit
set_option maxRecDepth 100000
set_option maxHeartbeats 4000000

def intF (i : Nat) : Value := .int .i64 i
def rfs (k : Nat) : List Rf := (List.range k).map fun (i : Nat) => (⟨(i : Int), 1⟩ : Rf)
theorem rfs_len (k : Nat) : (rfs k).length = k := by simp [rfs]
theorem rfs_at (k i : Nat) (h : i < k) : (rfs k)[i]? = some ⟨(i : Int), 1⟩ := by simp [rfs, h]
theorem rfs_succ (k : Nat) : rfs (k + 1) = rfs k ++ [⟨(k : Int), 1⟩] := by simp [rfs, List.range_succ]

theorem least_walk (slots many n : Int) (w : World) (hs : -9223372036854775808 ≤ slots ∧ slots ≤ 9223372036854775807) :
    Calls Try.prog 6 #[.int .i64 slots, .int .i64 many, .int .i64 n] w fun e w' => e = .returned (.bool true) ∧ Below w.heap.size w w' := by
  by_cases hc : 1 ≤ slots ∧ slots ≤ 200
  · obtain ⟨N, rfl⟩ : ∃ N : Nat, slots = N := ⟨slots.toNat, by omega⟩
    have q1 : decide ((N : Int) < 1) = false := decide_eq_false (by omega)
    have q2 : decide ((200 : Int) < (N : Int)) = false := decide_eq_false (by omega)
    have kw : IntKind.i64.wrap ((N : Int) + 1) = (N : Int) + 1 := IntWalk.i64_in _ (by omega)
    have HC := Lib.hid hc
    clear hc hs
    obtain ⟨iR, jR, jR0, jR1, jR2⟩ := infoR
    have HJR := Lib.hid jR
    clear jR
    go_enter Try.func6, Try.ntmps6
    go_wp2_with fail
    refine (awake_any _).mono ?_
    rintro e w1 ⟨rfl, hb1⟩
    have HB1 := Lib.hid hb1
    clear hb1
    go_wp2_with fail
    refine (Si.new_yes N (by have := HC.out; omega) (by have := HC.out; omega) _).mono ?_
    rintro e w2 ⟨p, a, g, hp, ha, hg, rfl, hb2, h2⟩
    rw [new_filled _ intF] at h2
    have HB2 := Lib.hid (Below.step HB1.out hb2)
    have z1 := HB1.out.size
    have hp' : w.heap.size ≤ p := by omega
    have ha' : w.heap.size ≤ a := by omega
    have hg' : w.heap.size ≤ g := by omega
    have HA2 := Lib.hid h2
    clear hb2 h2 hp ha hg z1
    go_wp2_with fail
    refine (pick_any many ((N : Int) + 1) (by omega) (by have := HC.out; omega) _).mono ?_
    rintro e w3 ⟨rfl, hw3⟩
    obtain rfl := hw3
    obtain ⟨m, hm⟩ : ∃ m : Nat, many % ((N : Int) + 1) = m := ⟨(many % ((N : Int) + 1)).toNat, by have := Int.emod_nonneg many (show (N : Int) + 1 ≠ 0 by omega); omega⟩
    have hmN : m ≤ N := by have := Int.emod_lt_of_pos many (show (0 : Int) < (N : Int) + 1 by omega); omega
    rw [hm]
    clear hm
    go_wp2_with fail
    go_loopw [10, 11] (fun l i wr => ∃ (k : Nat) (ao : Option Addr) (cap : Nat), k ≤ m ∧ i = .int .i64 k ∧ l = .slice ao k cap ∧ wr.ownsRow w.heap.size 36 2 (.slice ao k cap) k (rc (rfs k)) ∧ Si.At wr p a g (filled (.int .i64 0) intF N k) ∧ Below w.heap.size w wr) (fun l i _ => m - (intOf i).toNat)
    case atStart => exact ⟨0, none, 0, by omega, rfl, rfl, ⟨by simp [rfs, rc], .inl ⟨rfl, rfl⟩⟩, HA2.out, HB2.out⟩
    case round =>
      obtain ⟨k, ao, cap, hk, rfl, rfl, hrow, hA, hB⟩ := hrel
      by_cases hlt : k < m
      · have q3 : (k : Int) < (m : Int) := by omega
        have HR := Lib.hid hrow
        have HA := Lib.hid hA
        have HB := Lib.hid hB
        clear hrow hA hB
        go_wp2_with fail
        have hkN : k < N := by omega
        have hL : (filled (.int .i64 0) intF N k).l.length = N := filled_len _ _ _ _ (by omega)
        refine (Si.Take_ok HA.out (k : Int) k (by omega) rfl (by have := HC.out; omega) (filled_u _ _ _ _) (by show -10000 ≤ (k : Int) ∧ (k : Int) ≤ 10000; have := HC.out; omega) (by show -10000 ≤ (N : Int) - (k : Int) ∧ (N : Int) - (k : Int) ≤ 10000; have := HC.out; omega) (take_filled _ intF N k hkN)).mono ?_
        rintro e w4 ⟨rfl, ht4, ha4⟩
        have z4 := ht4.size
        have HA4 := Lib.hid ha4
        have zr := HB.out.size
        have HB4 := Lib.hid (Turned.below HB.out ht4 (by simp; omega) (by omega))
        have o4 : Hid (w4.ownsRow w.heap.size 36 2 (.slice ao k cap) k (rc (rfs k))) := by
          refine row_keep HR.out fun b hb => ht4.block b (HR.out.lt b hb).2 ?_
          intro hmem
          rcases (show b = a ∨ b = g by simpa using hmem) with rfl | rfl
          · exact row_apart HR.out HA.out.ha (by decide) hb
          · exact row_apart HR.out HA.out.hg (by decide) hb
        clear ht4 ha4
        have B5 := Below.new (Below.new (Below.refl w4.heap.size w4) (.cells #[.int .i64 k, .int .u32 1] 36)) (.cells #[.int .i64 k, .int .u32 1] 36)
        have o5 := Lib.hid (row_keep o4.out fun b hb => B5.block b (o4.out.lt b hb).2)
        have N5 : Hid (∀ (j : Nat) u, [Value.int .i64 k, Value.int .u32 1][j]? = some u → ((w4.alloc (.cells #[.int .i64 k, .int .u32 1] 36)).alloc (.cells #[.int .i64 k, .int .u32 1] 36)).cell? ((⟨w4.heap.size + 1, 0, none⟩ : Addr).add j) = some u) := by
          intro j u hj
          have D5 : Fresh ((w4.alloc (.cells #[.int .i64 k, .int .u32 1] 36)).alloc (.cells #[.int .i64 k, .int .u32 1] 36)) (w4.heap.size + 1) #[.int .i64 k, .int .u32 1] 36 := Fresh.new _ _ _ _ (by simp)
          rw [Addr.add_lit, Nat.zero_add, D5.cell j]
          simpa using hj
        have S5 : Hid (w.heap.size ≤ ((w4.alloc (.cells #[.int .i64 k, .int .u32 1] 36)).alloc (.cells #[.int .i64 k, .int .u32 1] 36)).heap.size) := by show _ ≤ _; simp; omega
        have HX5 := Lib.hid B5
        clear B5
        go_wp2_with (at_builtin; refine wpList_append_own _ rfl (.tmp 63) (.tmp 65) 31 rfl w.heap.size 36 iR (.agg #[.int .i64 0, .int .u32 0]) 2 16 Try.underlying31 HJR.out jR0 jR1 jR2 rfl (by omega) (.slice ao k cap) k (rc (rfs k)) rfl o5.out ⟨w4.heap.size + 1, 0, none⟩ 1 1 [.int .i64 k, .int .u32 1] rfl rfl N5.out (by intro u hu; simp at hu; rcases hu with rfl | rfl <;> rfl) (by unfold maxLen; have := HC.out; omega) (by have := HC.out; omega) S5.out ?_)
        intro v7 w7 hown hgrow hnn
        obtain ⟨a7, k7, rfl⟩ := row_form hown
        have hA7 : Si.At w7 p a g (filled (.int .i64 0) intF N (k + 1)) := by
          have h := HA4.out.below HX5.out
          exact ⟨h.hp.grown hgrow (Ne.symm (row_apart o5.out h.hp (by decide))), h.ha.grown hgrow (Ne.symm (row_apart o5.out h.ha (by decide))), h.hg.grown hgrow (Ne.symm (row_apart o5.out h.hg (by decide)))⟩
        have hB7 : Below w.heap.size w w7 := ((HB4.out.trans (HX5.out.mono (by omega)))).grown hgrow (by have := S5.out; exact this) (fun b hb => (o5.out.lt b hb).1)
        have H7 := Lib.hid (And.intro hown (And.intro hA7 hB7))
        clear hown hgrow hA7 hB7 hnn
        go_wp2_with fail
        go_roundw
        case rel => exact ⟨k + 1, a7, k7, by omega, by rw [IntWalk.wrap64_in _ (by have := HC.out; omega)]; rfl, rfl, by rw [rfs_succ, rc_append]; exact H7.out.1, H7.out.2.1, H7.out.2.2⟩
        case measure =>
          rw [IntWalk.wrap64_in _ (by have := HC.out; omega)]
          simp [intOf]
          omega
      · obtain rfl : k = m := by omega
        have q3 : ¬ (k : Int) < (k : Int) := by omega
        clear hlt hk
        by_cases h0 : k = 0
        · subst h0
          have HA := Lib.hid hA
          have HB := Lib.hid hB
          clear hA hB hrow
          go_wp2_with fail
          refine (Si.left_any HA.out).mono ?_
          rintro e w8 ⟨rfl, hw8⟩
          obtain rfl := hw8
          have hl : Hid ((filled (.int .i64 0) intF N 0).left = (N : Int)) := by show (N : Int) - ((0 : Nat) : Int) = N; omega
          rw [hl.out]
          go_wp2_with fail
          go_ret
          exact ⟨rfl, HB.out⟩
        · have q4 : ¬ (k : Int) = 0 := by omega
          have q5 : ((k : Int) == 0) = false := by simp; omega
          have HA := Lib.hid hA
          have HB := Lib.hid hB
          have HR := Lib.hid hrow
          clear hA hB hrow
          go_wp2_with fail
          refine (pick_any n (k : Int) (by omega) (by have := HC.out; omega) _).mono ?_
          rintro e w8 ⟨rfl, hw8⟩
          obtain rfl := hw8
          obtain ⟨t, ht⟩ : ∃ t : Nat, n % (k : Int) = t := ⟨(n % (k : Int)).toNat, by have := Int.emod_nonneg n (show (k : Int) ≠ 0 by omega); omega⟩
          have htk : t < k := by have := Int.emod_lt_of_pos n (show (0 : Int) < (k : Int) by omega); omega
          rw [ht]
          obtain ⟨gl, rfl, hcap, e0, e1⟩ := rc_cells (l := rfs k) (by rw [rfs_len]; exact HR.out) t _ (rfs_at k t htk)
          dsimp only at e0 e1
          have q6 : (0 : Int) ≤ (t : Int) := by omega
          have q7 : (t : Int) < (k : Int) := by omega
          have q8 : decide (t < k) = true := decide_eq_true htk
          clear ht
          go_wp2_with fail
          have hL : (filled (.int .i64 0) intF N k).l.length = N := filled_len _ _ _ _ (by omega)
          have hat := filled_old (.int .i64 0) intF N k t htk
          refine (Si.free_some HA.out t 1 (by have := HC.out; omega) (by show -10000 ≤ (k : Int) ∧ (k : Int) ≤ 10000; have := HC.out; omega) (by show -10000 ≤ (N : Int) - (k : Int) ∧ (N : Int) - (k : Int) ≤ 10000; have := HC.out; omega) t _ (live_at hat rfl) hat).mono ?_
          rintro e w9 ⟨rfl, ht9, ha9⟩
          have zr := HB.out.size
          have HB9 := Lib.hid (Turned.below HB.out ht9 (by simp; omega) (by omega))
          have HA9 := Lib.hid ha9
          clear ht9 ha9 e0 e1 hat
          go_wp2_with fail
          obtain ⟨s6, hs6, hc6, hn6, hl6⟩ := take_freed (.int .i64 0) (.int .i64 7) intF N k t htk hmN
          have lrel : (relSb (.int .i64 0) (filled (.int .i64 0) intF N k) t 1).l.length = N := by
            show ((filled (.int .i64 0) intF N k).l.set t _).length = N
            rw [List.length_set, hL]
          refine (Si.Take_ok HA9.out 7 t (by omega) (rel_low _ intF N k t htk) (by have := HC.out; omega) (rel_u (filled_u _ _ _ _) (by omega))
            (by show -10000 ≤ (k : Int) - 1 ∧ (k : Int) - 1 ≤ 10000; have := HC.out; omega) (by show -10000 ≤ (N : Int) - (k : Int) + 1 ∧ (N : Int) - (k : Int) + 1 ≤ 10000; have := HC.out; omega) hs6).mono ?_
          rintro e w10 ⟨rfl, ht10, ha10⟩
          have z9 := HB9.out.size
          have HB10 := Lib.hid (Turned.below HB9.out ht10 (by simp; omega) (by omega))
          have HA10 := Lib.hid ha10
          have HS := Lib.hid (And.intro hc6 (And.intro hn6 hl6))
          have D10 := Lib.hid (Fresh.new w10 w10.heap.size #[.int .i64 t, .int .u32 2] 36 rfl)
          have B10 := Lib.hid (Below.new (Below.refl w10.heap.size w10) (.cells #[.int .i64 t, .int .u32 2] 36))
          clear ht10 ha10 hs6 hc6 hn6 hl6 lrel
          go_wp2_with fail
          refine (Si.get_some (HA10.out.below B10.out) t 2 (by have := HC.out; have := HS.out.2.2; omega) t _ (live_at HS.out.1 rfl) HS.out.1).mono ?_
          rintro e w11 ⟨rfl, hb11⟩
          have HA11 := Lib.hid ((HA10.out.below B10.out).below hb11)
          have D11 := D10.out.below hb11
          have HB11 := Lib.hid (Below.step (Below.step HB10.out B10.out) hb11)
          have r0 := D11.cell 0
          have r1 := D11.cell 1
          simp only [List.getElem?_toArray, List.getElem?_cons_succ, List.getElem?_cons_zero] at r0 r1
          have HLN := Lib.hid (Si.len_any HA11.out)
          rw [HS.out.2.1] at HLN
          clear hb11 D11
          go_wp2_with fail
          refine HLN.out.mono ?_
          rintro e w12 ⟨rfl, hw12⟩
          obtain rfl := hw12
          go_wp2_with fail
          go_ret
          exact ⟨rfl, HB11.out⟩
  · have hq : decide (slots < 1) = true ∨ (decide (slots < 1) = false ∧ decide (200 < slots) = true) := by
      simp only [decide_eq_true_eq, decide_eq_false_iff_not]; omega
    clear hc
    rcases hq with q1 | ⟨q1, q2⟩
    all_goals
      go_enter Try.func6, Try.ntmps6
      go_wp2_with fail
      refine (awake_any _).mono ?_
      rintro e w1 ⟨rfl, hb1⟩
      go_wp2_with fail
      go_ret
      exact ⟨rfl, hb1⟩
theorem int_wf {n : Int} (hn : (Lit.int .i64 n).wf = true) : -9223372036854775808 ≤ n ∧ n ≤ 9223372036854775807 := by
  simpa [Lit.wf, IntKind.min, IntKind.max, IntKind.signed, IntKind.bits] using hn
theorem slabLeast_walk (slots many n : Int) (w : World) (h0 : (Lit.int .i64 slots).wf = true) (_ : (Lit.int .i64 many).wf = true) (_ : (Lit.int .i64 n).wf = true) :
    Calls Try.prog 6 #[.int .i64 slots, .int .i64 many, .int .i64 n] w fun e w' => e = .returned (.bool true) ∧ Below w.heap.size w w' := least_walk slots many n w (int_wf h0)
end Go.Proofs.Ytbbadkgmnfjfaaa
