/- The walk of texts. -/
import Derived.Test.YtcfkaginjcgmhaaDoorReads
import Derived.Test.YtcfkaginjcgmhaaDoorSame
namespace Go.Proofs.YtcfkaginjcgmhaaDoor
open Go.RowKit
set_option maxRecDepth 100000
set_option maxHeartbeats 40000000

def okS (cs : Array Value) : Bool := cs.toList.all fun v => match v with
  | .string s => decide (s.size ≤ 40)
  | _ => false
theorem okS_at {cs : Array Value} (h : okS cs = true) (i : Nat) (hi : i < cs.size) : ∃ s : ByteArray, cs[i]? = some (.string s) ∧ s.size ≤ 40 := by
  have h1 := List.all_eq_true.1 h cs[i] (by simp)
  have h2 : cs[i]? = some cs[i] := by simp [hi]
  revert h1 h2
  generalize cs[i] = v
  intro h1 h2
  cases v <;> simp at h1
  case string s => exact ⟨s, h2, h1⟩

theorem dec9 (k : Nat) (h1 : 1 ≤ k) (h8 : k < 8) : okN (k + 8) (k * 1111) k := by
  refine ⟨by omega, by omega, by omega, by omega, h1, by omega⟩
theorem text_size {t g r : Nat} (h : okN t g r) : (textB t g r).size ≤ 100 := by
  rw [← length_list, textB_list]
  unfold textL
  have h1 := dec_length t (by have := h.2.1; omega)
  have h2 := dec_length g (by have := h.2.2.2.1; omega)
  have h3 := lettersL_length r
  simp only [List.length_append, List.length_cons, List.length_nil]
  omega

def TX (w wr : World) (cs : Array Value) : Prop := Below w.heap.size w wr ∧ Fresh wr w.heap.size cs 9
theorem TX.step {w wr w2 : World} {cs : Array Value} (h : TX w wr cs) (hb : Below wr.heap.size wr w2) : TX w w2 cs := ⟨Below.step h.1 hb, h.2.below hb⟩

theorem texts_any (w : World) (htab : Tab w) (herr : Errs w) :
    Calls Tryd.prog 12 #[] w fun e w' => e = .returned (.bool true) ∧ Below w.heap.size w w' := by
  have HT := Lib.hid htab
  have HE := Lib.hid herr
  clear htab herr
  go_enter Tryd.func12, Tryd.ntmps12
  go_wp2_with fail
  go_loopw [3] (fun i wr => ∃ n : Nat, n ≤ 19 ∧ i = .int .i64 n ∧ ∃ cs, TX w wr cs ∧ okS cs = true ∧ cs.size = 19) (fun i _ => 19 - (intOf i).toNat)
  case atStart => exact ⟨0, by omega, rfl, _, ⟨Below.new (Below.refl _ _) _, Fresh.new _ _ _ _ rfl⟩, by decide, rfl⟩
  case round =>
    obtain ⟨n, hn, rfl, cs, hX, hok, hsz⟩ := hrel
    by_cases h19 : n < 19
    · obtain ⟨s, hs, hs40⟩ := okS_at hok n (by omega)
      have hn19 : (n : Int) < 19 := by omega
      have hn0 : (0 : Int) ≤ (n : Int) := Int.natCast_nonneg _
      have c0 := hX.2.cell n
      rw [hs] at c0
      have HO := Lib.hid (And.intro hok hsz)
      have HX := Lib.hid hX
      have HN := Lib.hid h19
      have H40 := Lib.hid hs40
      clear hok hsz hX hs h19 hn hs40
      go_wp2_with fail
      obtain ⟨wo, rfl⟩ : ∃ wo : World, wo = wr := ⟨_, rfl⟩
      go_loopw [5] (fun t wr => ∃ k : Nat, k ≤ s.size + 1 ∧ t = .int .i64 k ∧ TX w wr cs) (fun t _ => s.size + 1 - (intOf t).toNat)
      case atStart => exact ⟨0, by omega, rfl, HX.out⟩
      case round =>
        obtain ⟨k, hk, rfl, hX2⟩ := hrel
        by_cases hks : k ≤ s.size
        · have hk' : (k : Int) ≤ (s.size : Int) := by omega
          have HX2 := Lib.hid hX2
          clear hX2
          go_wp2_with fail
          obtain ⟨wp, rfl⟩ : ∃ wp : World, wp = wr := ⟨_, rfl⟩
          go_loopw [6] (fun t wr => ∃ c : Nat, c ≤ 13 ∧ t = .int .i64 c ∧ TX w wr cs) (fun t _ => 13 - (intOf t).toNat)
          case atStart => exact ⟨0, by omega, rfl, HX2.out⟩
          case round =>
            obtain ⟨c, hc, rfl, hX3⟩ := hrel
            by_cases h13 : c < 13
            · have hc13 : (c : Int) < 13 := by omega
              have hc0 : (0 : Int) ≤ (c : Int) := Int.natCast_nonneg _
              have hk0 : (0 : Int) ≤ (k : Int) := Int.natCast_nonneg _
              have hc1 : (c : Int) + 1 ≤ 13 := by omega
              have hc2 : (c : Int) ≤ (c : Int) + 1 := by omega
              have HX3 := Lib.hid hX3
              have hs40 : s.size ≤ 40 := H40.out
              have HTw : Hid (Tab wr ∧ Errs wr) := ⟨HT.out.on hX3.1, HE.out.on hX3.1⟩
              clear hX3
              have kt : ∀ (d : Nat) (os : Array Obj), Tab (Sort.grow (redrawn wr d) os) ∧ Errs (Sort.grow (redrawn wr d) os) := fun d os => ⟨HTw.out.1.on (below_regrown _ _ _), HTw.out.2.on (below_regrown _ _ _)⟩
              have HKT := Lib.hid kt
              clear kt
              rcases (show (decide (k < s.size) = true ∧ (k : Int) < (s.size : Int) ∧ (k : Int) + 1 ≤ (s.size : Int)) ∨ (decide (k < s.size) = false ∧ ¬ (k : Int) < (s.size : Int)) from by by_cases e : (k : Int) < (s.size : Int); exact .inl ⟨decide_eq_true (by omega), e, by omega⟩; exact .inr ⟨decide_eq_false (by omega), e⟩) with ⟨hks0, hks1, hks2⟩ | ⟨hks0, hks1⟩
              all_goals
                go_wp2_with fail
                refine wp_region_quiet_below (by kernel_rfl) (by kernel_rfl) ?_
                repeat (any_goals (first | go_big_quiet_step ((go_at_call 11; exact Calls.regrown_of (reads_any _ _ (by simp only [ByteArray.size_append, ByteArray.size_extract]; omega) (HKT.out _ _).1 (HKT.out _ _).2))) | quiet_step (fail)))
                refine wpQuiet_nil ?_
                intro w5 hw5
                have HX5 : Hid (TX w w5 cs) := by
                  obtain ⟨p, rfl⟩ := hw5; exact HX3.out.step (below_regrown _ _ _)
                clear hw5
                go_wp2_with fail
                go_roundw
                case rel => exact ⟨c + 1, by omega, by go_num, HX5.out⟩
                case measure => simp [intOf]; omega
            · have hc13 : ¬ (c : Int) < 13 := by omega
              have hk0 : (0 : Int) ≤ (k : Int) := Int.natCast_nonneg _
              have HX3 := Lib.hid hX3
              have hs40 : s.size ≤ 40 := H40.out
              have HTw : Hid (Tab wr ∧ Errs wr) := ⟨HT.out.on hX3.1, HE.out.on hX3.1⟩
              clear hX3
              have kt : ∀ (d : Nat) (os : Array Obj), Tab (Sort.grow (redrawn wr d) os) ∧ Errs (Sort.grow (redrawn wr d) os) := fun d os => ⟨HTw.out.1.on (below_regrown _ _ _), HTw.out.2.on (below_regrown _ _ _)⟩
              have HKT := Lib.hid kt
              clear kt
              rcases (show (decide (k < s.size) = true ∧ (k : Int) < (s.size : Int) ∧ (k : Int) + 1 ≤ (s.size : Int)) ∨ (decide (k < s.size) = false ∧ ¬ (k : Int) < (s.size : Int)) from by by_cases e : (k : Int) < (s.size : Int); exact .inl ⟨decide_eq_true (by omega), e, by omega⟩; exact .inr ⟨decide_eq_false (by omega), e⟩) with ⟨hks0, hks1, hks2⟩ | ⟨hks0, hks1⟩
              all_goals
                go_wp2_with fail
                refine wp_region_quiet_below (by kernel_rfl) (by kernel_rfl) ?_
                repeat (any_goals (first | go_big_quiet_step ((go_at_call 11; exact Calls.regrown_of (reads_any _ _ (by simp only [ByteArray.size_append, ByteArray.size_extract]; omega) (HKT.out _ _).1 (HKT.out _ _).2))) | quiet_step (fail)))
                refine wpQuiet_nil ?_
                intro w5 hw5
                have HX5 : Hid (TX w w5 cs) := by
                  obtain ⟨p, rfl⟩ := hw5; exact HX3.out.step (below_regrown _ _ _)
                clear hw5
                go_wp2_with fail
                go_roundw
                case rel => exact ⟨k + 1, by omega, by go_num, HX5.out⟩
                case measure => simp [intOf]; omega
        · have hk' : ¬ (k : Int) ≤ (s.size : Int) := by omega
          have HX2 := Lib.hid hX2
          clear hX2
          go_wp2_with fail
          go_roundw
          case rel => exact ⟨n + 1, by have := HN.out; omega, by go_num, cs, HX2.out, HO.out.1, HO.out.2⟩
          case measure => have := HN.out; simp [intOf]; omega
    · have hn19 : ¬ (n : Int) < 19 := by omega
      have HB := Lib.hid hX.1
      clear hX hok hsz hn h19
      go_wp2_with fail
      go_loopw [7] (fun t wr => ∃ k : Nat, 1 ≤ k ∧ k ≤ 8 ∧ t = .int .i64 k ∧ Below w.heap.size w wr) (fun t _ => 8 - (intOf t).toNat)
      case atStart => exact ⟨1, by omega, by omega, rfl, HB.out⟩
      case round =>
        obtain ⟨k, hk1, hk, rfl, hB2⟩ := hrel
        have HB2 := Lib.hid hB2
        clear hB2
        by_cases h8 : k < 8
        · have hk8 : (k : Int) < 8 := by omega
          have hok := dec9 k hk1 h8
          have HSH : Hid (∀ w, Calls Tryd.prog 19 #[hv ((k : Int) + 8) ((k : Int) * 1111) (k : Int)] w fun e w' => e = .returned (.tuple #[.string (textB (k + 8) (k * 1111) k), .int .i64 0]) ∧ Below w.heap.size w w') := fun w => by
            have h := rshow_yes (k + 8) (k * 1111) k hok w
            rw [show ((k + 8 : Nat) : Int) = (k : Int) + 8 from by omega, show ((k * 1111 : Nat) : Int) = (k : Int) * 1111 from by omega] at h
            exact h
          have e2 : IntKind.u32.wrap ((k : Int) * 1111) = (k : Int) * 1111 := by simp [IntKind.wrap, IntKind.bits, IntKind.signed]; omega
          have e3 : IntKind.u8.wrap (k : Int) = (k : Int) := by simp [IntKind.wrap, IntKind.bits, IntKind.signed]; omega
          have H1 := Lib.hid (And.intro hk1 hk)
          obtain ⟨T, hT⟩ : ∃ T, textB (k + 8) (k * 1111) k = T := ⟨_, rfl⟩
          have hTs : T.size ≤ 100 := by rw [← hT]; exact text_size hok
          have HTT := Lib.hid hT
          have HTS := Lib.hid hTs
          have HOK := Lib.hid hok
          clear hok hT hTs hk1
          go_wp2_with fail
          refine (HSH.out _).mono ?_
          rw [HTT.out]
          rintro e w3 ⟨rfl, hb3⟩
          have HB3 := Lib.hid (Below.step HB2.out hb3)
          clear hb3 e2 e3
          go_wp2_with fail
          refine (reads_any T _ (by have := HTS.out; omega) (HT.out.on HB3.out) (HE.out.on HB3.out)).mono ?_
          rintro e w4 ⟨rfl, hb4⟩
          have HB4 := Lib.hid (Below.step HB3.out hb4)
          clear hb4
          have hTs : T.size ≤ 100 := HTS.out
          go_wp2_with fail
          refine (reads_any (T ++ T) _ (by simp only [ByteArray.size_append]; omega) (HT.out.on HB4.out) (HE.out.on HB4.out)).mono ?_
          rintro e w5 ⟨rfl, hb5⟩
          have HB5 := Lib.hid (Below.step HB4.out hb5)
          clear hb5
          go_wp2_with fail
          go_roundw
          case rel => exact ⟨k + 1, by omega, by omega, by go_num, HB5.out⟩
          case measure => simp [intOf]; omega
        · have hk8 : ¬ (k : Int) < 8 := by omega
          go_wp2_with fail
          go_ret
          exact ⟨rfl, HB2.out⟩

end Go.Proofs.YtcfkaginjcgmhaaDoor
