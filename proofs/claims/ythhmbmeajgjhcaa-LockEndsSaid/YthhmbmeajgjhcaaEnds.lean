/- The walk of LockEnds. -/
import Derived.Test.YthhmbmeajgjhcaaEndsA
namespace Go.Proofs.Ythhmbmeajgjhcaa
open Go.RowKit
set_option maxRecDepth 1000000
set_option maxHeartbeats 16000000

/-- The five operations are gathered. -/
def FiveD (C : Nat) (W0 wr : World) (k : Nat) (lv mv : Value) : Prop :=
  Below C W0 wr ∧ (∃ m : Nat, m ≤ 16807 ∧ mv = .int .i64 m) ∧ ∃ l : List Dq, l.length = k ∧ (∀ t ∈ l, t.Ok) ∧ wr.ownsRow C TD 4 lv k (dqc l)
/-- The slots of the second part. -/
def SlotsAt (sb : Nat) (wr : World) : Prop := sb < wr.heap.size ∧ ∀ c, c < 6 → ∃ v : Int, (Lit.int .i64 v).wf = true ∧ wr.cell? ⟨sb, c, none⟩ = some (.int .i64 v)
theorem SlotsAt.below {sb : Nat} {W W' : World} (h : SlotsAt sb W) (hb : Below W.heap.size W W') : SlotsAt sb W' :=
  ⟨Nat.lt_of_lt_of_le h.1 hb.size, fun c hc => by obtain ⟨v, h1, h2⟩ := h.2 c hc; exact ⟨v, h1, by rw [hb.cell (p := ⟨sb, c, none⟩) h.1]; exact h2⟩⟩
/-- The tables that do not exist. -/
def NilsAt (nb : Nat) (wr : World) : Prop := nb < wr.heap.size ∧ ∀ c, c < 2 → ∃ x : Option Addr, wr.cell? ⟨nb, c, none⟩ = some (.pointer x) ∧ NilL wr x
theorem NilsAt.below {nb : Nat} {W W' : World} (h : NilsAt nb W) (hb : Below W.heap.size W W') : NilsAt nb W' :=
  ⟨Nat.lt_of_lt_of_le h.1 hb.size, fun c hc => by obtain ⟨x, h1, h2⟩ := h.2 c hc; exact ⟨x, by rw [hb.cell (p := ⟨nb, c, none⟩) h.1]; exact h1, h2.below hb⟩⟩
theorem isDeeds_call {W : World} {a : Option Addr} {n c : Nat} (h : IsDeeds W a n) : Calls Try.prog 3 #[.slice a n c] W fun e w' => e = .returned (.bool true) ∧ Below W.heap.size W w' := lockDoes_walk a n c W h

theorem wf_small : ∀ d : Nat, d < 8 → (Lit.int .u32 (d : Int)).wf = true := by decide
theorem wrap_small : ∀ d : Nat, d < 8 → IntKind.u32.wrap (d : Int) = (d : Int) := by decide

theorem lockEnds_walk (w : World) :
    Calls Try.prog 4 #[] w fun e w' => e = .returned (.bool true) ∧ Below w.heap.size w w' := by
  obtain ⟨iD, zD, jD, jD0, jD1, jD2, jD3⟩ := infoD
  have HJD := Lib.hid jD
  clear jD
  go_enter Try.func4, Try.ntmps4
  go_wp2_with fail
  go_loopw [1] (fun it wr => ∃ n : Nat, n ≤ 16807 ∧ it = .int .i64 n ∧ SameB w wr) (fun it _ => 16807 - (intOf it).toNat)
  case atStart => exact ⟨0, by omega, rfl, Below.refl _ _⟩
  case round =>
    obtain ⟨n, hn, rfl, hB⟩ := hrel
    have HB := Lib.hid (show Below w.heap.size w wr from hB)
    clear hB
    by_cases hlt : n < 16807
    · as_aux_lemma =>
        have HI : Hid (n < 16807) := hlt
        have q1 : decide ((n : Int) < 16807) = true := decide_eq_true (by omega)
        have q2 : (n : Int) < 16807 := by omega
        have q3 : (0 : Int) ≤ (n : Int) := Int.natCast_nonneg _
        obtain ⟨W0, hW0⟩ : ∃ W, W = wr := ⟨_, rfl⟩
        subst hW0
        go_wp2_with fail
        go_loopw [2, 3, 4] (fun lv mv it wr => ∃ k : Nat, k ≤ 5 ∧ it = .int .i64 k ∧ FiveD W0.heap.size W0 wr k lv mv) (fun _ _ it _ => 5 - (intOf it).toNat)
        case atStart => exact ⟨0, by omega, rfl, Below.refl _ _, ⟨n, by omega, rfl⟩, [], rfl, by simp, World.ownsRow_nil _ _ _ _⟩
        case round =>
          obtain ⟨k, hk, rfl, hBC, ⟨mm, hmm, rfl⟩, l, hll, hlo, hrow⟩ := hrel
          have HBC := Lib.hid hBC
          have HLO := Lib.hid hlo
          have HROW := Lib.hid hrow
          have HLL := Lib.hid hll
          obtain ⟨va, vc, rfl⟩ := row_form hrow
          clear hBC hlo hrow hll
          by_cases hk5 : k < 5
          · have HK5 : Hid (k < 5) := hk5
            have p1 : decide ((k : Int) < 5) = true := decide_eq_true (by omega)
            have p2 : (k : Int) < 5 := by omega
            have p3 : (0 : Int) ≤ (mm : Int) := Int.natCast_nonneg _
            have p4 : (mm : Int) ≤ 16807 := by omega
            obtain ⟨md, hmd⟩ : ∃ md : Nat, (mm : Int) / 7 = md := ⟨mm / 7, by omega⟩
            have HMD : Hid (md ≤ 16807) := by show md ≤ 16807; omega
            obtain ⟨y, hy⟩ : ∃ y : Int, (mm : Int) % 7 = y := ⟨_, rfl⟩
            go_wp2_with fail
            refine (one_any _).mono ?_
            rintro e w2 ⟨rfl, hb2⟩
            have HB2 := Lib.hid hb2
            clear hb2
            have B6 := Below.new (Below.refl w2.heap.size w2) (.cells #[.int .i64 y, .int .i64 0, .int .u32 1, .int .u64 4] TD)
            have B26 : Hid (Below wr.heap.size wr (w2.alloc (.cells #[.int .i64 y, .int .i64 0, .int .u32 1, .int .u64 4] TD))) := Below.step HB2.out B6
            have P6 := Lib.hid (row_keep HROW.out fun j hj => B26.out.block j (HROW.out.lt j hj).2)
            have N6 : Hid (∀ (j : Nat) u, [Value.int .i64 y, Value.int .i64 0, Value.int .u32 1, Value.int .u64 4][j]? = some u → (w2.alloc (.cells #[.int .i64 y, .int .i64 0, .int .u32 1, .int .u64 4] TD)).cell? ((⟨w2.heap.size, 0, none⟩ : Addr).add j) = some u) := by
              intro j u hj
              have hf := Fresh.new w2 w2.heap.size #[.int .i64 y, .int .i64 0, .int .u32 1, .int .u64 4] TD rfl
              rw [Addr.add_lit, Nat.zero_add, hf.cell j]
              simpa using hj
            have B6s : Hid (W0.heap.size ≤ (w2.alloc (.cells #[.int .i64 y, .int .i64 0, .int .u32 1, .int .u64 4] TD)).heap.size) := Nat.le_trans HBC.out.size B26.out.size
            have A1 : Hid (k + 1 ≤ maxLen) := by show _ ≤ _; unfold maxLen; omega
            have A2 : Hid ((k + 1) * 32 ≤ 140737488355328) := by show _ ≤ _; omega
            clear B6 hk hk5
            go_wp2_with (at_builtin; refine wpList_append_own _ rfl (.tmp 24) (.tmp 29) 22 rfl W0.heap.size TD iD zD 4 32 Try.underlying22 HJD.out jD0 jD1 jD2 jD3 (by decide) (.slice va k vc) k (dqc l) rfl P6.out ⟨w2.heap.size, 0, none⟩ 1 1 [.int .i64 y, .int .i64 0, .int .u32 1, .int .u64 4] rfl rfl N6.out (by intro u hu; simp at hu; rcases hu with rfl | rfl | rfl | rfl <;> rfl) A1.out A2.out B6s.out ?_)
            intro v7 w7 hown hgrow hnn
            have BC7 : Hid (Below W0.heap.size W0 w7) := (HBC.out.trans (B26.out.mono HBC.out.size)).grown hgrow B6s.out (fun j hj => (P6.out.lt j hj).1)
            have HW7 := Lib.hid hown
            clear hown hgrow hnn
            go_wp2_with fail
            go_roundw
            case rel =>
              refine ⟨k + 1, HK5.out, by go_num, BC7.out, ⟨md, HMD.out, rfl⟩, l ++ [⟨y, 0, 1, 4⟩], by simp [HLL.out], ?_, by rw [dqc_append]; exact HW7.out⟩
              intro u hu
              rcases List.mem_append.1 hu with h | h
              · exact HLO.out u h
              · simp at h; subst h; exact ⟨ref01, show (0 : Int) ≤ 4 by decide, show (4 : Int) < 18446744073709551616 by decide⟩
            case measure => have := HK5.out; simp [intOf]; omega
          · obtain rfl : k = 5 := by omega
            clear hk hk5
            rw [show ((5 : Nat) : Int) = 5 from rfl]
            have p1 : decide ((5 : Int) < 5) = false := by decide
            go_wp2_with fail
            refine (one_any _).mono ?_
            rintro e w2 ⟨rfl, hb2⟩
            have HB2 := Lib.hid hb2
            clear hb2
            obtain ⟨W6, hW6⟩ : ∃ W, W = w2.alloc (.cells #[.int .i64 0, .int .i64 0, .int .u32 1, .int .u64 0] TD) := ⟨_, rfl⟩
            have B26 : Hid (Below wr.heap.size wr W6) := by show Below _ _ _; rw [hW6]; exact Below.step HB2.out (Below.new (Below.refl _ _) _)
            have P6 : Hid (W6.ownsRow W0.heap.size TD 4 (.slice (some ⟨w2.heap.size, 0, none⟩) 1 1) 1 (dqc [⟨0, 0, 1, 0⟩])) := by
              show World.ownsRow _ _ _ _ _ _ _
              rw [hW6]
              exact row_new (dqc [⟨0, 0, 1, 0⟩]) rfl (Nat.le_trans HBC.out.size HB2.out.size) rfl (by unfold maxLen; omega)
            obtain ⟨u0, hu0⟩ : ∃ u, l[0]? = some u := ⟨l[0]'(by have := HLL.out; omega), List.getElem?_eq_getElem (by have := HLL.out; omega)⟩
            obtain ⟨g, rfl⟩ : ∃ g, va = some ⟨g, 0, none⟩ := by
              obtain ⟨_, h2⟩ := HROW.out
              rcases h2 with ⟨_, h3⟩ | ⟨g, cap, cur, e, _⟩
              · omega
              · simp only [Value.slice.injEq] at e
                exact ⟨g, e.1⟩
            have N6 : Hid (∀ (j : Nat) u, (dqc l)[j]? = some u → W6.cell? ((⟨g, 0, none⟩ : Addr).add j) = some u) := World.ownsRow.cells (g := g) (row_keep HROW.out fun j hj => B26.out.block j (HROW.out.lt j hj).2) rfl
            have B6s : Hid (W0.heap.size ≤ W6.heap.size) := Nat.le_trans HBC.out.size B26.out.size
            have L6 : Hid ((dqc l).length = 5 * 4) := by show _ = _; rw [dqc_length, HLL.out]
            have HE6 := Lib.hid hW6
            have A1 : Hid (1 + 5 ≤ maxLen) := by show _ ≤ _; unfold maxLen; omega
            clear hu0 hW6
            go_wp2_with (at_builtin; rw [← HE6.out]; refine wpList_append_own _ rfl (.tmp 35) (.tmp 36) 22 rfl W0.heap.size TD iD zD 4 32 Try.underlying22 HJD.out jD0 jD1 jD2 jD3 (by decide) (.slice (some ⟨w2.heap.size, 0, none⟩) 1 1) 1 (dqc [⟨0, 0, 1, 0⟩]) rfl P6.out ⟨g, 0, none⟩ 5 vc (dqc l) rfl L6.out N6.out (dqc_one _) A1.out (by decide) B6s.out ?_)
            intro v7 w7 hown hgrow hnn
            have BC7 : Hid (Below W0.heap.size W0 w7) := (HBC.out.trans (B26.out.mono HBC.out.size)).grown hgrow B6s.out (fun j hj => (P6.out.lt j hj).1)
            obtain ⟨a7, c7, rfl⟩ := row_form hown
            rw [← dqc_append] at hown
            have HD7 : Hid (IsDeeds w7 a7 6) := by
              refine deeds_of (l := [⟨0, 0, 1, 0⟩] ++ l) hown (by simp [HLL.out]) (by decide) fun t ht => ?_
              rcases List.mem_append.1 ht with h | h
              · simp at h; subst h; exact ⟨ref01, show (0 : Int) ≤ 0 by decide, show (0 : Int) < 18446744073709551616 by decide⟩
              · exact HLO.out t h
            clear hown hgrow hnn
            go_wp2_with fail
            refine (isDeeds_call HD7.out).mono ?_
            rintro e w8 ⟨rfl, hb8⟩
            have B8 : Hid (Below W0.heap.size W0 w8) := BC7.out.trans (hb8.mono BC7.out.size)
            clear hb8
            go_wp2_with fail
            go_roundw
            case rel => exact ⟨n + 1, HI.out, by go_num, Below.step HB.out B8.out⟩
            case measure => have := HI.out; simp [intOf]; omega
    · obtain rfl : n = 16807 := by omega
      clear hlt hn
      rw [show ((16807 : Nat) : Int) = 16807 from rfl]
      have q1 : decide ((16807 : Int) < 16807) = false := by decide
      go_upto_region 14 with fail
      obtain ⟨sb, hsb⟩ : ∃ sb, wr.heap.size = sb := ⟨_, rfl⟩
      obtain ⟨W1, hW1⟩ : ∃ W, W = wr.alloc (.cells #[.int .i64 (-9223372036854775808), .int .i64 (-1), .int .i64 0, .int .i64 4095, .int .i64 4096, .int .i64 9223372036854775807] 3) := ⟨_, rfl⟩
      rw [← hW1, hsb]
      have HB1 : Hid (Below w.heap.size w W1) := by show Below _ _ _; rw [hW1]; exact Below.new HB.out _
      have HSB : Hid (SlotsAt sb W1) := by
        show SlotsAt _ _
        have hf : Fresh W1 sb #[.int .i64 (-9223372036854775808), .int .i64 (-1), .int .i64 0, .int .i64 4095, .int .i64 4096, .int .i64 9223372036854775807] 3 := by rw [hW1]; exact Fresh.new wr sb _ _ hsb
        refine ⟨hf.lt, fun c hc => ?_⟩
        rcases (show c = 0 ∨ c = 1 ∨ c = 2 ∨ c = 3 ∨ c = 4 ∨ c = 5 from by omega) with rfl | rfl | rfl | rfl | rfl | rfl
        all_goals exact ⟨_, by decide, hf.cell _⟩
      clear hW1 hsb q1
      go_wp2_with fail
      go_loopw [6] (fun it wr => ∃ i : Nat, i ≤ 36 ∧ it = .int .i64 i ∧ SameB w wr ∧ SlotsAt sb wr) (fun it _ => 36 - (intOf it).toNat)
      case atStart => exact ⟨0, by omega, rfl, HB1.out, HSB.out⟩
      case round =>
        clear HB HB1 HSB
        obtain ⟨i, hi, rfl, hB, hS⟩ := hrel
        have HB := Lib.hid (show Below w.heap.size w _ from hB)
        have HS := Lib.hid hS
        clear hB hS
        by_cases hlt : i < 36
        · as_aux_lemma =>
            have HI : Hid (i < 36) := hlt
            obtain ⟨c6, hc6⟩ : ∃ c6 : Nat, (i : Int) % 6 = c6 := ⟨i % 6, by omega⟩
            obtain ⟨d6, hd6⟩ : ∃ d6 : Nat, (i : Int) / 6 = d6 := ⟨i / 6, by omega⟩
            have k1 : c6 < 6 := by omega
            have k2 : d6 < 6 := by omega
            obtain ⟨v, hv, hcell⟩ := HS.out.2 c6 k1
            have R1 : Hid (RefOk v d6) := ⟨hv, wf_small d6 (by omega)⟩
            have R2 : Hid (RefOk v ((d6 : Int) + 1)) := ⟨hv, wf_small (d6 + 1) (by omega)⟩
            have t1 : IntKind.u32.wrap (d6 : Int) = (d6 : Int) := wrap_small d6 (by omega)
            have t2 : IntKind.u32.wrap ((d6 : Int) + 1) = (d6 : Int) + 1 := wrap_small (d6 + 1) (by omega)
            have q0 : (0 : Int) ≤ (c6 : Int) := Int.natCast_nonneg _
            have q1 : (c6 : Int) < 6 := by omega
            have q2 : decide (c6 < 6) = true := decide_eq_true k1
            have q3 : decide ((i : Int) < 36) = true := decide_eq_true (by omega)
            have q4 : (i : Int) < 36 := by omega
            have q5 : (0 : Int) ≤ (i : Int) := Int.natCast_nonneg _
            obtain ⟨b, hb⟩ : ∃ b, wr.heap.size = b := ⟨_, rfl⟩
            clear hlt hi hv k2
            go_upto_region 20 with fail
            obtain ⟨g, hg⟩ : ∃ g : Int, (d6 : Int) + 1 = g := ⟨_, rfl⟩
            obtain ⟨f, hf⟩ : ∃ f : Int, (d6 : Int) = f := ⟨_, rfl⟩
            obtain ⟨W2, hW2⟩ : ∃ W2, W2 = (wr.alloc (.cells #[.int .i64 v, .int .u32 f] 33)).alloc (.cells #[.int .i64 v, .int .u32 g] 33) := ⟨_, rfl⟩
            rw [hg]
            rw [hf]
            rw [hg] at R2
            rw [hf] at R1
            rw [← hW2]
            have B2 : Hid (Below wr.heap.size wr W2) := by show Below _ _ _; rw [hW2]; exact Below.new (Below.new (Below.refl _ _) _) _
            have F1 : Hid (Fresh W2 b #[.int .i64 v, .int .u32 f] 33) := by show Fresh _ _ _ _; rw [hW2]; exact (Fresh.new _ _ _ _ hb).alloc _
            have F2 : Hid (Fresh W2 (b + 1) #[.int .i64 v, .int .u32 g] 33) := by show Fresh _ _ _ _; rw [hW2]; exact Fresh.new _ _ _ _ (by simp [hb])
            have f0 := F1.out.cell 0
            have f1 := F1.out.cell 1
            have g0 := F2.out.cell 0
            have g1 := F2.out.cell 1
            simp only [List.getElem?_toArray, List.getElem?_cons_zero, List.getElem?_cons_succ] at f0 f1 g0 g1
            clear hW2 t1 t2 hg hf hb hc6 hd6 hcell q0 q1 q2 q3
            obtain ⟨sv, hsv⟩ : ∃ sv : Int, IntKind.u64.wrap ((2 : Int) ^ i) = sv := ⟨_, rfl⟩
            have HSV : Hid (W64 sv) := by
              show W64 sv
              rw [← hsv, wrapU]
              exact ⟨Int.emod_nonneg _ (by decide), Int.emod_lt_of_pos _ (by decide)⟩
            obtain ⟨W5, hW5⟩ : ∃ W, W = W2.drew.alloc (.cells (dqc [⟨0, v, f, 0⟩, ⟨0, v, g, 0⟩, ⟨0, v, f, 0⟩, ⟨3, v, f, 0⟩, ⟨3, v, g, 0⟩, ⟨7, v, f, 0⟩, ⟨5, v, g, 0⟩, ⟨1, v, f, 0⟩, ⟨4, v, f, 0⟩, ⟨2, v, g, sv⟩, ⟨3, v, g, 0⟩, ⟨6, v, g, 0⟩, ⟨5, v, g, 0⟩, ⟨1, v, g, 0⟩, ⟨0, v, g, 0⟩]).toArray TD) := ⟨_, rfl⟩
            obtain ⟨q, hq⟩ : ∃ q, W2.drew.heap.size = q := ⟨_, rfl⟩
            have HE5 := Lib.hid hW5
            have HQ5 := Lib.hid hq
            have B5 : Hid (Below wr.heap.size wr W5) := by show Below _ _ _; rw [hW5]; exact Below.new B2.out.drew _
            have S5 : Hid (W5.cell? ⟨b, 0, none⟩ = some (.int .i64 v) ∧ W5.cell? ⟨b, 1, none⟩ = some (.int .u32 f) ∧ W5.cell? ⟨b + 1, 0, none⟩ = some (.int .i64 v) ∧ W5.cell? ⟨b + 1, 1, none⟩ = some (.int .u32 g)) := by
              show _ ∧ _ ∧ _ ∧ _
              rw [hW5]
              exact ⟨(F1.out.drew.alloc _).cell 0, (F1.out.drew.alloc _).cell 1, (F2.out.drew.alloc _).cell 0, (F2.out.drew.alloc _).cell 1⟩
            have D5 : Hid (IsDeeds W5 (some ⟨q, 0, none⟩) 15) := by
              have hrow : W5.ownsRow 0 TD 4 (.slice (some ⟨q, 0, none⟩) 15 15) 15 (dqc [⟨0, v, f, 0⟩, ⟨0, v, g, 0⟩, ⟨0, v, f, 0⟩, ⟨3, v, f, 0⟩, ⟨3, v, g, 0⟩, ⟨7, v, f, 0⟩, ⟨5, v, g, 0⟩, ⟨1, v, f, 0⟩, ⟨4, v, f, 0⟩, ⟨2, v, g, sv⟩, ⟨3, v, g, 0⟩, ⟨6, v, g, 0⟩, ⟨5, v, g, 0⟩, ⟨1, v, g, 0⟩, ⟨0, v, g, 0⟩]) := by
                rw [hW5]
                exact row_new _ hq (Nat.zero_le _) (by rw [dqc_length]; rfl) (by unfold maxLen; omega)
              have w0 : W64 0 := ⟨by decide, by decide⟩
              refine deeds_of hrow rfl (by decide) fun t ht => ?_
              simp only [List.mem_cons, List.not_mem_nil, or_false] at ht
              rcases ht with rfl | rfl | rfl | rfl | rfl | rfl | rfl | rfl | rfl | rfl | rfl | rfl | rfl | rfl | rfl
              all_goals first | exact ⟨R1.out, w0⟩ | exact ⟨R2.out, w0⟩ | exact ⟨R2.out, HSV.out⟩
            clear hW5 hq B2 F1 F2
            refine wp_region_held_drew (S := fun W' => W'.cell? ⟨b, 0, none⟩ = some (.int .i64 v) ∧ W'.cell? ⟨b, 1, none⟩ = some (.int .u32 f) ∧ W'.cell? ⟨b + 1, 0, none⟩ = some (.int .i64 v) ∧ W'.cell? ⟨b + 1, 1, none⟩ = some (.int .u32 g)) (by kernel_rfl) ?_ (fun hHeld => ?_)
            · (try dsimp only)
              exact ⟨f0, f1, g0, g1⟩
            refine wpAnyH_take (i := 0) (oi := ?_) (v := ?_) ?_ (by kernel_rfl) (by kernel_rfl) (by kernel_rfl) ?_ (Or.inl ⟨?_, ?_⟩) (by assumption) ?_
            rotate_left 2
            · simp only [List.getElem?_toArray, List.getElem?_cons_succ, List.getElem?_cons_zero] <;> rfl
            · exact fun _ _ _ h => h
            · rfl
            · (intro w hSw; (try dsimp only at hSw); go_simp; try (with_reducible rfl))
            try simp only [Act.put, List.setIfInBounds_toArray, List.set_cons_zero, List.set_cons_succ]
            refine wpAnyH_take (i := 1) (oi := ?_) (v := ?_) ?_ (by kernel_rfl) (by kernel_rfl) (by kernel_rfl) ?_ (Or.inl ⟨?_, ?_⟩) (by assumption) ?_
            rotate_left 2
            · simp only [List.getElem?_toArray, List.getElem?_cons_succ, List.getElem?_cons_zero] <;> rfl
            · exact fun _ _ _ h => h
            · rfl
            · (intro w hSw; (try dsimp only at hSw); go_simp; try (with_reducible rfl))
            try simp only [Act.put, List.setIfInBounds_toArray, List.set_cons_zero, List.set_cons_succ]
            refine wpAnyH_take (i := 2) (oi := ?_) (v := ?_) ?_ (by kernel_rfl) (by kernel_rfl) (by kernel_rfl) ?_ (Or.inl ⟨?_, ?_⟩) (by assumption) ?_
            rotate_left 2
            · simp only [List.getElem?_toArray, List.getElem?_cons_succ, List.getElem?_cons_zero] <;> rfl
            · exact fun _ _ _ h => h
            · rfl
            · (intro w hSw; (try dsimp only at hSw); go_simp; try (with_reducible rfl))
            try simp only [Act.put, List.setIfInBounds_toArray, List.set_cons_zero, List.set_cons_succ]
            refine wpAnyH_take (i := 3) (oi := ?_) (v := ?_) ?_ (by kernel_rfl) (by kernel_rfl) (by kernel_rfl) ?_ (Or.inl ⟨?_, ?_⟩) (by assumption) ?_
            rotate_left 2
            · simp only [List.getElem?_toArray, List.getElem?_cons_succ, List.getElem?_cons_zero] <;> rfl
            · exact fun _ _ _ h => h
            · rfl
            · (intro w hSw; (try dsimp only at hSw); go_simp; try (with_reducible rfl))
            try simp only [Act.put, List.setIfInBounds_toArray, List.set_cons_zero, List.set_cons_succ]
            refine wpAnyH_take (i := 4) (oi := ?_) (v := ?_) ?_ (by kernel_rfl) (by kernel_rfl) (by kernel_rfl) ?_ (Or.inl ⟨?_, ?_⟩) (by assumption) ?_
            rotate_left 2
            · simp only [List.getElem?_toArray, List.getElem?_cons_succ, List.getElem?_cons_zero] <;> rfl
            · exact fun _ _ _ h => h
            · rfl
            · (intro w hSw; (try dsimp only at hSw); go_simp; try (with_reducible rfl))
            try simp only [Act.put, List.setIfInBounds_toArray, List.set_cons_zero, List.set_cons_succ]
            refine wpAnyH_take (i := 5) (oi := ?_) (v := ?_) ?_ (by kernel_rfl) (by kernel_rfl) (by kernel_rfl) ?_ (Or.inl ⟨?_, ?_⟩) (by assumption) ?_
            rotate_left 2
            · simp only [List.getElem?_toArray, List.getElem?_cons_succ, List.getElem?_cons_zero] <;> rfl
            · exact fun _ _ _ h => h
            · rfl
            · (intro w hSw; (try dsimp only at hSw); go_simp; try (with_reducible rfl))
            try simp only [Act.put, List.setIfInBounds_toArray, List.set_cons_zero, List.set_cons_succ]
            refine wpAnyH_take (i := 6) (oi := ?_) (v := ?_) ?_ (by kernel_rfl) (by kernel_rfl) (by kernel_rfl) ?_ (Or.inl ⟨?_, ?_⟩) (by assumption) ?_
            rotate_left 2
            · simp only [List.getElem?_toArray, List.getElem?_cons_succ, List.getElem?_cons_zero] <;> rfl
            · exact fun _ _ _ h => h
            · rfl
            · (intro w hSw; (try dsimp only at hSw); go_simp; try (with_reducible rfl))
            try simp only [Act.put, List.setIfInBounds_toArray, List.set_cons_zero, List.set_cons_succ]
            refine wpAnyH_take (i := 7) (oi := ?_) (v := ?_) ?_ (by kernel_rfl) (by kernel_rfl) (by kernel_rfl) ?_ (Or.inl ⟨?_, ?_⟩) (by assumption) ?_
            rotate_left 2
            · simp only [List.getElem?_toArray, List.getElem?_cons_succ, List.getElem?_cons_zero] <;> rfl
            · exact fun _ _ _ h => h
            · rfl
            · (intro w hSw; (try dsimp only at hSw); go_simp; try (with_reducible rfl))
            try simp only [Act.put, List.setIfInBounds_toArray, List.set_cons_zero, List.set_cons_succ]
            refine wpAnyH_take (i := 8) (oi := ?_) (v := ?_) ?_ (by kernel_rfl) (by kernel_rfl) (by kernel_rfl) ?_ (Or.inl ⟨?_, ?_⟩) (by assumption) ?_
            rotate_left 2
            · simp only [List.getElem?_toArray, List.getElem?_cons_succ, List.getElem?_cons_zero] <;> rfl
            · exact fun _ _ _ h => h
            · rfl
            · (intro w hSw; (try dsimp only at hSw); go_simp; try (with_reducible rfl))
            try simp only [Act.put, List.setIfInBounds_toArray, List.set_cons_zero, List.set_cons_succ]
            refine wpAnyH_take (i := 9) (oi := ?_) (v := ?_) ?_ (by kernel_rfl) (by kernel_rfl) (by kernel_rfl) ?_ (Or.inl ⟨?_, ?_⟩) (by assumption) ?_
            rotate_left 2
            · simp only [List.getElem?_toArray, List.getElem?_cons_succ, List.getElem?_cons_zero] <;> rfl
            · exact fun _ _ _ h => h
            · rfl
            · (intro w hSw; (try dsimp only at hSw); go_simp; try (with_reducible rfl))
            try simp only [Act.put, List.setIfInBounds_toArray, List.set_cons_zero, List.set_cons_succ]
            refine wpAnyH_take (i := 10) (oi := ?_) (v := ?_) ?_ (by kernel_rfl) (by kernel_rfl) (by kernel_rfl) ?_ (Or.inl ⟨?_, ?_⟩) (by assumption) ?_
            rotate_left 2
            · simp only [List.getElem?_toArray, List.getElem?_cons_succ, List.getElem?_cons_zero] <;> rfl
            · exact fun _ _ _ h => h
            · rfl
            · (intro w hSw; (try dsimp only at hSw); go_simp; try (with_reducible rfl))
            try simp only [Act.put, List.setIfInBounds_toArray, List.set_cons_zero, List.set_cons_succ]
            refine wpAnyH_take (i := 11) (oi := ?_) (v := ?_) ?_ (by kernel_rfl) (by kernel_rfl) (by kernel_rfl) ?_ (Or.inl ⟨?_, ?_⟩) (by assumption) ?_
            rotate_left 2
            · simp only [List.getElem?_toArray, List.getElem?_cons_succ, List.getElem?_cons_zero] <;> rfl
            · exact fun _ _ _ h => h
            · rfl
            · (intro w hSw; (try dsimp only at hSw); go_simp; try (with_reducible rfl))
            try simp only [Act.put, List.setIfInBounds_toArray, List.set_cons_zero, List.set_cons_succ]
            refine wpAnyH_take (i := 12) (oi := ?_) (v := ?_) ?_ (by kernel_rfl) (by kernel_rfl) (by kernel_rfl) ?_ (Or.inl ⟨?_, ?_⟩) (by assumption) ?_
            rotate_left 2
            · simp only [List.getElem?_toArray, List.getElem?_cons_succ, List.getElem?_cons_zero] <;> rfl
            · exact fun _ _ _ h => h
            · rfl
            · (intro w hSw; (try dsimp only at hSw); go_simp; try (with_reducible rfl))
            try simp only [Act.put, List.setIfInBounds_toArray, List.set_cons_zero, List.set_cons_succ]
            refine wpAnyH_take (i := 13) (oi := ?_) (v := ?_) ?_ (by kernel_rfl) (by kernel_rfl) (by kernel_rfl) ?_ (Or.inl ⟨?_, ?_⟩) (by assumption) ?_
            rotate_left 2
            · simp only [List.getElem?_toArray, List.getElem?_cons_succ, List.getElem?_cons_zero] <;> rfl
            · exact fun _ _ _ h => h
            · rfl
            · (intro w hSw; (try dsimp only at hSw); go_simp; try (with_reducible rfl))
            try simp only [Act.put, List.setIfInBounds_toArray, List.set_cons_zero, List.set_cons_succ]
            refine wpAnyH_take (i := 14) (oi := ?_) (v := ?_) ?_ (by kernel_rfl) (by kernel_rfl) (by kernel_rfl) ?_ (Or.inl ⟨?_, ?_⟩) (by assumption) ?_
            rotate_left 2
            · simp only [List.getElem?_toArray, List.getElem?_cons_succ, List.getElem?_cons_zero] <;> rfl
            · exact fun _ _ _ h => h
            · rfl
            · (intro w hSw; (try dsimp only at hSw); go_simp; try (with_reducible rfl))
            try simp only [Act.put, List.setIfInBounds_toArray, List.set_cons_zero, List.set_cons_succ]
            refine wpAnyH_take (i := 15) (oi := ?_) (v := ?_) ?_ (by kernel_rfl) (by kernel_rfl) (by kernel_rfl) ?_ (Or.inl ⟨?_, ?_⟩) (by assumption) ?_
            rotate_left 2
            · simp only [List.getElem?_toArray, List.getElem?_cons_succ, List.getElem?_cons_zero] <;> rfl
            · exact fun _ _ _ h => h
            · rfl
            · (intro w hSw; (try dsimp only at hSw); go_simp; try (with_reducible rfl))
            try simp only [Act.put, List.setIfInBounds_toArray, List.set_cons_zero, List.set_cons_succ]
            refine wpAnyH_take (i := 16) (oi := ?_) (v := ?_) ?_ (by kernel_rfl) (by kernel_rfl) (by kernel_rfl) ?_ (Or.inl ⟨?_, ?_⟩) (by assumption) ?_
            rotate_left 2
            · simp only [List.getElem?_toArray, List.getElem?_cons_succ, List.getElem?_cons_zero] <;> rfl
            · exact fun _ _ _ h => h
            · rfl
            · (intro w hSw; (try dsimp only at hSw); go_simp; try (with_reducible rfl))
            try simp only [Act.put, List.setIfInBounds_toArray, List.set_cons_zero, List.set_cons_succ]
            refine wpAnyH_take (i := 17) (oi := ?_) (v := ?_) ?_ (by kernel_rfl) (by kernel_rfl) (by kernel_rfl) ?_ (Or.inl ⟨?_, ?_⟩) (by assumption) ?_
            rotate_left 2
            · simp only [List.getElem?_toArray, List.getElem?_cons_succ, List.getElem?_cons_zero] <;> rfl
            · exact fun _ _ _ h => h
            · rfl
            · (intro w hSw; (try dsimp only at hSw); go_simp; try (with_reducible rfl))
            try simp only [Act.put, List.setIfInBounds_toArray, List.set_cons_zero, List.set_cons_succ]
            refine wpAnyH_take (i := 18) (oi := ?_) (v := ?_) ?_ (by kernel_rfl) (by kernel_rfl) (by kernel_rfl) ?_ (Or.inl ⟨?_, ?_⟩) (by assumption) ?_
            rotate_left 2
            · simp only [List.getElem?_toArray, List.getElem?_cons_succ, List.getElem?_cons_zero] <;> rfl
            · exact fun _ _ _ h => h
            · rfl
            · (intro w hSw; (try dsimp only at hSw); go_simp; try (with_reducible rfl))
            try simp only [Act.put, List.setIfInBounds_toArray, List.set_cons_zero, List.set_cons_succ]
            refine wpAnyH_take (i := 19) (oi := ?_) (v := ?_) ?_ (by kernel_rfl) (by kernel_rfl) (by kernel_rfl) ?_ (Or.inl ⟨?_, ?_⟩) (by assumption) ?_
            rotate_left 2
            · simp only [List.getElem?_toArray, List.getElem?_cons_succ, List.getElem?_cons_zero] <;> rfl
            · exact fun _ _ _ h => h
            · rfl
            · (intro w hSw; (try dsimp only at hSw); go_simp; try (with_reducible rfl))
            try simp only [Act.put, List.setIfInBounds_toArray, List.set_cons_zero, List.set_cons_succ]
            refine wpAnyH_take (i := 20) (oi := ?_) (v := ?_) ?_ (by kernel_rfl) (by kernel_rfl) (by kernel_rfl) ?_ (Or.inl ⟨?_, ?_⟩) (by assumption) ?_
            rotate_left 2
            · simp only [List.getElem?_toArray, List.getElem?_cons_succ, List.getElem?_cons_zero] <;> rfl
            · exact fun _ _ _ h => h
            · rfl
            · (intro w hSw; (try dsimp only at hSw); go_simp; try (with_reducible rfl))
            try simp only [Act.put, List.setIfInBounds_toArray, List.set_cons_zero, List.set_cons_succ]
            refine wpAnyH_take (i := 21) (oi := ?_) (v := ?_) ?_ (by kernel_rfl) (by kernel_rfl) (by kernel_rfl) ?_ (Or.inl ⟨?_, ?_⟩) (by assumption) ?_
            rotate_left 2
            · simp only [List.getElem?_toArray, List.getElem?_cons_succ, List.getElem?_cons_zero] <;> rfl
            · exact fun _ _ _ h => h
            · rfl
            · (intro w hSw; (try dsimp only at hSw); go_simp; try (with_reducible rfl))
            try simp only [Act.put, List.setIfInBounds_toArray, List.set_cons_zero, List.set_cons_succ]
            refine wpAnyH_take (i := 22) (oi := ?_) (v := ?_) ?_ (by kernel_rfl) (by kernel_rfl) (by kernel_rfl) ?_ (Or.inl ⟨?_, ?_⟩) (by assumption) ?_
            rotate_left 2
            · simp only [List.getElem?_toArray, List.getElem?_cons_succ, List.getElem?_cons_zero] <;> rfl
            · exact fun _ _ _ h => h
            · rfl
            · (intro w hSw; (try dsimp only at hSw); go_simp; try (with_reducible rfl))
            try simp only [Act.put, List.setIfInBounds_toArray, List.set_cons_zero, List.set_cons_succ]
            refine wpAnyH_take (i := 23) (oi := ?_) (v := ?_) ?_ (by kernel_rfl) (by kernel_rfl) (by kernel_rfl) ?_ (Or.inl ⟨?_, ?_⟩) (by assumption) ?_
            rotate_left 2
            · simp only [List.getElem?_toArray, List.getElem?_cons_succ, List.getElem?_cons_zero] <;> rfl
            · exact fun _ _ _ h => h
            · rfl
            · (intro w hSw; (try dsimp only at hSw); go_simp; try (with_reducible rfl))
            try simp only [Act.put, List.setIfInBounds_toArray, List.set_cons_zero, List.set_cons_succ]
            refine wpAnyH_take (i := 24) (oi := ?_) (v := ?_) ?_ (by kernel_rfl) (by kernel_rfl) (by kernel_rfl) ?_ (Or.inl ⟨?_, ?_⟩) (by assumption) ?_
            rotate_left 2
            · simp only [List.getElem?_toArray, List.getElem?_cons_succ, List.getElem?_cons_zero] <;> rfl
            · exact fun _ _ _ h => h
            · rfl
            · (intro w hSw; (try dsimp only at hSw); go_simp; try (with_reducible rfl))
            try simp only [Act.put, List.setIfInBounds_toArray, List.set_cons_zero, List.set_cons_succ]
            refine wpAnyH_take (i := 25) (oi := ?_) (v := ?_) ?_ (by kernel_rfl) (by kernel_rfl) (by kernel_rfl) ?_ (Or.inl ⟨?_, ?_⟩) (by assumption) ?_
            rotate_left 2
            · simp only [List.getElem?_toArray, List.getElem?_cons_succ, List.getElem?_cons_zero] <;> rfl
            · exact fun _ _ _ h => h
            · rfl
            · (intro w hSw; (try dsimp only at hSw); go_simp; try (with_reducible rfl))
            try simp only [Act.put, List.setIfInBounds_toArray, List.set_cons_zero, List.set_cons_succ]
            refine wpAnyH_take (i := 26) (oi := ?_) (v := ?_) ?_ (by kernel_rfl) (by kernel_rfl) (by kernel_rfl) ?_ (Or.inl ⟨?_, ?_⟩) (by assumption) ?_
            rotate_left 2
            · simp only [List.getElem?_toArray, List.getElem?_cons_succ, List.getElem?_cons_zero] <;> rfl
            · exact fun _ _ _ h => h
            · rfl
            · (intro w hSw; (try dsimp only at hSw); go_simp; try (with_reducible rfl))
            try simp only [Act.put, List.setIfInBounds_toArray, List.set_cons_zero, List.set_cons_succ]
            refine wpAnyH_take (i := 27) (oi := ?_) (v := ?_) ?_ (by kernel_rfl) (by kernel_rfl) (by kernel_rfl) ?_ (Or.inl ⟨?_, ?_⟩) (by assumption) ?_
            rotate_left 2
            · simp only [List.getElem?_toArray, List.getElem?_cons_succ, List.getElem?_cons_zero] <;> rfl
            · exact fun _ _ _ h => h
            · rfl
            · (intro w hSw; (try dsimp only at hSw); go_simp; try (with_reducible rfl))
            try simp only [Act.put, List.setIfInBounds_toArray, List.set_cons_zero, List.set_cons_succ]
            refine wpAnyH_take (i := 28) (oi := ?_) (v := ?_) ?_ (by kernel_rfl) (by kernel_rfl) (by kernel_rfl) ?_ (Or.inl ⟨?_, ?_⟩) (by assumption) ?_
            rotate_left 2
            · simp only [List.getElem?_toArray, List.getElem?_cons_succ, List.getElem?_cons_zero] <;> rfl
            · exact fun _ _ _ h => h
            · rfl
            · (intro w hSw; (try dsimp only at hSw); go_simp; try (with_reducible rfl))
            try simp only [Act.put, List.setIfInBounds_toArray, List.set_cons_zero, List.set_cons_succ]
            refine wpAnyH_take (i := 29) (oi := ?_) (v := ?_) ?_ (by kernel_rfl) (by kernel_rfl) (by kernel_rfl) ?_ (Or.inl ⟨?_, ?_⟩) (by assumption) ?_
            rotate_left 2
            · simp only [List.getElem?_toArray, List.getElem?_cons_succ, List.getElem?_cons_zero] <;> rfl
            · exact fun _ _ _ h => h
            · rfl
            · (intro w hSw; (try dsimp only at hSw); go_simp; try (with_reducible rfl))
            try simp only [Act.put, List.setIfInBounds_toArray, List.set_cons_zero, List.set_cons_succ]
            refine wpAnyH_take (i := 30) (oi := ?_) (v := ?_) ?_ (by kernel_rfl) (by kernel_rfl) (by kernel_rfl) ?_ (Or.inl ⟨?_, ?_⟩) (by assumption) ?_
            rotate_left 2
            · simp only [List.getElem?_toArray, List.getElem?_cons_succ, List.getElem?_cons_zero] <;> rfl
            · exact fun _ _ _ h => h
            · rfl
            · (intro w hSw; (try dsimp only at hSw); go_simp; try (with_reducible rfl))
            try simp only [Act.put, List.setIfInBounds_toArray, List.set_cons_zero, List.set_cons_succ]
            refine wpAnyH_take (i := 31) (oi := ?_) (v := ?_) ?_ (by kernel_rfl) (by kernel_rfl) (by kernel_rfl) ?_ (Or.inl ⟨?_, ?_⟩) (by assumption) ?_
            rotate_left 2
            · simp only [List.getElem?_toArray, List.getElem?_cons_succ, List.getElem?_cons_zero] <;> rfl
            · exact fun _ _ _ h => h
            · rfl
            · (intro w hSw; (try dsimp only at hSw); go_simp; try (with_reducible rfl))
            try simp only [Act.put, List.setIfInBounds_toArray, List.set_cons_zero, List.set_cons_succ]
            refine wpAnyH_ready (rs := [32]) (by kernel_rfl) (by simp) ?_
            refine AllReadyH.cons (o := _) (by simp only [List.getElem?_toArray, List.getElem?_cons_succ, List.getElem?_cons_zero] <;> rfl) (fun K hK => ?_) ?_
            · refine step_build (by rfl) 15 _ (by rfl) [⟨0, v, f, 0⟩, ⟨0, v, g, 0⟩, ⟨0, v, f, 0⟩, ⟨3, v, f, 0⟩, ⟨3, v, g, 0⟩, ⟨7, v, f, 0⟩, ⟨5, v, g, 0⟩, ⟨1, v, f, 0⟩, ⟨4, v, f, 0⟩, ⟨2, v, g, sv⟩, ⟨3, v, g, 0⟩, ⟨6, v, g, 0⟩, ⟨5, v, g, 0⟩, ⟨1, v, g, 0⟩, ⟨0, v, g, 0⟩] (by decide) (by decide) rfl (by kernel_rfl) ?_
              rw [← HE5.out, HQ5.out]
              refine hK.out _ _ ?_ (fun hHeld => ?_)
              · (try dsimp only)
                exact S5.out
              clear hK K
              try simp only [Act.put, List.setIfInBounds_toArray, List.set_cons_zero, List.set_cons_succ]
              refine wpAnyH_take (i := 33) (oi := ?_) (v := ?_) ?_ (by kernel_rfl) (by kernel_rfl) (by kernel_rfl) ?_ (Or.inl ⟨?_, ?_⟩) (by assumption) ?_
              rotate_left 2
              · simp only [List.getElem?_toArray, List.getElem?_cons_succ, List.getElem?_cons_zero] <;> rfl
              · exact fun _ _ _ h => h
              · rfl
              · (intro w hSw; (try dsimp only at hSw); go_simp; try (with_reducible rfl))
              try simp only [Act.put, List.setIfInBounds_toArray, List.set_cons_zero, List.set_cons_succ]
              refine wpAnyH_done (by kernel_rfl) ?_ _
              go_wp2_with fail
              refine (isDeeds_call D5.out).mono ?_
              rintro e w6 ⟨rfl, hb6⟩
              have B6 := Lib.hid (Below.step B5.out hb6)
              clear hb6 f0 f1 g0 g1
              go_wp2_with fail
              go_roundw
              case rel => exact ⟨i + 1, HI.out, by go_num, Below.step HB.out B6.out, HS.out.below B6.out⟩
              case measure => have := HI.out; simp [intOf]; omega
            exact AllReadyH.nil
        · obtain rfl : i = 36 := by omega
          clear hlt hi HS
          rw [show ((36 : Nat) : Int) = 36 from rfl]
          have q1 : decide ((36 : Int) < 36) = false := by decide
          go_upto_region 24 with fail
          obtain ⟨nz, hnz⟩ : ∃ nz, wr.heap.size = nz := ⟨_, rfl⟩
          obtain ⟨W1, hW1⟩ : ∃ W, W = (wr.alloc (.cells #[.pointer none] 46)).alloc (.cells #[.pointer none, .pointer (some ⟨nz, 0, none⟩)] 24) := ⟨_, rfl⟩
          rw [hnz, ← hW1]
          have HB1 : Hid (Below w.heap.size w W1) := by show Below _ _ _; rw [hW1]; exact Below.new (Below.new HB.out _) _
          have HNB : Hid (NilsAt (nz + 1) W1) := by
            show NilsAt _ _
            have h1 : Fresh W1 nz #[.pointer none] 46 := by rw [hW1]; exact (Fresh.new _ _ _ _ hnz).alloc _
            have h2 : Fresh W1 (nz + 1) #[.pointer none, .pointer (some ⟨nz, 0, none⟩)] 24 := by rw [hW1]; exact Fresh.new _ _ _ _ (by simp [hnz])
            refine ⟨h2.lt, fun c hc => ?_⟩
            rcases (show c = 0 ∨ c = 1 from by omega) with rfl | rfl
            · exact ⟨none, h2.cell 0, .inl rfl⟩
            · exact ⟨some ⟨nz, 0, none⟩, h2.cell 1, .inr ⟨nz, rfl, h1⟩⟩
          clear hW1 hnz q1 HB
          obtain ⟨nb, hnb⟩ : ∃ nb, nz + 1 = nb := ⟨_, rfl⟩
          rw [hnb] at HNB ⊢
          clear hnb
          go_wp2_with fail
          go_loopw [11] (fun it wr => ∃ i : Nat, i ≤ 2 ∧ it = .int .i64 i ∧ SameB w wr ∧ NilsAt nb wr) (fun it _ => 2 - (intOf it).toNat)
          case atStart => exact ⟨0, by omega, rfl, HB1.out, HNB.out⟩
          case round =>
            clear HB1 HNB
            obtain ⟨j, hj, rfl, hB, hN⟩ := hrel
            have HB := Lib.hid (show Below w.heap.size w _ from hB)
            have HN := Lib.hid hN
            obtain ⟨W0, hW0⟩ : ∃ W, W = wr := ⟨_, rfl⟩
            subst hW0
            clear hB hN
            by_cases hlt : j < 2
            · as_aux_lemma =>
                have HI : Hid (j < 2) := hlt
                obtain ⟨x, hc, hx⟩ := HN.out.2 j hlt
                have HR := Lib.hid (Below.refl W0.heap.size W0)
                have HNX : Hid (∀ W', Below W0.heap.size W0 W' → NilL W' x) := fun W' hb => hx.below hb
                have q0 : (0 : Int) ≤ (j : Int) := Int.natCast_nonneg _
                have q1 : (j : Int) < 2 := by omega
                have q2 : decide (j < 2) = true := decide_eq_true hlt
                clear hlt hj hx
                go_wp2_with fail
                refine (one_any _).mono ?_
                rintro e v0 ⟨rfl, hb⟩
                have H0 := Lib.hid (Below.step HR.out hb)
                clear hb
                clear hc
                go_wp2_with fail
                refine (nil_begin 0 1 (HNX.out _ H0.out)).mono ?_
                rintro e v1 ⟨rfl, hb⟩
                have H1 := Lib.hid (Below.step H0.out hb)
                clear hb
                go_wp2_with fail
                refine (one_any _).mono ?_
                rintro e v2 ⟨rfl, hb⟩
                have H2 := Lib.hid (Below.step H1.out hb)
                clear hb
                go_wp2_with fail
                refine (nil_add 0 1 (HNX.out _ H2.out)).mono ?_
                rintro e v3 ⟨rfl, hb⟩
                have H3 := Lib.hid (Below.step H2.out hb)
                clear hb
                go_wp2_with fail
                refine (one_any _).mono ?_
                rintro e v4 ⟨rfl, hb⟩
                have H4 := Lib.hid (Below.step H3.out hb)
                clear hb
                go_wp2_with fail
                refine (nil_gone 0 1 (HNX.out _ H4.out)).mono ?_
                rintro e v5 ⟨rfl, hb⟩
                have H5 := Lib.hid (Below.step H4.out hb)
                clear hb
                go_wp2_with fail
                refine (one_any _).mono ?_
                rintro e v6 ⟨rfl, hb⟩
                have H6 := Lib.hid (Below.step H5.out hb)
                clear hb
                go_wp2_with fail
                refine (nil_check 0 1 0 (HNX.out _ H6.out)).mono ?_
                rintro e v7 ⟨rfl, hb⟩
                have H7 := Lib.hid (Below.step H6.out hb)
                clear hb
                go_wp2_with fail
                refine (one_any _).mono ?_
                rintro e v8 ⟨rfl, hb⟩
                have H8 := Lib.hid (Below.step H7.out hb)
                clear hb
                go_wp2_with fail
                refine (nil_lock 0 1 0 (HNX.out _ H8.out)).mono ?_
                rintro e v9 ⟨rfl, hb⟩
                have H9 := Lib.hid (Below.step H8.out hb)
                clear hb
                go_wp2_with fail
                refine (one_any _).mono ?_
                rintro e v10 ⟨rfl, hb⟩
                have H10 := Lib.hid (Below.step H9.out hb)
                clear hb
                go_wp2_with fail
                refine (nil_drop 0 1 (HNX.out _ H10.out)).mono ?_
                rintro e v11 ⟨rfl, hb⟩
                have H11 := Lib.hid (Below.step H10.out hb)
                clear hb
                go_wp2_with fail
                refine (one_any _).mono ?_
                rintro e v12 ⟨rfl, hb⟩
                have H12 := Lib.hid (Below.step H11.out hb)
                clear hb
                go_wp2_with fail
                refine (nil_done 0 1 (HNX.out _ H12.out)).mono ?_
                rintro e v13 ⟨rfl, hb⟩
                have H13 := Lib.hid (Below.step H12.out hb)
                clear hb
                go_wp2_with fail
                refine (one_any _).mono ?_
                rintro e v14 ⟨rfl, hb⟩
                have H14 := Lib.hid (Below.step H13.out hb)
                clear hb
                go_wp2_with fail
                refine (nil_kill 0 1 (HNX.out _ H14.out)).mono ?_
                rintro e v15 ⟨rfl, hb⟩
                have H15 := Lib.hid (Below.step H14.out hb)
                clear hb
                go_wp2_with fail
                refine (nil_held (HNX.out _ H15.out)).mono ?_
                rintro e v16 ⟨rfl, hb⟩
                have H16 := Lib.hid (Below.step H15.out hb)
                clear hb
                go_wp2_with fail
                refine (nil_taken (HNX.out _ H16.out)).mono ?_
                rintro e v17 ⟨rfl, hb⟩
                have H17 := Lib.hid (Below.step H16.out hb)
                clear hb
                go_wp2_with fail
                refine (nil_len (HNX.out _ H17.out)).mono ?_
                rintro e v18 ⟨rfl, hb⟩
                have H18 := Lib.hid (Below.step H17.out hb)
                clear hb
                go_wp2_with fail
                refine (nil_copy (HNX.out _ H18.out)).mono ?_
                rintro e v19 ⟨rfl, hb⟩
                have H19 := Lib.hid (Below.step H18.out hb)
                clear hb
                go_wp2_with fail
                go_roundw
                case rel => exact ⟨j + 1, HI.out, by go_num, Below.step HB.out H19.out, HN.out.below H19.out⟩
                case measure => have := HI.out; simp [intOf]; omega
            · obtain rfl : j = 2 := by omega
              rw [show ((2 : Nat) : Int) = 2 from rfl]
              have q1 : decide ((2 : Int) < 2) = false := by decide
              clear hlt hj HN
              go_wp2_with fail
              refine (awake_any _).mono ?_
              rintro e w9 ⟨rfl, hb9⟩
              have H9 := Lib.hid (Below.step HB.out hb9)
              clear hb9
              go_wp2_with fail
              go_ret
              exact ⟨rfl, H9.out⟩
end Go.Proofs.Ythhmbmeajgjhcaa
