/- The walk of LockDoes. -/
import Derived.Test.YthhmbmeajgjhcaaDo
import Derived.Test.YthhmbmeajgjhcaaAwakeW
import Derived.Test.YthhmbmeajgjhcaaOpenD
import Derived.Test.YthhmbmeajgjhcaaDeeds
namespace Go.Proofs.Ythhmbmeajgjhcaa
open Go.RowKit
set_option maxRecDepth 100000
set_option maxHeartbeats 8000000

/-- The references are gathered. -/
def Loop1D (w W0 : World) (C : Nat) (i : Nat) (v : Value) (wr : World) : Prop :=
  Below w.heap.size w wr ∧ Below C W0 wr ∧ ∃ l : List Wd, l.length = i ∧ (∀ u ∈ l, RefOk u.s u.g) ∧ wr.ownsRow C 33 2 v i (rc l)
theorem refs_of {W : World} {C : Nat} {a : Option Addr} {c : Nat} {l : List Wd} (h : W.ownsRow C 33 2 (.slice a l.length c) l.length (rc l)) (ho : ∀ u ∈ l, RefOk u.s u.g) : IsRefs W a l.length := by
  by_cases hl : l.length = 0
  · exact .inl hl
  · obtain ⟨u, hu⟩ : ∃ u, l[0]? = some u := ⟨l[0]'(by omega), List.getElem?_eq_getElem (by omega)⟩
    obtain ⟨g, rfl, _, hg, _⟩ := ref_cells h 0 u hu
    refine .inr ⟨g, rfl, hg, fun i hi => ?_⟩
    obtain ⟨u, hu⟩ : ∃ u, l[i]? = some u := ⟨l[i], List.getElem?_eq_getElem hi⟩
    obtain ⟨g', e, _, _, _, _, h1, h2⟩ := ref_cells h i u hu
    cases e
    exact ⟨u.s, u.g, ho u (List.mem_of_getElem? hu), h1, h2⟩
theorem IsRefs.keep {K : List Nat} {B : Nat} {W W' : World} {ao : Option Addr} {len : Nat} (h : IsRefs W ao len) (hk : Keep K B W W') (hg : ∀ g, ao = some ⟨g, 0, none⟩ → g < B ∧ g ∉ K) : IsRefs W' ao len := by
  rcases h with h | ⟨g, h1, h2, h3⟩
  · exact .inl h
  · obtain ⟨g1, g2⟩ := hg g h1
    have hb := hk.block g g1 g2
    refine .inr ⟨g, h1, Nat.lt_of_lt_of_le h2 hk.size, fun i hi => ?_⟩
    obtain ⟨x, k, u1, e0, e1⟩ := h3 i hi
    have hc : ∀ o, W'.cell? ⟨g, o, none⟩ = W.cell? ⟨g, o, none⟩ := fun o => by simp only [World.cell?, hb]
    exact ⟨x, k, u1, by rw [hc]; exact e0, by rw [hc]; exact e1⟩
theorem Keep.below {K : List Nat} {B n : Nat} {w W W' : World} (hb : Below n w W) (h : Keep K B W W') (hK : ∀ k ∈ K, n ≤ k) (hn : n ≤ B) : Below n w W' :=
  ⟨h.os.trans hb.os, h.tape.trans hb.tape, h.output.trans hb.output, Nat.le_trans hb.size h.size, fun k hk => (h.block k (by omega) (fun e => by have := hK k e; omega)).trans (hb.block k hk)⟩

def Loop2D (K : List Nat) (B : Nat) (W0 : World) (r : Nat) (i : Nat) (lv : Value) (wr : World) : Prop :=
  ∃ p a m s, lv = .pointer (some ⟨p, 0, none⟩) ∧ Keep K B W0 wr ∧ St K B wr p a m r s s ∧ s.Ok (i : Int)

theorem lockDoes_walk (ao : Option Addr) (len cap : Nat) (w : World) (hd : IsDeeds w ao len) :
    Calls Try.prog 3 #[.slice ao len cap] w fun e w' => e = .returned (.bool true) ∧ Below w.heap.size w w' := by
  have hlen63 := hd.1
  by_cases hbig : 200 < len
  · have d1 : decide ((200 : Int) < (len : Int)) = true := decide_eq_true (by omega)
    clear hd hlen63 hbig
    go_enter Try.func3, Try.ntmps3
    go_wp2_with fail
    refine (awake_any _).mono ?_
    rintro e w1 ⟨rfl, hb1⟩
    go_wp2_with fail
    go_ret
    exact ⟨rfl, hb1⟩
  · have HD := Lib.hid hd
    have d1 : decide ((200 : Int) < (len : Int)) = false := decide_eq_false (by omega)
    have hlen : len ≤ 200 := by omega
    clear hd hlen63 hbig
    go_enter Try.func3, Try.ntmps3
    go_wp2_with fail
    refine (new_any _).mono ?_
    rintro e w1 ⟨p, a, m, hp, ha, hm, rfl, hb1, hat1⟩
    have HM : Hid (w.heap.size ≤ p ∧ w.heap.size ≤ a ∧ w.heap.size ≤ m) := ⟨hp, ha, hm⟩
    have HB1 := Lib.hid hb1
    have HA1 := Lib.hid hat1
    clear hp ha hm hb1 hat1
    go_upto_region 4 with fail
    obtain ⟨W2, hW2⟩ : ∃ W, W = w1.alloc (.cells #[.slice none 0 0, .slice none 0 0, .int .i64 0] TL) := ⟨_, rfl⟩
    rw [← hW2]
    obtain ⟨r, hr⟩ : ∃ r, w1.heap.size = r := ⟨_, rfl⟩
    rw [hr]
    have HF2 : Hid (Fresh W2 r #[.slice none 0 0, .slice none 0 0, .int .i64 0] TL) := by show Fresh _ _ _ _; rw [hW2]; exact Fresh.new _ _ _ _ hr
    have HB2 : Hid (Below w.heap.size w W2) := by show Below _ _ _; rw [hW2]; exact Below.new HB1.out _
    have HA2 : Hid (At W2 p a m ⟨0, 0, []⟩) := by show At _ _ _ _ _; rw [hW2]; exact HA1.out.below (Below.new (Below.refl _ _) _)
    have HR2 : Hid (w.heap.size ≤ r ∧ r < W2.heap.size) := ⟨by rw [← hr]; exact HB1.out.size, HF2.out.lt⟩
    clear hW2 hr HA1 HB1
    go_wp2_with fail
    go_loopw [5, 6] (fun v it wr => ∃ i : Nat, i ≤ len ∧ it = .int .i64 i ∧ Loop1D w W2 W2.heap.size i v wr) (fun _ it _ => len - (intOf it).toNat)
    case atStart => exact ⟨0, by omega, rfl, HB2.out, Below.refl _ _, [], rfl, by simp, World.ownsRow_nil _ _ _ _⟩
    case round =>
      obtain ⟨i, hi, rfl, hL⟩ := hrel
      obtain ⟨hBw, hBC, l, hll, hlo, hrow⟩ := hL
      obtain ⟨va, vc, rfl⟩ := row_form hrow
      by_cases hlt : i < len
      · obtain ⟨g, off, rfl, c, x, k, v, hx, hv, hat⟩ := HD.out.at' i hlt
        obtain ⟨_, e0, e1, e2, e3⟩ := hat _ hBw
        obtain ⟨iR, jR, jR0, jR1, jR2⟩ := infoR
        have HJR := Lib.hid jR
        have HI : Hid (i < len) := hlt
        have HX := Lib.hid hx
        have HLL := Lib.hid hll
        have HLO := Lib.hid hlo
        have q0 : (0 : Int) ≤ (i : Int) := Int.natCast_nonneg _
        have q1 : (i : Int) < (len : Int) := by omega
        have q2 : decide (i < len) = true := decide_eq_true hlt
        have q3 : (i : Int) < 200 := by omega
        have HBw := Lib.hid hBw
        have HBC := Lib.hid hBC
        have B6 := Below.new (Below.refl wr.heap.size wr) (.cells #[.int .i64 x, .int .u32 k] 33)
        have P6 := Lib.hid (row_keep hrow fun j hj => B6.block j (hrow.lt j hj).2)
        have N6 : Hid (∀ (j : Nat) u, [Value.int .i64 x, Value.int .u32 k][j]? = some u → (wr.alloc (.cells #[.int .i64 x, .int .u32 k] 33)).cell? ((⟨wr.heap.size, 0, none⟩ : Addr).add j) = some u) := by
          intro j u hj
          have hf := Fresh.new wr wr.heap.size #[.int .i64 x, .int .u32 k] 33 rfl
          rw [Addr.add_lit, Nat.zero_add, hf.cell j]
          simpa using hj
        have B6s : Hid (W2.heap.size ≤ (wr.alloc (.cells #[.int .i64 x, .int .u32 k] 33)).heap.size) := by
          have h1 := HBC.out.size
          show _ ≤ _
          simp
          omega
        have HB6 := Lib.hid B6
        have A1 : Hid (i + 1 ≤ maxLen) := by show _ ≤ _; unfold maxLen; omega
        have A2 : Hid ((i + 1) * 16 ≤ 140737488355328) := by show _ ≤ _; omega
        clear jR hat hlt hi hBw hBC hll hlo hx hv hrow B6
        go_wp2_with (at_builtin; refine wpList_append_own _ rfl (.tmp 23) (.tmp 29) 27 rfl W2.heap.size 33 iR (.agg #[.int .i64 0, .int .u32 0]) 2 16 Try.underlying27 HJR.out jR0 jR1 jR2 rfl (by decide) (.slice va i vc) i (rc l) rfl P6.out ⟨wr.heap.size, 0, none⟩ 1 1 [.int .i64 x, .int .u32 k] rfl rfl N6.out (by intro u hu; simp at hu; rcases hu with rfl | rfl <;> rfl) A1.out A2.out B6s.out ?_)
        intro v7 w7 hown hgrow hnn
        have hlow : ∀ j, (Value.slice va i vc).ownBlock = some j → W2.heap.size ≤ j := fun j hj => (P6.out.lt j hj).1
        have BC7 : Hid (Below W2.heap.size W2 w7) := (HBC.out.trans (HB6.out.mono HBC.out.size)).grown hgrow (Nat.le_trans HBC.out.size HB6.out.size) hlow
        have Bw7 : Hid (Below w.heap.size w w7) := (HBw.out.trans (HB6.out.mono HBw.out.size)).grown hgrow (Nat.le_trans HBw.out.size HB6.out.size) (fun j hj => Nat.le_trans HB2.out.size (hlow j hj))
        have HW7 := Lib.hid hown
        clear hown hgrow hnn hlow e0 e1 e2 e3
        go_wp2_with fail
        go_roundw
        case rel =>
          refine ⟨i + 1, HI.out, by go_num, Bw7.out, BC7.out, l ++ [⟨x, k, 0⟩], by simp [HLL.out], ?_, by rw [rc_append]; exact HW7.out⟩
          intro u hu
          rcases List.mem_append.1 hu with h | h
          · exact HLO.out u h
          · simp at h; subst h; exact HX.out
        case measure => have := HI.out; simp [intOf]; omega
      · obtain rfl : i = len := by omega
        have HRF : Hid (IsRefs wr va i) := by subst hll; exact refs_of hrow hlo
        have St0 : Hid (St [a, m, r] wr.heap.size wr p a m r ⟨0, 0, []⟩ ⟨0, 0, []⟩) := by
          have hA := HA2.out.below hBC
          have hF := HF2.out.below hBC
          exact ⟨hA, ⟨_, _, hF, World.ownsRow_nil _ _ _ _, World.ownsRow_nil _ _ _ _⟩, .inl (by simp), .inl (by simp), by simp, hF.lt, Nat.le_refl _⟩
        have HG : Hid (∀ g, va = some ⟨g, 0, none⟩ → g < wr.heap.size ∧ g ∉ [a, m, r]) := by
          intro g hg
          subst hg
          refine ⟨(hrow.lt g rfl).2, fun e => ?_⟩
          simp at e
          rcases e with rfl | rfl | rfl
          · exact row_apart hrow St0.out.at'.ha (by decide) rfl
          · exact row_apartM hrow St0.out.at'.hm rfl
          · exact row_apart hrow (HF2.out.below hBC) (by decide) rfl
        have HBw := Lib.hid hBw
        have HK : Hid (∀ j ∈ [a, m, r], w.heap.size ≤ j) := by
          intro j hj
          simp at hj
          rcases hj with rfl | rfl | rfl
          · exact HM.out.2.1
          · exact HM.out.2.2
          · exact HR2.out.1
        obtain ⟨K, hK⟩ : ∃ K, [a, m, r] = K := ⟨_, rfl⟩
        rw [hK] at St0 HG HK
        have q3 : (i : Int) ≤ 200 := by omega
        clear hlt hi hBw hBC hll hlo hrow HF2 HA2 HR2 HM hK
        obtain ⟨W0, hW0⟩ : ∃ W, W = wr := ⟨_, rfl⟩
        subst hW0
        have HN0 : Hid (w.heap.size ≤ W0.heap.size) := HBw.out.size
        go_wp2_with fail
        go_loopw [3, 7] (fun lv it wq => ∃ j : Nat, j ≤ i ∧ it = .int .i64 j ∧ Loop2D K W0.heap.size W0 r j lv wq) (fun _ it _ => i - (intOf it).toNat)
        case atStart => exact ⟨0, by omega, rfl, p, a, m, ⟨0, 0, []⟩, rfl, Keep.refl _ _ _, St0.out, ⟨List.Pairwise.nil, by simp, rfl, by simp, by simp, by simp⟩⟩
        case round =>
          obtain ⟨j, hj, rfl, p1, a1, m1, s1, rfl, hK1, hS1, hO1⟩ := hrel
          have HK1 := Lib.hid hK1
          have HS1 := Lib.hid hS1
          have HO1 := Lib.hid hO1
          have Bw1 : Hid (Below w.heap.size w wr) := hK1.below HBw.out HK.out HN0.out
          clear hK1 hS1 hO1
          by_cases hlt : j < i
          · obtain ⟨g, off, rfl, c, x, k, v, hx, hv, hat⟩ := HD.out.at' j hlt
            obtain ⟨_, e0, e1, e2, e3⟩ := hat _ Bw1.out
            have HI : Hid (j < i) := hlt
            have q0 : (0 : Int) ≤ (j : Int) := Int.natCast_nonneg _
            have q1 : (j : Int) < (i : Int) := by omega
            have q2 : decide (j < i) = true := decide_eq_true hlt
            have q4 : (j : Int) < 200 := by omega
            have HDO := Lib.hid (does_any HS1.out HO1.out (by omega) c x k v hx hv)
            clear hat hlt hj hx hv
            go_wp2_with fail
            refine HDO.out.mono ?_
            rintro e w3 ⟨p2, a2, m2, s2, rfl, hk2, hs2, ho2⟩
            have HK2 := Lib.hid (HK1.out.trans hk2)
            have HS2 := Lib.hid hs2
            have HO2 := Lib.hid ho2
            clear hk2 hs2 ho2 e0 e1 e2 e3
            have HSM := Lib.hid (same_any HS2.out.at' HS2.out.rat HO2.out (by omega) va i vc (HRF.out.keep HK2.out HG.out) (by omega))
            go_wp2_with fail
            refine HSM.out.mono ?_
            rintro e w4 ⟨rfl, hb4⟩
            have HK4 := Lib.hid (HK2.out.trans (Keep.of_below HS2.out.low hb4))
            have HS4 := Lib.hid (HS2.out.below hb4)
            clear hb4
            go_wp2_with fail
            go_roundw
            case rel => exact ⟨j + 1, HI.out, by go_num, p2, a2, m2, s2, rfl, HK4.out, HS4.out, by have := HO2.out; simpa using this⟩
            case measure => have := HI.out; simp [intOf]; omega
          · obtain rfl : j = i := by omega
            have HSM := Lib.hid (same_any HS1.out.at' HS1.out.rat HO1.out (by omega) va j vc (HRF.out.keep HK1.out HG.out) (by omega))
            clear hlt hj
            go_wp2_with fail
            refine HSM.out.mono ?_
            rintro e w4 ⟨rfl, hb4⟩
            have B4 := Lib.hid (Below.step Bw1.out hb4)
            clear hb4
            go_wp2_with fail
            refine (awake_any _).mono ?_
            rintro e w5 ⟨rfl, hb5⟩
            have B5 := Lib.hid (Below.step B4.out hb5)
            clear hb5
            go_wp2_with fail
            go_ret
            exact ⟨rfl, B5.out⟩
end Go.Proofs.Ythhmbmeajgjhcaa
