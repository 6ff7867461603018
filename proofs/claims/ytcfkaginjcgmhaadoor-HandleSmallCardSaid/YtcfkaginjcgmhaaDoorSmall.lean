/- The walk of HandleSmall. -/
import Derived.Test.YtcfkaginjcgmhaaDoorTexts
namespace Go.Proofs.YtcfkaginjcgmhaaDoor
open Go.RowKit
set_option maxRecDepth 100000
set_option maxHeartbeats 40000000

def okT (cs : Array Value) : Bool := cs.toList.all fun v => match v with
  | .int .i64 _ => true
  | _ => false
theorem okT_at {cs : Array Value} (h : okT cs = true) (i : Nat) (hi : i < cs.size) : ∃ t : Int, cs[i]? = some (.int .i64 t) := by
  have h1 := List.all_eq_true.1 h cs[i] (by simp)
  have h2 : cs[i]? = some cs[i] := by simp [hi]
  revert h1 h2
  generalize cs[i] = v
  intro h1 h2
  cases v
  case int k t => cases k <;> first | exact ⟨t, h2⟩ | exact absurd h1 (by simp)
  all_goals exact absurd h1 (by simp)
def okG (cs : Array Value) : Bool := cs.toList.all fun v => match v with
  | .int .u32 g => decide (g ≤ 4294967295)
  | _ => false
theorem okG_at {cs : Array Value} (h : okG cs = true) (i : Nat) (hi : i < cs.size) : ∃ g : Int, cs[i]? = some (.int .u32 g) ∧ g ≤ 4294967295 := by
  have h1 := List.all_eq_true.1 h cs[i] (by simp)
  have h2 : cs[i]? = some cs[i] := by simp [hi]
  revert h1 h2
  generalize cs[i] = v
  intro h1 h2
  cases v
  case int k t => cases k <;> first | exact ⟨t, h2, by simpa using h1⟩ | exact absurd h1 (by simp)
  all_goals exact absurd h1 (by simp)

/-- What stands in the law's three blocks. -/
def SM (w wr : World) (cs gs : Array Value) : Prop := Below w.heap.size w wr ∧ Fresh wr w.heap.size cs 3 ∧ Fresh wr (w.heap.size + 1) gs 22 ∧
  ∃ (t g : Int) (r : Nat), Fresh wr (w.heap.size + 1 + 1) #[.int .i64 t, .int .u32 g, .int .u8 r] 25 ∧ g ≤ 4294967295 ∧ r < 256
theorem SM.step {w wr w2 : World} {cs gs : Array Value} (h : SM w wr cs gs) (hb : Below wr.heap.size wr w2) : SM w w2 cs gs := by
  obtain ⟨h1, h2, h3, t, g, r, h4, h5, h6⟩ := h
  exact ⟨Below.step h1 hb, h2.below hb, h3.below hb, t, g, r, h4.below hb, h5, h6⟩

theorem handleSmall_walk (w : World) (hw : Tab w ∧ Errs w) :
    Calls Tryd.prog 5 #[] w fun e w' => e = .returned (.bool true) ∧ Below w.heap.size w w' := by
  have HT := Lib.hid hw.1
  have HE := Lib.hid hw.2
  clear hw
  go_enter Tryd.func5, Tryd.ntmps5
  go_wp2_with fail
  go_loopw [4] (fun i wr => ∃ n : Nat, n ≤ 12 ∧ i = .int .i64 n ∧ ∃ cs gs, SM w wr cs gs ∧ okT cs = true ∧ cs.size = 12 ∧ okG gs = true ∧ gs.size = 8) (fun i _ => 12 - (intOf i).toNat)
  case atStart => exact ⟨0, by omega, rfl, _, _, ⟨Below.new (Below.new (Below.new (Below.refl _ _) _) _) _, ((Fresh.new _ _ _ _ rfl).alloc _).alloc _, (Fresh.new _ _ _ _ (by simp)).alloc _, 0, 0, 0, Fresh.new _ _ _ _ (by simp), by decide, by decide⟩, by decide, rfl, by decide, rfl⟩
  case round =>
    obtain ⟨n, hn, rfl, cs, gs, hX, hok, hsz, hok2, hsz2⟩ := hrel
    by_cases h12 : n < 12
    · obtain ⟨t, ht⟩ := okT_at hok n (by omega)
      have hn12 : (n : Int) < 12 := by omega
      have HNN := Lib.hid (And.intro h12 hn)
      have HO := Lib.hid (And.intro hok (And.intro hsz (And.intro hok2 hsz2)))
      have HX := Lib.hid hX
      have HTt := Lib.hid ht
      clear hok hsz hX ht h12 hn hok2 hsz2
      go_wp2_with fail
      obtain ⟨wo, rfl⟩ : ∃ wo : World, wo = wr := ⟨_, rfl⟩
      go_loopw [5] (fun i wr => ∃ k : Nat, k ≤ 8 ∧ i = .int .i64 k ∧ SM w wr cs gs) (fun i _ => 8 - (intOf i).toNat)
      case atStart => exact ⟨0, by omega, rfl, HX.out⟩
      case round =>
        obtain ⟨k, hk, rfl, hX2⟩ := hrel
        by_cases h8 : k < 8
        · obtain ⟨g, hg, hgl⟩ := okG_at HO.out.2.2.1 k (by have := HO.out.2.2.2; omega)
          have hk8 : (k : Int) < 8 := by omega
          have HKK := Lib.hid (And.intro h8 hk)
          have HX2 := Lib.hid hX2
          have HGg := Lib.hid hg
          have HGl := Lib.hid hgl
          clear hX2 hg h8 hk hgl
          go_wp2_with fail
          obtain ⟨wp, rfl⟩ : ∃ wp : World, wp = wr := ⟨_, rfl⟩
          go_loopw [6] (fun i wr => ∃ r : Nat, r ≤ 256 ∧ i = .int .i64 r ∧ SM w wr cs gs) (fun i _ => 256 - (intOf i).toNat)
          case atStart => exact ⟨0, by omega, rfl, HX2.out⟩
          case round =>
            obtain ⟨r, hr, rfl, hB3, hC3, hG3, lt, lg, lr, hL3, hlg, hlr⟩ := hrel
            by_cases h256 : r < 256
            · have hr256 : (r : Int) < 256 := by omega
              have c0 := hC3.cell n
              rw [HTt.out] at c0
              have g0 := hG3.cell k
              rw [HGg.out] at g0
              have l0 := hC3.lt
              have l1 := hG3.lt
              have hn12 : (n : Int) < 12 := by have := HNN.out.1; omega
              have hn0 : (0 : Int) ≤ (n : Int) := Int.natCast_nonneg _
              have hk8 : (k : Int) < 8 := by have := HKK.out.1; omega
              have hk0 : (0 : Int) ≤ (k : Int) := Int.natCast_nonneg _
              have er : IntKind.u8.wrap (r : Int) = (r : Int) := by simp [IntKind.wrap, IntKind.bits, IntKind.signed]; omega
              have HB3 := Lib.hid hB3
              have HC3 := Lib.hid hC3
              have HG3 := Lib.hid hG3
              have HL3 := Lib.hid hL3
              have HLL := Lib.hid (And.intro hlg hlr)
              have HRR := Lib.hid (And.intro h256 hr)
              clear hB3 hC3 hG3 hL3 hlg hlr h256 hr
              go_wp2_with fail
              go_region
              all_goals
                obtain ⟨W8, hW8⟩ : ∃ W8, W8 = (wr.alloc (.cells #[.int .i64 t, .int .u32 g, .int .u8 (r : Int)] 25)).drew := ⟨_, rfl⟩
                rw [← hW8]
                have HB4 : Hid (Below w.heap.size w W8) := by show Below _ _ _; rw [hW8]; exact (Below.new HB3.out _).drew
                have HC4 : Hid (Fresh W8 w.heap.size cs 3) := by show Fresh _ _ _ _; rw [hW8]; exact HC3.out.alloc _
                have HG4 : Hid (Fresh W8 (w.heap.size + 1) gs 22) := by show Fresh _ _ _ _; rw [hW8]; exact HG3.out.alloc _
                have HL4 : Hid (Fresh W8 (w.heap.size + 1 + 1) #[.int .i64 lt, .int .u32 lg, .int .u8 (lr : Int)] 25) := by show Fresh _ _ _ _; rw [hW8]; exact HL3.out.alloc _
                have HH4 : Hid (Fresh W8 wr.heap.size #[.int .i64 t, .int .u32 g, .int .u8 (r : Int)] 25) := by show Fresh _ _ _ _; rw [hW8]; exact Fresh.new _ _ _ _ rfl
                have hlt : w.heap.size + 1 + 1 < wr.heap.size := HL3.out.lt
                have HLT := Lib.hid hlt
                clear hW8 c0 g0 l0 l1 hn12 hn0 hk8 hk0 er hlt
                have x0 := HH4.out.cell 0
                have x1 := HH4.out.cell 1
                have x2 := HH4.out.cell 2
                have y0 := HL4.out.cell 0
                have y1 := HL4.out.cell 1
                have y2 := HL4.out.cell 2
                simp only [List.getElem?_toArray, List.getElem?_cons_zero, List.getElem?_cons_succ] at x0 x1 x2 y0 y1 y2
                go_wp2_with fail
                refine (same_any t g r lt lg lr _ HGl.out HRR.out.1 HLL.out.2 _ (HT.out.on HB4.out)).mono ?_
                rintro e w5 ⟨rfl, hb5⟩
                have HB5 := Lib.hid (Below.step HB4.out hb5)
                have HC5 := Lib.hid (HC4.out.below hb5)
                have HG5 := Lib.hid (HG4.out.below hb5)
                have HL5 := Lib.hid (HL4.out.below hb5)
                have HH5 := Lib.hid (HH4.out.below hb5)
                clear hb5 x0 x1 x2 y0 y1 y2
                by_cases h9 : r % 9 < 8
                · have h9' : ((r : Int) % 9) < 8 := by omega
                  have x0 := HH5.out.cell 0
                  have x1 := HH5.out.cell 1
                  have x2 := HH5.out.cell 2
                  have y0 := HL5.out.cell 0
                  have y1 := HL5.out.cell 1
                  have y2 := HL5.out.cell 2
                  have z0 := HL5.out.thawed 0
                  have z1 := HL5.out.thawed 1
                  have z2 := HL5.out.thawed 2
                  simp only [List.getElem?_toArray, List.getElem?_cons_zero, List.getElem?_cons_succ] at x0 x1 x2 y0 y1 y2
                  go_wp2_with fail
                  go_roundw
                  case rel =>
                    refine ⟨r + 1, by have := HRR.out.1; omega, by go_num, below_set3 HB5.out (by omega) _ _ _, ?_, ?_, t, g, r, HL5.out.set3 _ _ _, HGl.out, HRR.out.1⟩
                    · exact ((HC5.out.other (by omega) 0 _).other (by omega) 1 _).other (by omega) 2 _
                    · exact ((HG5.out.other (by omega) 0 _).other (by omega) 1 _).other (by omega) 2 _
                  case measure => have := HRR.out.1; simp [intOf]; omega
                · have h9' : ¬ ((r : Int) % 9) < 8 := by omega
                  go_wp2_with fail
                  go_roundw
                  case rel => exact ⟨r + 1, by have := HRR.out.1; omega, by go_num, HB5.out, HC5.out, HG5.out, lt, lg, lr, HL5.out, HLL.out.1, HLL.out.2⟩
                  case measure => have := HRR.out.1; simp [intOf]; omega
            · have hr256 : ¬ (r : Int) < 256 := by omega
              have HX3 : Hid (SM w wr cs gs) := ⟨hB3, hC3, hG3, lt, lg, lr, hL3, hlg, hlr⟩
              clear hB3 hC3 hG3 hL3 hlg hlr h256 hr
              go_wp2_with fail
              go_roundw
              case rel => exact ⟨k + 1, by have := HKK.out.1; omega, by go_num, HX3.out⟩
              case measure => have := HKK.out.1; simp [intOf]; omega
        · have hk8 : ¬ (k : Int) < 8 := by omega
          have HX2 := Lib.hid hX2
          clear hX2
          go_wp2_with fail
          go_roundw
          case rel => exact ⟨n + 1, by have := HNN.out.1; omega, by go_num, cs, gs, HX2.out, HO.out.1, HO.out.2.1, HO.out.2.2.1, HO.out.2.2.2⟩
          case measure => have := HNN.out.1; simp [intOf]; omega
    · have hn12 : ¬ (n : Int) < 12 := by omega
      have HB := Lib.hid hX.1
      clear hX hok hsz hok2 hsz2 hn h12
      go_wp2_with fail
      go_loopw [8] (fun i wr => ∃ r : Nat, 1 ≤ r ∧ r ≤ 8 ∧ i = .int .i64 r ∧ Below w.heap.size w wr) (fun i _ => 8 - (intOf i).toNat)
      case atStart => exact ⟨1, by omega, by omega, rfl, HB.out⟩
      case round =>
        obtain ⟨r, hr1, hr, rfl, hB2⟩ := hrel
        have HB2 := Lib.hid hB2
        clear hB2
        by_cases h8 : r < 8
        · have hr8 : (r : Int) < 8 := by omega
          have HRR := Lib.hid (And.intro h8 (And.intro hr1 hr))
          clear h8 hr1 hr
          go_wp2_with fail
          obtain ⟨wo, rfl⟩ : ∃ wo : World, wo = wr := ⟨_, rfl⟩
          go_loopw [9] (fun i wr => ∃ d : Nat, d ≤ 14 ∧ i = .int .i64 d ∧ Below w.heap.size w wr) (fun i _ => 14 - (intOf i).toNat)
          case atStart => exact ⟨0, by omega, rfl, HB2.out⟩
          case round =>
            obtain ⟨d, hd, rfl, hB3⟩ := hrel
            have HB3 := Lib.hid hB3
            clear hB3
            by_cases h14 : d < 14
            · have hd14 : (d : Int) < 14 := by omega
              have er : IntKind.u8.wrap (r : Int) = (r : Int) := by have := HRR.out.1; simp [IntKind.wrap, IntKind.bits, IntKind.signed]; omega
              have ed : IntKind.u8.wrap ((d : Int) % 9) = ((d % 9 : Nat) : Int) := by simp [IntKind.wrap, IntKind.bits, IntKind.signed]; omega
              have hrr : (r : Int) < 8 := by have := HRR.out.1; omega
              go_wp2_with fail
              rw [show (d : Int) % 9 = ((d % 9 : Nat) : Int) from by omega]
              refine (same_any 1 1 r 1 1 (d % 9) _ (by omega) (by have := HRR.out.1; omega) (by omega) _ (HT.out.on HB3.out)).mono ?_
              rintro e w4 ⟨rfl, hb4⟩
              have HB4 := Lib.hid (Below.step HB3.out hb4)
              clear hb4
              go_wp2_with fail
              go_roundw
              case rel => exact ⟨d + 1, by omega, by go_num, HB4.out⟩
              case measure => simp [intOf]; omega
            · have hd14 : ¬ (d : Int) < 14 := by omega
              go_wp2_with fail
              go_roundw
              case rel => exact ⟨r + 1, by omega, by have := HRR.out.1; omega, by go_num, HB3.out⟩
              case measure => have := HRR.out.1; simp [intOf]; omega
        · have hr8 : ¬ (r : Int) < 8 := by omega
          go_wp2_with fail
          refine (texts_any _ (HT.out.on HB2.out) (HE.out.on HB2.out)).mono ?_
          rintro e w3 ⟨rfl, hb3⟩
          have HB3 := Lib.hid (Below.step HB2.out hb3)
          clear hb3
          go_wp2_with fail
          refine (awake_any _ (HT.out.on HB3.out) (HE.out.on HB3.out)).mono ?_
          rintro e w4 ⟨rfl, hb4⟩
          go_wp2_with fail
          go_ret
          exact ⟨rfl, Below.step HB3.out hb4⟩

end Go.Proofs.YtcfkaginjcgmhaaDoor
