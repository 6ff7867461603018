/- The walk of HandleBack. -/
import Derived.Test.YtcfkaginjcgmhaaDoorSame
namespace Go.Proofs.YtcfkaginjcgmhaaDoor
open Go.RowKit
set_option maxRecDepth 100000
set_option maxHeartbeats 40000000

theorem textB_ne {t g r t' g' r' : Nat} (h : okN t g r) (h' : okN t' g' r') : (textB t g r).toList = (textB t' g' r').toList ↔ t = t' ∧ g = g' ∧ r = r' := by
  rw [ByteArray.toList_eq, ByteArray.toList_eq, textB_list, textB_list]
  exact ⟨textL_inj h h', fun ⟨a, b, c⟩ => by rw [a, b, c]⟩
theorem textB_size {t g r : Nat} (h : okN t g r) : (textB t g r).size ≤ 1000 := by
  rw [← length_list, textB_list]
  unfold textL
  have h1 := dec_length t (by have := h.2.1; omega)
  have h2 := dec_length g (by have := h.2.2.2.1; omega)
  have h3 := lettersL_length r
  simp only [List.length_append, List.length_cons, List.length_nil]
  omega

theorem handleBack_walk (t g : Int) (r : Nat) (t' g' : Int) (r' : Nat) (s : ByteArray) (w : World) (hg : g ≤ 4294967295) (hg' : g' ≤ 4294967295) (hr : r < 256) (hr' : r' < 256) (hw : Tab w ∧ Errs w) :
    Calls Tryd.prog 6 #[hv t g r, hv t' g' r', .string s] w fun e w' => e = .returned (.bool true) ∧ Below w.heap.size w w' := by
  have HT := Lib.hid hw.1
  have HE := Lib.hid hw.2
  have HF0 := Lib.hid ((Fresh.new w _ #[.int .i64 t, .int .u32 g, .int .u8 r] 25 rfl).alloc (.cells #[.int .i64 t', .int .u32 g', .int .u8 r'] 25))
  have HG0 := Lib.hid (Fresh.new (w.alloc (.cells #[.int .i64 t, .int .u32 g, .int .u8 r] 25)) (w.heap.size + 1) #[.int .i64 t', .int .u32 g', .int .u8 r'] 25 (by simp))
  have HB0 := Lib.hid (((Below.refl w.heap.size w).alloc (Nat.le_refl _) (.cells #[.int .i64 t, .int .u32 g, .int .u8 r] 25)).alloc (by simp) (.cells #[.int .i64 t', .int .u32 g', .int .u8 r'] 25))
  -- what Show makes of both
  obtain ⟨x, hx⟩ : ∃ x, rightZ t g r = x := ⟨_, rfl⟩
  obtain ⟨y, hy⟩ : ∃ y, rightZ t' g' r' = y := ⟨_, rfl⟩
  have key0 : ∀ (t g : Int) (r : Nat), rightZ t g r = false → ∀ w, Tab w → Calls Tryd.prog 13 #[hv t g r] w fun e w' => e = .returned (.tuple #[.string ⟨#[]⟩, .int .i64 4]) ∧ Below w.heap.size w w' := fun t g r h w _ => show_no t g r h w
  clear hr hr' hw
  cases x
  · obtain ⟨U, E, hU⟩ : ∃ (U : ByteArray) (E : Int), ∀ w, Tab w → Calls Tryd.prog 13 #[hv t' g' r'] w fun e w' => e = .returned (.tuple #[.string U, .int .i64 E]) ∧ Below w.heap.size w w' := by
      cases y
      · exact ⟨_, _, key0 _ _ _ hy⟩
      · obtain ⟨T, G, rfl, rfl, ok⟩ := nat_of hg' hy
        exact ⟨_, _, fun w ht => show_yes T G r' ok w ht⟩
    have HS := Lib.hid (key0 _ _ _ hx)
    have HU := Lib.hid hU
    have HX := Lib.hid hx
    clear hg hg' hx hy hU key0
    go_enter Tryd.func6, Tryd.ntmps6
    go_wp2_with fail
    refine (awake_any _ (HT.out.on HB0.out) (HE.out.on HB0.out)).mono ?_
    rintro e w1 ⟨rfl, hb1⟩
    have HB1 := Lib.hid (Below.step HB0.out hb1)
    have HF1 := Lib.hid (HF0.out.below hb1)
    have HG1 := Lib.hid (HG0.out.below hb1)
    clear hb1 
    have a0 := HF1.out.cell 0
    have a1 := HF1.out.cell 1
    have a2 := HF1.out.cell 2
    simp only [List.getElem?_toArray, List.getElem?_cons_zero, List.getElem?_cons_succ] at a0 a1 a2
    have b0 := HG1.out.cell 0
    have b1 := HG1.out.cell 1
    have b2 := HG1.out.cell 2
    simp only [List.getElem?_toArray, List.getElem?_cons_zero, List.getElem?_cons_succ] at b0 b1 b2
    go_wp2_with fail
    refine (HS.out _ (HT.out.on HB1.out)).mono ?_
    rintro e w2 ⟨rfl, hb2⟩
    have HB2 := Lib.hid (Below.step HB1.out hb2)
    have HF2 := Lib.hid (HF1.out.below hb2)
    have HG2 := Lib.hid (HG1.out.below hb2)
    clear hb2 a0 a1 a2 b0 b1 b2
    have b0 := HG2.out.cell 0
    have b1 := HG2.out.cell 1
    have b2 := HG2.out.cell 2
    simp only [List.getElem?_toArray, List.getElem?_cons_zero, List.getElem?_cons_succ] at b0 b1 b2
    go_wp2_with fail
    refine (HU.out _ (HT.out.on HB2.out)).mono ?_
    rintro e w3 ⟨rfl, hb3⟩
    have HB3 := Lib.hid (Below.step HB2.out hb3)
    have HF3 := Lib.hid (HF2.out.below hb3)
    have HG3 := Lib.hid (HG2.out.below hb3)
    clear hb3 b0 b1 b2
    have a0 := HF3.out.cell 0
    have a1 := HF3.out.cell 1
    have a2 := HF3.out.cell 2
    simp only [List.getElem?_toArray, List.getElem?_cons_zero, List.getElem?_cons_succ] at a0 a1 a2
    have b0 := HG3.out.cell 0
    have b1 := HG3.out.cell 1
    have b2 := HG3.out.cell 2
    simp only [List.getElem?_toArray, List.getElem?_cons_zero, List.getElem?_cons_succ] at b0 b1 b2
    go_wp2_with fail
    refine (hright_any _ _ _ _).mono ?_
    rw [HX.out]
    rintro e w4 ⟨rfl, hb4⟩
    have HB4 := Lib.hid (Below.step HB3.out hb4)
    have HF4 := Lib.hid (HF3.out.below hb4)
    have HG4 := Lib.hid (HG3.out.below hb4)
    clear hb4 a0 a1 a2 b0 b1 b2
    rcases Nat.lt_or_ge 300 s.size with hs | hs
    · go_wp2_with fail
      go_ret
      exact ⟨rfl, HB4.out⟩
    · have hs' : ¬ 300 < s.size := by omega
      have HSZ := Lib.hid (show s.size ≤ 1000 from by omega)
      clear hs
      obtain ⟨o, ho⟩ : ∃ o, readZ s.data.toList = o := ⟨_, rfl⟩
      have HO := Lib.hid ho
      clear ho
      rcases o with _ | ⟨tt, gg, rr⟩
      · have hrn : readV none = .tuple #[hv 0 0 0, .int .i64 7] := rfl
        go_wp2_with fail
        refine (read_any s _ HSZ.out (HT.out.on HB4.out) (HE.out.on HB4.out)).mono ?_
        rw [HO.out, hrn]
        rintro e w8 ⟨rfl, hb8⟩
        have HB8 := Lib.hid (Below.step HB4.out hb8)
        clear hb8
        go_wp2_with fail
        go_ret
        exact ⟨rfl, Below.new HB8.out _⟩
      · have hrn : readV (some (tt, gg, rr)) = .tuple #[hv tt gg rr, .int .i64 0] := rfl
        obtain ⟨ok, he⟩ := readZ_of HO.out
        have HR8 : Hid (rightZ tt gg rr = true) := by show _ = _; rw [rightZ_of _ _ _ ok.2.2.2.1]; simpa using ok
        have HTX : Hid (textB tt gg rr = s) := bytes_ext (by rw [textB_list, he])
        have HOK := Lib.hid ok
        clear ok he
        go_wp2_with fail
        refine (read_any s _ HSZ.out (HT.out.on HB4.out) (HE.out.on HB4.out)).mono ?_
        rw [HO.out, hrn]
        rintro e w8 ⟨rfl, hb8⟩
        have HB8 := Lib.hid (Below.new (Below.step HB4.out hb8) (.cells #[.int .i64 tt, .int .u32 gg, .int .u8 rr] 25))
        have HF8 := Lib.hid (Fresh.new w8 _ #[.int .i64 tt, .int .u32 gg, .int .u8 rr] 25 rfl)
        clear hb8 hrn
        go_wp2_with fail
        refine (show_yes tt gg rr HOK.out _ (HT.out.on HB8.out)).mono ?_
        rw [HTX.out]
        rintro e w9 ⟨rfl, hb9⟩
        have HB9 := Lib.hid (Below.step HB8.out hb9)
        have HF9 := Lib.hid (HF8.out.below hb9)
        clear hb9
        have x0 := HF9.out.cell 0
        have x1 := HF9.out.cell 1
        have x2 := HF9.out.cell 2
        simp only [List.getElem?_toArray, List.getElem?_cons_zero, List.getElem?_cons_succ] at x0 x1 x2
        go_wp2_with fail
        refine (hright_any tt gg rr _).mono ?_
        rw [HR8.out]
        rintro e w10 ⟨rfl, hb10⟩
        have HB10 := Lib.hid (Below.step HB9.out hb10)
        clear hb10 x0 x1 x2
        go_wp2_with fail
        go_ret
        exact ⟨rfl, HB10.out⟩
  · obtain ⟨T, G, rfl, rfl, ok⟩ := nat_of hg hx
    have HS : Hid (∀ w, Tab w → Calls Tryd.prog 13 #[hv T G r] w fun e w' => e = .returned (.tuple #[.string (textB T G r), .int .i64 0]) ∧ Below w.heap.size w w') := fun w ht => show_yes T G r ok w ht
    have HX := Lib.hid hx
    have HOK := Lib.hid ok
    cases y
    · have HU := Lib.hid (key0 _ _ _ hy)
      clear hg hg' hx hy ok key0
      go_enter Tryd.func6, Tryd.ntmps6
      go_wp2_with fail
      refine (awake_any _ (HT.out.on HB0.out) (HE.out.on HB0.out)).mono ?_
      rintro e w1 ⟨rfl, hb1⟩
      have HB1 := Lib.hid (Below.step HB0.out hb1)
      have HF1 := Lib.hid (HF0.out.below hb1)
      have HG1 := Lib.hid (HG0.out.below hb1)
      clear hb1 
      have a0 := HF1.out.cell 0
      have a1 := HF1.out.cell 1
      have a2 := HF1.out.cell 2
      simp only [List.getElem?_toArray, List.getElem?_cons_zero, List.getElem?_cons_succ] at a0 a1 a2
      have b0 := HG1.out.cell 0
      have b1 := HG1.out.cell 1
      have b2 := HG1.out.cell 2
      simp only [List.getElem?_toArray, List.getElem?_cons_zero, List.getElem?_cons_succ] at b0 b1 b2
      go_wp2_with fail
      refine (HS.out _ (HT.out.on HB1.out)).mono ?_
      rintro e w2 ⟨rfl, hb2⟩
      have HB2 := Lib.hid (Below.step HB1.out hb2)
      have HF2 := Lib.hid (HF1.out.below hb2)
      have HG2 := Lib.hid (HG1.out.below hb2)
      clear hb2 a0 a1 a2 b0 b1 b2
      have b0 := HG2.out.cell 0
      have b1 := HG2.out.cell 1
      have b2 := HG2.out.cell 2
      simp only [List.getElem?_toArray, List.getElem?_cons_zero, List.getElem?_cons_succ] at b0 b1 b2
      go_wp2_with fail
      refine (HU.out _ (HT.out.on HB2.out)).mono ?_
      rintro e w3 ⟨rfl, hb3⟩
      have HB3 := Lib.hid (Below.step HB2.out hb3)
      have HF3 := Lib.hid (HF2.out.below hb3)
      have HG3 := Lib.hid (HG2.out.below hb3)
      clear hb3 b0 b1 b2
      have a0 := HF3.out.cell 0
      have a1 := HF3.out.cell 1
      have a2 := HF3.out.cell 2
      simp only [List.getElem?_toArray, List.getElem?_cons_zero, List.getElem?_cons_succ] at a0 a1 a2
      have b0 := HG3.out.cell 0
      have b1 := HG3.out.cell 1
      have b2 := HG3.out.cell 2
      simp only [List.getElem?_toArray, List.getElem?_cons_zero, List.getElem?_cons_succ] at b0 b1 b2
      go_wp2_with fail
      refine (hright_any _ _ _ _).mono ?_
      rw [HX.out]
      rintro e w4 ⟨rfl, hb4⟩
      have HB4 := Lib.hid (Below.step HB3.out hb4)
      have HF4 := Lib.hid (HF3.out.below hb4)
      have HG4 := Lib.hid (HG3.out.below hb4)
      clear hb4 a0 a1 a2 b0 b1 b2
      have hrn : readV (some (T, G, r)) = .tuple #[hv T G r, .int .i64 0] := rfl
      go_wp2_with fail
      refine (read_any _ _ (textB_size HOK.out) (HT.out.on HB4.out) (HE.out.on HB4.out)).mono ?_
      rw [textB_list, readZ_some HOK.out rfl, hrn]
      rintro e w5 ⟨rfl, hb5⟩
      have HB5 := Lib.hid (Below.new (Below.step HB4.out hb5) (.cells #[.int .i64 T, .int .u32 G, .int .u8 r] 25))
      have HF5 := Lib.hid ((HF4.out.below hb5).alloc (.cells #[.int .i64 T, .int .u32 G, .int .u8 r] 25))
      have HG5 := Lib.hid ((HG4.out.below hb5).alloc (.cells #[.int .i64 T, .int .u32 G, .int .u8 r] 25))
      have la := (HF4.out.below hb5).lt
      have lb := (HG4.out.below hb5).lt
      clear hb5 hrn
      have a0 := HF5.out.cell 0
      have a1 := HF5.out.cell 1
      have a2 := HF5.out.cell 2
      simp only [List.getElem?_toArray, List.getElem?_cons_zero, List.getElem?_cons_succ] at a0 a1 a2
      have b0 := HG5.out.cell 0
      have b1 := HG5.out.cell 1
      have b2 := HG5.out.cell 2
      simp only [List.getElem?_toArray, List.getElem?_cons_zero, List.getElem?_cons_succ] at b0 b1 b2
      rcases Nat.lt_or_ge 300 s.size with hs | hs
      · go_wp2_with fail
        go_ret
        exact ⟨rfl, HB5.out⟩
      · have hs' : ¬ 300 < s.size := by omega
        have HSZ := Lib.hid (show s.size ≤ 1000 from by omega)
        clear hs
        obtain ⟨o, ho⟩ : ∃ o, readZ s.data.toList = o := ⟨_, rfl⟩
        have HO := Lib.hid ho
        clear ho
        rcases o with _ | ⟨tt, gg, rr⟩
        · have hrn : readV none = .tuple #[hv 0 0 0, .int .i64 7] := rfl
          go_wp2_with fail
          refine (read_any s _ HSZ.out (HT.out.on HB5.out) (HE.out.on HB5.out)).mono ?_
          rw [HO.out, hrn]
          rintro e w8 ⟨rfl, hb8⟩
          have HB8 := Lib.hid (Below.step HB5.out hb8)
          clear hb8
          go_wp2_with fail
          go_ret
          exact ⟨rfl, Below.new HB8.out _⟩
        · have hrn : readV (some (tt, gg, rr)) = .tuple #[hv tt gg rr, .int .i64 0] := rfl
          obtain ⟨ok, he⟩ := readZ_of HO.out
          have HR8 : Hid (rightZ tt gg rr = true) := by show _ = _; rw [rightZ_of _ _ _ ok.2.2.2.1]; simpa using ok
          have HTX : Hid (textB tt gg rr = s) := bytes_ext (by rw [textB_list, he])
          have HOK := Lib.hid ok
          clear ok he
          go_wp2_with fail
          refine (read_any s _ HSZ.out (HT.out.on HB5.out) (HE.out.on HB5.out)).mono ?_
          rw [HO.out, hrn]
          rintro e w8 ⟨rfl, hb8⟩
          have HB8 := Lib.hid (Below.new (Below.step HB5.out hb8) (.cells #[.int .i64 tt, .int .u32 gg, .int .u8 rr] 25))
          have HF8 := Lib.hid (Fresh.new w8 _ #[.int .i64 tt, .int .u32 gg, .int .u8 rr] 25 rfl)
          clear hb8 hrn
          go_wp2_with fail
          refine (show_yes tt gg rr HOK.out _ (HT.out.on HB8.out)).mono ?_
          rw [HTX.out]
          rintro e w9 ⟨rfl, hb9⟩
          have HB9 := Lib.hid (Below.step HB8.out hb9)
          have HF9 := Lib.hid (HF8.out.below hb9)
          clear hb9
          have x0 := HF9.out.cell 0
          have x1 := HF9.out.cell 1
          have x2 := HF9.out.cell 2
          simp only [List.getElem?_toArray, List.getElem?_cons_zero, List.getElem?_cons_succ] at x0 x1 x2
          go_wp2_with fail
          refine (hright_any tt gg rr _).mono ?_
          rw [HR8.out]
          rintro e w10 ⟨rfl, hb10⟩
          have HB10 := Lib.hid (Below.step HB9.out hb10)
          clear hb10 x0 x1 x2
          go_wp2_with fail
          go_ret
          exact ⟨rfl, HB10.out⟩
    · obtain ⟨T', G', rfl, rfl, ok'⟩ := nat_of hg' hy
      have HU : Hid (∀ w, Tab w → Calls Tryd.prog 13 #[hv T' G' r'] w fun e w' => e = .returned (.tuple #[.string (textB T' G' r'), .int .i64 0]) ∧ Below w.heap.size w w') := fun w ht => show_yes T' G' r' ok' w ht
      have HEQ := Lib.hid (textB_ne ok ok')
      clear hg hg' hx hy ok ok' key0
      by_cases he : T = T' ∧ G = G' ∧ r = r'
      · obtain ⟨rfl, rfl, rfl⟩ := he
        go_enter Tryd.func6, Tryd.ntmps6
        go_wp2_with fail
        refine (awake_any _ (HT.out.on HB0.out) (HE.out.on HB0.out)).mono ?_
        rintro e w1 ⟨rfl, hb1⟩
        have HB1 := Lib.hid (Below.step HB0.out hb1)
        have HF1 := Lib.hid (HF0.out.below hb1)
        have HG1 := Lib.hid (HG0.out.below hb1)
        clear hb1 
        have a0 := HF1.out.cell 0
        have a1 := HF1.out.cell 1
        have a2 := HF1.out.cell 2
        simp only [List.getElem?_toArray, List.getElem?_cons_zero, List.getElem?_cons_succ] at a0 a1 a2
        have b0 := HG1.out.cell 0
        have b1 := HG1.out.cell 1
        have b2 := HG1.out.cell 2
        simp only [List.getElem?_toArray, List.getElem?_cons_zero, List.getElem?_cons_succ] at b0 b1 b2
        go_wp2_with fail
        refine (HS.out _ (HT.out.on HB1.out)).mono ?_
        rintro e w2 ⟨rfl, hb2⟩
        have HB2 := Lib.hid (Below.step HB1.out hb2)
        have HF2 := Lib.hid (HF1.out.below hb2)
        have HG2 := Lib.hid (HG1.out.below hb2)
        clear hb2 a0 a1 a2 b0 b1 b2
        have b0 := HG2.out.cell 0
        have b1 := HG2.out.cell 1
        have b2 := HG2.out.cell 2
        simp only [List.getElem?_toArray, List.getElem?_cons_zero, List.getElem?_cons_succ] at b0 b1 b2
        go_wp2_with fail
        refine (HU.out _ (HT.out.on HB2.out)).mono ?_
        rintro e w3 ⟨rfl, hb3⟩
        have HB3 := Lib.hid (Below.step HB2.out hb3)
        have HF3 := Lib.hid (HF2.out.below hb3)
        have HG3 := Lib.hid (HG2.out.below hb3)
        clear hb3 b0 b1 b2
        have a0 := HF3.out.cell 0
        have a1 := HF3.out.cell 1
        have a2 := HF3.out.cell 2
        simp only [List.getElem?_toArray, List.getElem?_cons_zero, List.getElem?_cons_succ] at a0 a1 a2
        have b0 := HG3.out.cell 0
        have b1 := HG3.out.cell 1
        have b2 := HG3.out.cell 2
        simp only [List.getElem?_toArray, List.getElem?_cons_zero, List.getElem?_cons_succ] at b0 b1 b2
        go_wp2_with fail
        refine (hright_any _ _ _ _).mono ?_
        rw [HX.out]
        rintro e w4 ⟨rfl, hb4⟩
        have HB4 := Lib.hid (Below.step HB3.out hb4)
        have HF4 := Lib.hid (HF3.out.below hb4)
        have HG4 := Lib.hid (HG3.out.below hb4)
        clear hb4 a0 a1 a2 b0 b1 b2
        have hrn : readV (some (T, G, r)) = .tuple #[hv T G r, .int .i64 0] := rfl
        go_wp2_with fail
        refine (read_any _ _ (textB_size HOK.out) (HT.out.on HB4.out) (HE.out.on HB4.out)).mono ?_
        rw [textB_list, readZ_some HOK.out rfl, hrn]
        rintro e w5 ⟨rfl, hb5⟩
        have HB5 := Lib.hid (Below.new (Below.step HB4.out hb5) (.cells #[.int .i64 T, .int .u32 G, .int .u8 r] 25))
        have HF5 := Lib.hid ((HF4.out.below hb5).alloc (.cells #[.int .i64 T, .int .u32 G, .int .u8 r] 25))
        have HG5 := Lib.hid ((HG4.out.below hb5).alloc (.cells #[.int .i64 T, .int .u32 G, .int .u8 r] 25))
        have la := (HF4.out.below hb5).lt
        have lb := (HG4.out.below hb5).lt
        clear hb5 hrn
        have a0 := HF5.out.cell 0
        have a1 := HF5.out.cell 1
        have a2 := HF5.out.cell 2
        simp only [List.getElem?_toArray, List.getElem?_cons_zero, List.getElem?_cons_succ] at a0 a1 a2
        have b0 := HG5.out.cell 0
        have b1 := HG5.out.cell 1
        have b2 := HG5.out.cell 2
        simp only [List.getElem?_toArray, List.getElem?_cons_zero, List.getElem?_cons_succ] at b0 b1 b2
        rcases Nat.lt_or_ge 300 s.size with hs | hs
        · go_wp2_with fail
          go_ret
          exact ⟨rfl, HB5.out⟩
        · have hs' : ¬ 300 < s.size := by omega
          have HSZ := Lib.hid (show s.size ≤ 1000 from by omega)
          clear hs
          obtain ⟨o, ho⟩ : ∃ o, readZ s.data.toList = o := ⟨_, rfl⟩
          have HO := Lib.hid ho
          clear ho
          rcases o with _ | ⟨tt, gg, rr⟩
          · have hrn : readV none = .tuple #[hv 0 0 0, .int .i64 7] := rfl
            go_wp2_with fail
            refine (read_any s _ HSZ.out (HT.out.on HB5.out) (HE.out.on HB5.out)).mono ?_
            rw [HO.out, hrn]
            rintro e w8 ⟨rfl, hb8⟩
            have HB8 := Lib.hid (Below.step HB5.out hb8)
            clear hb8
            go_wp2_with fail
            go_ret
            exact ⟨rfl, Below.new HB8.out _⟩
          · have hrn : readV (some (tt, gg, rr)) = .tuple #[hv tt gg rr, .int .i64 0] := rfl
            obtain ⟨ok, he⟩ := readZ_of HO.out
            have HR8 : Hid (rightZ tt gg rr = true) := by show _ = _; rw [rightZ_of _ _ _ ok.2.2.2.1]; simpa using ok
            have HTX : Hid (textB tt gg rr = s) := bytes_ext (by rw [textB_list, he])
            have HOK := Lib.hid ok
            clear ok he
            go_wp2_with fail
            refine (read_any s _ HSZ.out (HT.out.on HB5.out) (HE.out.on HB5.out)).mono ?_
            rw [HO.out, hrn]
            rintro e w8 ⟨rfl, hb8⟩
            have HB8 := Lib.hid (Below.new (Below.step HB5.out hb8) (.cells #[.int .i64 tt, .int .u32 gg, .int .u8 rr] 25))
            have HF8 := Lib.hid (Fresh.new w8 _ #[.int .i64 tt, .int .u32 gg, .int .u8 rr] 25 rfl)
            clear hb8 hrn
            go_wp2_with fail
            refine (show_yes tt gg rr HOK.out _ (HT.out.on HB8.out)).mono ?_
            rw [HTX.out]
            rintro e w9 ⟨rfl, hb9⟩
            have HB9 := Lib.hid (Below.step HB8.out hb9)
            have HF9 := Lib.hid (HF8.out.below hb9)
            clear hb9
            have x0 := HF9.out.cell 0
            have x1 := HF9.out.cell 1
            have x2 := HF9.out.cell 2
            simp only [List.getElem?_toArray, List.getElem?_cons_zero, List.getElem?_cons_succ] at x0 x1 x2
            go_wp2_with fail
            refine (hright_any tt gg rr _).mono ?_
            rw [HR8.out]
            rintro e w10 ⟨rfl, hb10⟩
            have HB10 := Lib.hid (Below.step HB9.out hb10)
            clear hb10 x0 x1 x2
            go_wp2_with fail
            go_ret
            exact ⟨rfl, HB10.out⟩
      · have hq : ((textB T G r).toList == (textB T' G' r').toList) = false := by
          rw [beq_eq_false_iff_ne]
          intro e
          exact he (HEQ.out.1 e)
        have h3 : ¬ ((T : Int) = T') ∨ (T = T' ∧ ¬ ((G : Int) = G')) ∨ (T = T' ∧ G = G' ∧ ¬ ((r : Int) = r')) := by
          by_cases e1 : T = T'
          · by_cases e2 : G = G'
            · exact .inr (.inr ⟨e1, e2, fun e => he ⟨e1, e2, by omega⟩⟩)
            · exact .inr (.inl ⟨e1, by omega⟩)
          · exact .inl (by omega)
        clear he
        rcases h3 with h3 | ⟨rfl, h3⟩ | ⟨rfl, rfl, h3⟩
        all_goals
          have h4 := beq_eq_false_iff_ne.2 h3
          go_enter Tryd.func6, Tryd.ntmps6
          go_wp2_with fail
          refine (awake_any _ (HT.out.on HB0.out) (HE.out.on HB0.out)).mono ?_
          rintro e w1 ⟨rfl, hb1⟩
          have HB1 := Lib.hid (Below.step HB0.out hb1)
          have HF1 := Lib.hid (HF0.out.below hb1)
          have HG1 := Lib.hid (HG0.out.below hb1)
          clear hb1 
          have a0 := HF1.out.cell 0
          have a1 := HF1.out.cell 1
          have a2 := HF1.out.cell 2
          simp only [List.getElem?_toArray, List.getElem?_cons_zero, List.getElem?_cons_succ] at a0 a1 a2
          have b0 := HG1.out.cell 0
          have b1 := HG1.out.cell 1
          have b2 := HG1.out.cell 2
          simp only [List.getElem?_toArray, List.getElem?_cons_zero, List.getElem?_cons_succ] at b0 b1 b2
          go_wp2_with fail
          refine (HS.out _ (HT.out.on HB1.out)).mono ?_
          rintro e w2 ⟨rfl, hb2⟩
          have HB2 := Lib.hid (Below.step HB1.out hb2)
          have HF2 := Lib.hid (HF1.out.below hb2)
          have HG2 := Lib.hid (HG1.out.below hb2)
          clear hb2 a0 a1 a2 b0 b1 b2
          have b0 := HG2.out.cell 0
          have b1 := HG2.out.cell 1
          have b2 := HG2.out.cell 2
          simp only [List.getElem?_toArray, List.getElem?_cons_zero, List.getElem?_cons_succ] at b0 b1 b2
          go_wp2_with fail
          refine (HU.out _ (HT.out.on HB2.out)).mono ?_
          rintro e w3 ⟨rfl, hb3⟩
          have HB3 := Lib.hid (Below.step HB2.out hb3)
          have HF3 := Lib.hid (HF2.out.below hb3)
          have HG3 := Lib.hid (HG2.out.below hb3)
          clear hb3 b0 b1 b2
          have a0 := HF3.out.cell 0
          have a1 := HF3.out.cell 1
          have a2 := HF3.out.cell 2
          simp only [List.getElem?_toArray, List.getElem?_cons_zero, List.getElem?_cons_succ] at a0 a1 a2
          have b0 := HG3.out.cell 0
          have b1 := HG3.out.cell 1
          have b2 := HG3.out.cell 2
          simp only [List.getElem?_toArray, List.getElem?_cons_zero, List.getElem?_cons_succ] at b0 b1 b2
          go_wp2_with fail
          refine (hright_any _ _ _ _).mono ?_
          rw [HX.out]
          rintro e w4 ⟨rfl, hb4⟩
          have HB4 := Lib.hid (Below.step HB3.out hb4)
          have HF4 := Lib.hid (HF3.out.below hb4)
          have HG4 := Lib.hid (HG3.out.below hb4)
          clear hb4 a0 a1 a2 b0 b1 b2
          have hrn : readV (some (T, G, r)) = .tuple #[hv T G r, .int .i64 0] := rfl
          go_wp2_with fail
          refine (read_any _ _ (textB_size HOK.out) (HT.out.on HB4.out) (HE.out.on HB4.out)).mono ?_
          rw [textB_list, readZ_some HOK.out rfl, hrn]
          rintro e w5 ⟨rfl, hb5⟩
          have HB5 := Lib.hid (Below.new (Below.step HB4.out hb5) (.cells #[.int .i64 T, .int .u32 G, .int .u8 r] 25))
          have HF5 := Lib.hid ((HF4.out.below hb5).alloc (.cells #[.int .i64 T, .int .u32 G, .int .u8 r] 25))
          have HG5 := Lib.hid ((HG4.out.below hb5).alloc (.cells #[.int .i64 T, .int .u32 G, .int .u8 r] 25))
          have la := (HF4.out.below hb5).lt
          have lb := (HG4.out.below hb5).lt
          clear hb5 hrn
          have a0 := HF5.out.cell 0
          have a1 := HF5.out.cell 1
          have a2 := HF5.out.cell 2
          simp only [List.getElem?_toArray, List.getElem?_cons_zero, List.getElem?_cons_succ] at a0 a1 a2
          have b0 := HG5.out.cell 0
          have b1 := HG5.out.cell 1
          have b2 := HG5.out.cell 2
          simp only [List.getElem?_toArray, List.getElem?_cons_zero, List.getElem?_cons_succ] at b0 b1 b2
          rcases Nat.lt_or_ge 300 s.size with hs | hs
          · go_wp2_with fail
            go_ret
            exact ⟨rfl, HB5.out⟩
          · have hs' : ¬ 300 < s.size := by omega
            have HSZ := Lib.hid (show s.size ≤ 1000 from by omega)
            clear hs
            obtain ⟨o, ho⟩ : ∃ o, readZ s.data.toList = o := ⟨_, rfl⟩
            have HO := Lib.hid ho
            clear ho
            rcases o with _ | ⟨tt, gg, rr⟩
            · have hrn : readV none = .tuple #[hv 0 0 0, .int .i64 7] := rfl
              go_wp2_with fail
              refine (read_any s _ HSZ.out (HT.out.on HB5.out) (HE.out.on HB5.out)).mono ?_
              rw [HO.out, hrn]
              rintro e w8 ⟨rfl, hb8⟩
              have HB8 := Lib.hid (Below.step HB5.out hb8)
              clear hb8
              go_wp2_with fail
              go_ret
              exact ⟨rfl, Below.new HB8.out _⟩
            · have hrn : readV (some (tt, gg, rr)) = .tuple #[hv tt gg rr, .int .i64 0] := rfl
              obtain ⟨ok, he⟩ := readZ_of HO.out
              have HR8 : Hid (rightZ tt gg rr = true) := by show _ = _; rw [rightZ_of _ _ _ ok.2.2.2.1]; simpa using ok
              have HTX : Hid (textB tt gg rr = s) := bytes_ext (by rw [textB_list, he])
              have HOK := Lib.hid ok
              clear ok he
              go_wp2_with fail
              refine (read_any s _ HSZ.out (HT.out.on HB5.out) (HE.out.on HB5.out)).mono ?_
              rw [HO.out, hrn]
              rintro e w8 ⟨rfl, hb8⟩
              have HB8 := Lib.hid (Below.new (Below.step HB5.out hb8) (.cells #[.int .i64 tt, .int .u32 gg, .int .u8 rr] 25))
              have HF8 := Lib.hid (Fresh.new w8 _ #[.int .i64 tt, .int .u32 gg, .int .u8 rr] 25 rfl)
              clear hb8 hrn
              go_wp2_with fail
              refine (show_yes tt gg rr HOK.out _ (HT.out.on HB8.out)).mono ?_
              rw [HTX.out]
              rintro e w9 ⟨rfl, hb9⟩
              have HB9 := Lib.hid (Below.step HB8.out hb9)
              have HF9 := Lib.hid (HF8.out.below hb9)
              clear hb9
              have x0 := HF9.out.cell 0
              have x1 := HF9.out.cell 1
              have x2 := HF9.out.cell 2
              simp only [List.getElem?_toArray, List.getElem?_cons_zero, List.getElem?_cons_succ] at x0 x1 x2
              go_wp2_with fail
              refine (hright_any tt gg rr _).mono ?_
              rw [HR8.out]
              rintro e w10 ⟨rfl, hb10⟩
              have HB10 := Lib.hid (Below.step HB9.out hb10)
              clear hb10 x0 x1 x2
              go_wp2_with fail
              go_ret
              exact ⟨rfl, HB10.out⟩

end Go.Proofs.YtcfkaginjcgmhaaDoor
