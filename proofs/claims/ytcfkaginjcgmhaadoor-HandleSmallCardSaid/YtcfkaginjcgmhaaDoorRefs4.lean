/- The walk of the reference's Read. -/
import Derived.Test.YtcfkaginjcgmhaaDoorSame
namespace Go.Proofs.YtcfkaginjcgmhaaDoor
open Go.RowKit
set_option maxRecDepth 100000
set_option maxHeartbeats 8000000

theorem bits_or (r : Nat) (h : r < 8) : bits .or .i64 (r : Int) 1 = (orN r 1 : Nat) ∧ bits .or .i64 (r : Int) 2 = (orN r 2 : Nat) ∧ bits .or .i64 (r : Int) 4 = (orN r 4 : Nat) := by
  have : ∀ r : Fin 8, bits .or .i64 ((r : Nat) : Int) 1 = (orN r 1 : Nat) ∧ bits .or .i64 ((r : Nat) : Int) 2 = (orN r 2 : Nat) ∧ bits .or .i64 ((r : Nat) : Int) 4 = (orN r 4 : Nat) := by decide
  exact this ⟨r, h⟩
theorem loose_take {s : ByteArray} {k : Nat} (h : k < s.size) : (looseL (s.data.toList.take k)).step s[k] = looseL (s.data.toList.take (k + 1)) := by
  have htk : s.data.toList.take (k + 1) = s.data.toList.take k ++ [s[k]] := by
    rw [List.take_succ_eq_append_getElem (by simpa using h)]; rfl
  unfold looseL
  rw [htk, List.foldl_append]
  rfl
theorem loose_fit (l : List UInt8) : (looseL l).Fit := by
  unfold looseL
  have : ∀ (l : List UInt8) (s : Loose), s.Fit → (l.foldl Loose.step s).Fit := by
    intro l
    induction l with
    | nil => intro s h; exact h
    | cons x l ih => intro s h; exact ih _ (h.step x)
  exact this l _ ⟨by decide, by decide, by decide, by decide, by decide⟩

theorem Fresh.other {W : World} {p q : Nat} {cs : Array Value} {t : TypeId} (h : Fresh W p cs t) (hne : q ≠ p) (i : Nat) (v : Value) : Fresh (W.setCell ⟨q, i, none⟩ v) p cs t := by
  unfold Fresh at *
  simp only [World.setCell, Array.getElem?_modify, if_neg hne]
  exact h

theorem rread_any (s : ByteArray) (w : World) (hs : s.size ≤ 1000) :
    Calls Tryd.prog 24 #[.string s] w fun e w' => e = .returned (readV (readZ s.data.toList)) ∧ Below w.heap.size w w' := by
  have HB0 := Lib.hid (((Below.refl w.heap.size w).alloc (Nat.le_refl _) (.cells #[.int .i64 0, .int .u32 0, .int .u8 0] 25)).alloc (by simp) (.cells #[.int .i64 0, .int .i64 0, .int .i64 0] 3))
  have HF0 := Lib.hid ((Fresh.new w _ #[.int .i64 0, .int .u32 0, .int .u8 0] 25 rfl).alloc (.cells #[.int .i64 0, .int .i64 0, .int .i64 0] 3))
  have HG0 := Lib.hid (Fresh.new (w.alloc (.cells #[.int .i64 0, .int .u32 0, .int .u8 0] 25)) (w.heap.size + 1) #[.int .i64 0, .int .i64 0, .int .i64 0] 3 (by simp))
  go_enter Tryd.func24, Tryd.ntmps24
  go_wp2_with fail
  go_loopw [5, 6, 7] (fun f r i wr => ∃ (k : Nat) (L : Loose), k ≤ s.size ∧ f = .int .i64 L.f ∧ r = .int .i64 L.r ∧ i = .int .i64 k ∧ Hid (L = looseL (s.data.toList.take k)) ∧ Below w.heap.size w wr ∧ Fresh wr w.heap.size #[.int .i64 0, .int .u32 0, .int .u8 0] 25 ∧ Fresh wr (w.heap.size + 1) #[.int .i64 L.a, .int .i64 L.b, .int .i64 L.c] 3) (fun _ _ i _ => s.size - (intOf i).toNat)
  case atStart => exact ⟨0, ⟨0, 0, 0, 0, 0⟩, Nat.zero_le _, rfl, rfl, rfl, rfl, HB0.out, HF0.out, HG0.out⟩
  case round =>
    obtain ⟨k, L, hk, rfl, rfl, rfl, HL, hB, hF, hG⟩ := hrel
    rcases Nat.lt_or_ge k s.size with h1 | h1
    · have HL1 : Hid (L.step s[k] = looseL (s.data.toList.take (k + 1))) := by show _ = _; rw [HL.out, loose_take h1]
      have hfit : L.Fit := by rw [HL.out]; exact loose_fit _
      obtain ⟨a, b, c, f, r⟩ := L
      obtain ⟨f1, f2, f3, f4, f5⟩ := hfit
      dsimp only at f1 f2 f3 f4 f5
      obtain ⟨x, hx⟩ : ∃ x : Nat, s[k].toNat = x := ⟨_, rfl⟩
      have hx8 : x < 256 := by rw [← hx]; exact UInt8.toNat_lt _
      have HX := Lib.hid hx
      have HS : Hid (Loose.step ⟨a, b, c, f, r⟩ s[k] = if x = 46 then ⟨a, b, c, if f < 2 then f + 1 else 2, r⟩ else if 48 ≤ x ∧ x ≤ 57 then Loose.num ⟨a, b, c, f, r⟩ (x - 48) else if x = 114 then ⟨a, b, c, f, orN r 1⟩ else if x = 119 then ⟨a, b, c, f, orN r 2⟩ else if x = 115 then ⟨a, b, c, f, orN r 4⟩ else ⟨a, b, c, f, r⟩) := by
        show _ = _
        unfold Loose.step
        rw [hx]
      have HBO := Lib.hid (bits_or r f5)
      rcases (show x = 46 ∨ x = 114 ∨ x = 119 ∨ x = 115 ∨ (48 ≤ x ∧ x ≤ 57) ∨ (x ≠ 46 ∧ x ≠ 114 ∧ x ≠ 119 ∧ x ≠ 115 ∧ ¬ (48 ≤ x ∧ x ≤ 57)) from by omega) with h | h | h | h | h | h
      · subst h
        rcases (show f = 0 ∨ f = 1 ∨ f = 2 from by omega) with rfl | rfl | rfl
        all_goals
          go_wp2_with fail
          go_roundw
          case rel => first | exact ⟨k + 1, ⟨a, b, c, 1, r⟩, by omega, rfl, rfl, by go_num, by show _ = _; rw [← HL1.out, HS.out]; rfl, hB, hF, hG⟩ | exact ⟨k + 1, ⟨a, b, c, 2, r⟩, by omega, rfl, rfl, by go_num, by show _ = _; rw [← HL1.out, HS.out]; rfl, hB, hF, hG⟩
          case measure => simp [intOf]; omega
      · subst h
        go_wp2_with fail
        go_roundw
        case rel => exact ⟨k + 1, ⟨a, b, c, f, orN r 1⟩, by omega, rfl, by rw [HBO.out.1], by go_num, by show _ = _; rw [← HL1.out, HS.out]; rfl, hB, hF, hG⟩
        case measure => simp [intOf]; omega
      · subst h
        go_wp2_with fail
        go_roundw
        case rel => exact ⟨k + 1, ⟨a, b, c, f, orN r 2⟩, by omega, rfl, by rw [HBO.out.2.1], by go_num, by show _ = _; rw [← HL1.out, HS.out]; rfl, hB, hF, hG⟩
        case measure => simp [intOf]; omega
      · subst h
        go_wp2_with fail
        go_roundw
        case rel => exact ⟨k + 1, ⟨a, b, c, f, orN r 4⟩, by omega, rfl, by rw [HBO.out.2.2], by go_num, by show _ = _; rw [← HL1.out, HS.out]; rfl, hB, hF, hG⟩
        case measure => simp [intOf]; omega
      · obtain ⟨h2, h3⟩ := h
        have n0 := hG.cell 0
        have n1 := hG.cell 1
        have n2 := hG.cell 2
        have y0 := hG.thawed 0
        have y1 := hG.thawed 1
        have y2 := hG.thawed 2
        simp only [List.getElem?_toArray, List.getElem?_cons_zero, List.getElem?_cons_succ] at n0 n1 n2
        have u1 : IntKind.u8.wrap ((x : Int) - 48) = ((x - 48 : Nat) : Int) := by simp [IntKind.wrap, IntKind.bits, IntKind.signed]; omega
        obtain ⟨y, hy⟩ : ∃ y, x - 48 = y := ⟨_, rfl⟩
        rw [hy] at u1
        have EA : Hid (((a : Int) * 10 + (y : Int)) % 1099511627776 = (((a * 10 + y) % 1099511627776 : Nat) : Int)) := by show _ = _; omega
        have EB : Hid (((b : Int) * 10 + (y : Int)) % 1099511627776 = (((b * 10 + y) % 1099511627776 : Nat) : Int)) := by show _ = _; omega
        have EC : Hid (((c : Int) * 10 + (y : Int)) % 1099511627776 = (((c * 10 + y) % 1099511627776 : Nat) : Int)) := by show _ = _; omega
        rcases (show f = 0 ∨ f = 1 ∨ f = 2 from by omega) with rfl | rfl | rfl
        all_goals
          go_wp2_with fail
          go_region
          first | rw [EA.out] | rw [EB.out] | rw [EC.out]
          go_wp2_with fail
          go_roundw
          case rel => first | exact ⟨k + 1, ⟨(a * 10 + y) % 1099511627776, b, c, 0, r⟩, by omega, rfl, rfl, by go_num, by show _ = _; rw [← HL1.out, HS.out, if_neg (by omega), if_pos ⟨h2, h3⟩, hy]; rfl, (Below.setCell hB (by show w.heap.size ≤ w.heap.size + 1; omega) _).drew, hF.other (by omega) 0 _, hG.set 0 _⟩ | exact ⟨k + 1, ⟨a, (b * 10 + y) % 1099511627776, c, 1, r⟩, by omega, rfl, rfl, by go_num, by show _ = _; rw [← HL1.out, HS.out, if_neg (by omega), if_pos ⟨h2, h3⟩, hy]; rfl, (Below.setCell hB (by show w.heap.size ≤ w.heap.size + 1; omega) _).drew, hF.other (by omega) 1 _, hG.set 1 _⟩ | exact ⟨k + 1, ⟨a, b, (c * 10 + y) % 1099511627776, 2, r⟩, by omega, rfl, rfl, by go_num, by show _ = _; rw [← HL1.out, HS.out, if_neg (by omega), if_pos ⟨h2, h3⟩, hy]; rfl, (Below.setCell hB (by show w.heap.size ≤ w.heap.size + 1; omega) _).drew, hF.other (by omega) 2 _, hG.set 2 _⟩
          case measure => simp [intOf]; omega
      · obtain ⟨g1, g2, g3, g4, g5⟩ := h
        rcases Nat.lt_or_ge x 48 with h6 | h6
        · have h7 : ¬ (48 ≤ x) := by omega
          go_wp2_with fail
          go_roundw
          case rel => exact ⟨k + 1, ⟨a, b, c, f, r⟩, by omega, rfl, rfl, by go_num, by show _ = _; rw [← HL1.out, HS.out, if_neg g1, if_neg g5, if_neg g2, if_neg g3, if_neg g4], hB, hF, hG⟩
          case measure => simp [intOf]; omega
        · have h7 : 57 < x := by omega
          have h8 : ¬ (x ≤ 57) := by omega
          go_wp2_with fail
          go_roundw
          case rel => exact ⟨k + 1, ⟨a, b, c, f, r⟩, by omega, rfl, rfl, by go_num, by show _ = _; rw [← HL1.out, HS.out, if_neg g1, if_neg g5, if_neg g2, if_neg g3, if_neg g4], hB, hF, hG⟩
          case measure => simp [intOf]; omega
    · have hke : k = s.size := by omega
      have hL : L = looseL s.data.toList := by rw [HL.out, hke, List.take_of_length_le (by simp)]
      have hfit : L.Fit := by rw [hL]; exact loose_fit _
      obtain ⟨a, b, c, f, r⟩ := L
      obtain ⟨f1, f2, f3, f4, f5⟩ := hfit
      dsimp only at f1 f2 f3 f4 f5
      have HR : Hid (readZ s.data.toList = if okN a b r ∧ textL a b r = s.data.toList then some (a, b, r) else none) := by
        show _ = _
        unfold readZ
        rw [← hL]
      have n0 := hG.cell 0
      have n1 := hG.cell 1
      have l0 : w.heap.size < wr.heap.size := hF.lt
      have l1 : w.heap.size + 1 < wr.heap.size := hG.lt
      have m0 := hF.cell 0
      have m1 := hF.cell 1
      have m2 := hF.cell 2
      have z0 := hF.thawed 0
      have z1 := hF.thawed 1
      have z2 := hF.thawed 2
      simp only [List.getElem?_toArray, List.getElem?_cons_zero, List.getElem?_cons_succ] at n0 n1 m0 m1 m2
      have HF := Lib.hid hF
      have HB := Lib.hid hB
      have HG := Lib.hid hG
      clear HL hL hF hB hG
      have HK := Lib.hid hke
      have h1' : ¬ ((k : Int) < (s.size : Int)) := by omega
      clear hke h1 hk
      rcases Nat.lt_or_ge b 4294967296 with hb | hb
      · have hbi : (b : Int) < 4294967296 := by omega
        have hbj : ¬ (4294967296 : Int) ≤ (b : Int) := by omega
        have HLB := Lib.hid hb
        clear hb
        go_wp2_with fail
        go_region
        all_goals
          obtain ⟨W8, hW8⟩ : ∃ W8, W8 = (wr.alloc (.cells #[.int .i64 (a : Int), .int .u32 (b : Int), .int .u8 (r : Int)] 25)).drew := ⟨_, rfl⟩
          rw [← hW8]
          have HF8 : Hid (Fresh W8 w.heap.size #[.int .i64 0, .int .u32 0, .int .u8 0] 25) := by show Fresh _ _ _ _; rw [hW8]; exact HF.out.alloc _
          have HH8 : Hid (Fresh W8 wr.heap.size #[.int .i64 (a : Int), .int .u32 (b : Int), .int .u8 (r : Int)] 25) := by show Fresh _ _ _ _; rw [hW8]; exact Fresh.new _ _ _ _ rfl
          have HB8 : Hid (Below w.heap.size w W8) := by show Below _ _ _; rw [hW8]; exact (Below.new HB.out _).drew
          clear hW8 m0 m1 m2 z0 z1 z2 n0 n1 hbi hbj l0 l1
          have x0 := HH8.out.cell 0
          have x1 := HH8.out.cell 1
          have x2 := HH8.out.cell 2
          simp only [List.getElem?_toArray, List.getElem?_cons_zero, List.getElem?_cons_succ] at x0 x1 x2
          go_wp2_with fail
          by_cases hok : okN a b r
          · refine (rshow_yes a b r hok _).mono ?_
            obtain ⟨T, hT⟩ : ∃ T, textB a b r = T := ⟨_, rfl⟩
            rw [hT]
            rintro e w3 ⟨rfl, hb3⟩
            have HB3 := Lib.hid (Below.step HB8.out hb3)
            have HF3 := Lib.hid (HF8.out.below hb3)
            have HH3 := Lib.hid (HH8.out.below hb3)
            clear hb3 x0 x1 x2
            have m0 := HF3.out.cell 0
            have m1 := HF3.out.cell 1
            have m2 := HF3.out.cell 2
            have z0 := HF3.out.thawed 0
            have z1 := HF3.out.thawed 1
            have z2 := HF3.out.thawed 2
            have x0 := HH3.out.cell 0
            have x1 := HH3.out.cell 1
            have x2 := HH3.out.cell 2
            simp only [List.getElem?_toArray, List.getElem?_cons_zero, List.getElem?_cons_succ] at m0 m1 m2 x0 x1 x2
            by_cases he : T = s
            · have HN : Hid (readZ s.data.toList = some (a, b, r)) := by
                show _ = _
                rw [HR.out, if_pos]
                exact ⟨hok, by rw [← he, ← hT, textB_list]⟩
              clear hT hok
              subst he
              go_wp2_with fail
              obtain ⟨W9, hW9⟩ : ∃ W9, W9 = (((w3.setCell ⟨w.heap.size, 0, none⟩ (.int .i64 (a : Int))).setCell ⟨w.heap.size, 1, none⟩ (.int .u32 (b : Int))).setCell ⟨w.heap.size, 2, none⟩ (.int .u8 (r : Int))) := ⟨_, rfl⟩
              rw [← hW9]
              have F9 : Fresh W9 w.heap.size #[.int .i64 (a : Int), .int .u32 (b : Int), .int .u8 (r : Int)] 25 := by rw [hW9]; exact HF3.out.set3 _ _ _
              have B9 : Below w.heap.size w W9 := by rw [hW9]; exact below_set3 HB3.out (Nat.le_refl _) _ _ _
              have c0 := F9.cell 0
              have c1 := F9.cell 1
              have c2 := F9.cell 2
              simp only [List.getElem?_toArray, List.getElem?_cons_zero, List.getElem?_cons_succ] at c0 c1 c2
              refine bodyPost_ret (v := readV (some (a, b, r))) ?_ rfl ⟨by rw [HN.out], B9⟩
              simp [results, Tryd.results24, go_sem, readV, c0, c1, c2]
            · have HN : Hid (readZ s.data.toList = none) := by
                show _ = _
                rw [HR.out, if_neg]
                rintro ⟨_, h⟩
                apply he
                rw [← hT]
                exact bytes_ext (by rw [textB_list, h])
              have hq : (T.toList == s.toList) = false := by
                rw [beq_eq_false_iff_ne, ByteArray.toList_eq, ByteArray.toList_eq]
                intro e
                exact he (bytes_ext e)
              have HQ := Lib.hid he
              clear he hT hok
              go_wp2_with fail
              obtain ⟨W9, hW9⟩ : ∃ W9, W9 = (((w3.setCell ⟨w.heap.size, 0, none⟩ (.int .i64 0)).setCell ⟨w.heap.size, 1, none⟩ (.int .u32 0)).setCell ⟨w.heap.size, 2, none⟩ (.int .u8 0)) := ⟨_, rfl⟩
              rw [← hW9]
              have F9 : Fresh W9 w.heap.size #[.int .i64 0, .int .u32 0, .int .u8 0] 25 := by rw [hW9]; exact HF3.out.set3 _ _ _
              have B9 : Below w.heap.size w W9 := by rw [hW9]; exact below_set3 HB3.out (Nat.le_refl _) _ _ _
              have c0 := F9.cell 0
              have c1 := F9.cell 1
              have c2 := F9.cell 2
              simp only [List.getElem?_toArray, List.getElem?_cons_zero, List.getElem?_cons_succ] at c0 c1 c2
              refine bodyPost_ret (v := readV none) ?_ rfl ⟨by rw [HN.out], B9⟩
              simp [results, Tryd.results24, go_sem, readV, c0, c1, c2]
          · have hrz : rightZ a b r = false := by rw [rightZ_of a b r HLB.out]; simpa using hok
            have HN : Hid (readZ s.data.toList = none) := by
              show _ = _
              rw [HR.out, if_neg]
              rintro ⟨h, _⟩
              exact hok h
            refine (rshow_no a b r (by omega) hrz _).mono ?_
            rintro e w3 ⟨rfl, hb3⟩
            have HB3 := Lib.hid (Below.step HB8.out hb3)
            have HF3 := Lib.hid (HF8.out.below hb3)
            have HH3 := Lib.hid (HH8.out.below hb3)
            clear hb3 x0 x1 x2
            have m0 := HF3.out.cell 0
            have m1 := HF3.out.cell 1
            have m2 := HF3.out.cell 2
            have z0 := HF3.out.thawed 0
            have z1 := HF3.out.thawed 1
            have z2 := HF3.out.thawed 2
            have x0 := HH3.out.cell 0
            have x1 := HH3.out.cell 1
            have x2 := HH3.out.cell 2
            simp only [List.getElem?_toArray, List.getElem?_cons_zero, List.getElem?_cons_succ] at m0 m1 m2 x0 x1 x2
            clear hok hrz
            go_wp2_with fail
            obtain ⟨W9, hW9⟩ : ∃ W9, W9 = (((w3.setCell ⟨w.heap.size, 0, none⟩ (.int .i64 0)).setCell ⟨w.heap.size, 1, none⟩ (.int .u32 0)).setCell ⟨w.heap.size, 2, none⟩ (.int .u8 0)) := ⟨_, rfl⟩
            rw [← hW9]
            have F9 : Fresh W9 w.heap.size #[.int .i64 0, .int .u32 0, .int .u8 0] 25 := by rw [hW9]; exact HF3.out.set3 _ _ _
            have B9 : Below w.heap.size w W9 := by rw [hW9]; exact below_set3 HB3.out (Nat.le_refl _) _ _ _
            have c0 := F9.cell 0
            have c1 := F9.cell 1
            have c2 := F9.cell 2
            simp only [List.getElem?_toArray, List.getElem?_cons_zero, List.getElem?_cons_succ] at c0 c1 c2
            refine bodyPost_ret (v := readV none) ?_ rfl ⟨by rw [HN.out], B9⟩
            simp [results, Tryd.results24, go_sem, readV, c0, c1, c2]
      · have HN : Hid (readZ s.data.toList = none) := by
          show _ = _
          rw [HR.out, if_neg]
          intro h
          have := h.1.2.2.2.1
          omega
        have hbi : ¬ ((b : Int) < 4294967296) := by omega
        have hbj : (4294967296 : Int) ≤ (b : Int) := by omega
        clear hb
        go_wp2_with fail
        obtain ⟨W9, hW9⟩ : ∃ W9, W9 = (((wr.setCell ⟨w.heap.size, 0, none⟩ (.int .i64 0)).setCell ⟨w.heap.size, 1, none⟩ (.int .u32 0)).setCell ⟨w.heap.size, 2, none⟩ (.int .u8 0)) := ⟨_, rfl⟩
        rw [← hW9]
        have F9 : Fresh W9 w.heap.size #[.int .i64 0, .int .u32 0, .int .u8 0] 25 := by rw [hW9]; exact HF.out.set3 _ _ _
        have B9 : Below w.heap.size w W9 := by rw [hW9]; exact below_set3 HB.out (Nat.le_refl _) _ _ _
        have c0 := F9.cell 0
        have c1 := F9.cell 1
        have c2 := F9.cell 2
        simp only [List.getElem?_toArray, List.getElem?_cons_zero, List.getElem?_cons_succ] at c0 c1 c2
        refine bodyPost_ret (v := readV none) ?_ rfl ⟨by rw [HN.out], B9⟩
        simp [results, Tryd.results24, go_sem, readV, c0, c1, c2]

end Go.Proofs.YtcfkaginjcgmhaaDoor
