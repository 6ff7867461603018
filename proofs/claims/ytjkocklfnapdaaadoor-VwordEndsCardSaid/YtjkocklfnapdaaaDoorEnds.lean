/- The walk of VwordEnds. -/
import Derived.Test.YtjkocklfnapdaaaDoorReads
namespace Go.Proofs.YtjkocklfnapdaaaDoor
open Go.RowKit
set_option maxRecDepth 100000
set_option maxHeartbeats 4000000

def vs : List Nat := [0, 1, 9, 10, 2147483648, 4611686018427387902, 4611686018427387903, 4611686018427387904, 18446744073709551615]
theorem vs_lt (i : Nat) (h : i < 9) : vs.getD i 0 < 18446744073709551616 := by
  rcases (show i = 0 ∨ i = 1 ∨ i = 2 ∨ i = 3 ∨ i = 4 ∨ i = 5 ∨ i = 6 ∨ i = 7 ∨ i = 8 by omega) with rfl | rfl | rfl | rfl | rfl | rfl | rfl | rfl | rfl <;> decide

def hs : List ByteArray := [⟨#[]⟩, ⟨#[52, 54, 49, 49, 54, 56, 54, 48, 49, 56, 52, 50, 55, 51, 56, 55]⟩, ⟨#[52, 54, 49, 49, 54, 56, 54, 48, 49, 56, 52, 50, 55, 51, 56, 55, 57, 48, 51]⟩, ⟨#[49, 56, 52, 52, 54, 55, 52, 52, 48, 55, 51, 55, 48, 57, 53, 53, 49, 54, 49]⟩]
theorem hs_size (i : Nat) (h : i < 4) : (hs.getD i ⟨#[]⟩).size ≤ 19 := by
  rcases (show i = 0 ∨ i = 1 ∨ i = 2 ∨ i = 3 by omega) with rfl | rfl | rfl | rfl <;> decide
theorem u64_wrap_nat (x : Int) : ∃ m : Nat, IntKind.u64.wrap x = m ∧ m < 18446744073709551616 := by
  have h : IntKind.u64.wrap x = x % 18446744073709551616 := by simp [IntKind.wrap, IntKind.signed, IntKind.bits]
  rw [h]
  exact ⟨(x % 18446744073709551616).toNat, by omega, by omega⟩
theorem tells_wrap (x : Int) (w : World) (htab : Tab w) :
    Calls Tryd.prog 10 #[.int .u64 (IntKind.u64.wrap x)] w fun e w' => e = .returned (.bool true) ∧ Below w.heap.size w w' := by
  obtain ⟨m, hm, hlt⟩ := u64_wrap_nat x
  rw [hm]
  exact tells_any m w hlt htab

theorem ends_walk (w : World) (hw : Tab w ∧ Errs w) :
    Calls Tryd.prog 5 #[] w fun e w' => e = .returned (.bool true) ∧ Below w.heap.size w w' := by
  have HT := Lib.hid hw.1
  have HE := Lib.hid hw.2
  clear hw
  go_enter Tryd.func5, Tryd.ntmps5
  go_wp2_with fail
  go_loopw [2] (fun t wr => ∃ i : Nat, i ≤ 9 ∧ t = .int .i64 i ∧ Below w.heap.size w wr ∧ w.heap.size < wr.heap.size ∧ Hid (∀ j, j < 9 → wr.cell? ⟨w.heap.size, j, none⟩ = some (.int .u64 (vs.getD j 0)))) (fun t _ => 9 - (intOf t).toNat)
  case atStart =>
    refine ⟨0, by omega, rfl, (Below.refl _ _).alloc (Nat.le_refl _) _, by simp, fun j hj => ?_⟩
    rw [World.cell?_alloc_new]
    rcases (show j = 0 ∨ j = 1 ∨ j = 2 ∨ j = 3 ∨ j = 4 ∨ j = 5 ∨ j = 6 ∨ j = 7 ∨ j = 8 by omega) with rfl | rfl | rfl | rfl | rfl | rfl | rfl | rfl | rfl <;> rfl
  case round =>
    obtain ⟨i, hi, rfl, hB, hlt, HC⟩ := hrel
    by_cases hi9 : i < 9
    · have hi9' : (i : Int) < 9 := by omega
      have hc0 := HC.out i hi9
      have hv := vs_lt i hi9
      generalize vs.getD i 0 = v at *
      have HV := Lib.hid hv
      have HC0 := Lib.hid hc0
      clear hv hc0
      go_wp2_with fail
      obtain ⟨wo, rfl⟩ : ∃ wo : World, wo = wr := ⟨_, rfl⟩
      go_loopw [3] (fun t wr => ∃ k : Nat, k ≤ 4 ∧ t = .int .i64 k ∧ Below wo.heap.size wo wr) (fun t _ => 4 - (intOf t).toNat)
      case atStart => exact ⟨0, by omega, rfl, Below.refl _ _⟩
      case round =>
        obtain ⟨k, hk, rfl, hB2⟩ := hrel
        by_cases hk4 : k < 4
        · have hk4' : (k : Int) < 4 := by omega
          obtain ⟨l, hl⟩ : ∃ l, ((k : Int) % 2 == 1) = l := ⟨_, rfl⟩
          obtain ⟨d, hd⟩ : ∃ d, ((k : Int) / 2 == 1) = d := ⟨_, rfl⟩
          have hc1 : wr.cell? ⟨w.heap.size, i, none⟩ = some (.int .u64 v) := by rw [hB2.cell (p := ⟨w.heap.size, i, none⟩) hlt]; exact HC0.out
          have hTw : Hid (Tab wr ∧ Errs wr) := ⟨(HT.out.on hB).on hB2, (HE.out.on hB).on hB2⟩
          by_cases h62 : v < 4611686018427387904
          · have W := VN_W (v : Int) l d (by omega) (by omega)
            obtain ⟨m, hm⟩ : ∃ m : Nat, VN (v : Int) l d = m := ⟨(VN (v : Int) l d).toNat, by have := W.1; omega⟩
            rw [hm] at W
            have HM : Hid (m < 18446744073709551616) := by show _ < _; have := W.2; omega
            have V := Lib.hid hm
            have X0 := Lib.hid h62
            clear W hm h62
            go_wp2_with fail
            refine (newR_yes v l d _ (by omega) (by have := X0.out; omega)).mono ?_
            rw [V.out]
            rintro e w1 ⟨rfl, hb1⟩
            have hc2 : w1.cell? ⟨w.heap.size, i, none⟩ = some (.int .u64 v) := by rw [hb1.cell (p := ⟨w.heap.size, i, none⟩) (Nat.lt_of_lt_of_le hlt hB2.size)]; exact hc1
            go_wp2_with fail
            refine (tellsLaw_walk m v l d _ HM.out HV.out (hTw.out.1.on hb1)).mono ?_
            rintro e w2 ⟨rfl, hb2⟩
            go_wp2_with fail
            refine (showR_loop m _ HM.out).mono ?_
            rintro e w3 ⟨rfl, hb3⟩
            have B3 := Lib.hid (Below.step (Below.step hb1 hb2) hb3)
            clear hb1 hb2 hb3 hc1 hc2
            go_wp2_with fail
            refine (reads_any (showB m) _ (showB_size m HM.out) ⟨hTw.out.1.on B3.out, hTw.out.2.on B3.out⟩).mono ?_
            rintro e w4 ⟨rfl, hb4⟩
            go_wp2_with fail
            go_roundw
            case rel => exact ⟨k + 1, by omega, by go_num, Below.step hB2 (Below.step B3.out hb4)⟩
            case measure => simp [intOf]; omega
          · have X1 := Lib.hid h62
            clear h62
            go_wp2_with fail
            refine (newR_no v l d _ (by have := X1.out; omega)).mono ?_
            rintro e w1 ⟨rfl, rfl⟩
            go_wp2_with fail
            refine (tellsLaw_walk 0 v l d _ (by decide) HV.out hTw.out.1).mono ?_
            rintro e w2 ⟨rfl, hb2⟩
            go_wp2_with fail
            go_roundw
            case rel => exact ⟨k + 1, by omega, by go_num, Below.step hB2 hb2⟩
            case measure => simp [intOf]; omega
        · go_wp2_with fail
          go_roundw
          case rel => exact ⟨i + 1, by omega, by go_num, Below.step hB hB2, Nat.lt_of_lt_of_le hlt hB2.size, fun j hj => by rw [hB2.cell (p := ⟨w.heap.size, j, none⟩) hlt]; exact HC.out j hj⟩
          case measure => simp [intOf]; omega
    · have hi9' : ¬ (i : Int) < 9 := by omega
      clear HC
      go_wp2_with fail
      obtain ⟨wo, rfl⟩ : ∃ wo : World, wo = wr := ⟨_, rfl⟩
      go_loopw [6] (fun t wr => ∃ n : Nat, n ≤ 64 ∧ t = .int .i64 n ∧ Below w.heap.size w wr) (fun t _ => 64 - (intOf t).toNat)
      case atStart => exact ⟨0, by omega, rfl, hB⟩
      case round =>
        obtain ⟨n, hn, rfl, hB3⟩ := hrel
        have HT3 : Hid (Tab wr ∧ Errs wr) := ⟨HT.out.on hB3, HE.out.on hB3⟩
        by_cases hn64 : n < 64
        · have hn64' : (n : Int) < 64 := by omega
          go_wp2_with fail
          refine (tells_wrap _ _ HT3.out.1).mono ?_
          rintro e w1 ⟨rfl, hb1⟩
          go_wp2_with fail
          refine (tells_wrap _ _ (HT3.out.1.on hb1)).mono ?_
          rintro e w2 ⟨rfl, hb2⟩
          go_wp2_with fail
          go_roundw
          case rel => exact ⟨n + 1, by omega, by go_num, Below.step (Below.step hB3 hb1) hb2⟩
          case measure => simp [intOf]; omega
        · have hn64' : ¬ (n : Int) < 64 := by omega
          have hB0 := hB3
          clear hB3 HT3 hi9 hi9' hlt hB
          go_wp2_with fail
          obtain ⟨wp, rfl⟩ : ∃ wp : World, wp = wr := ⟨_, rfl⟩
          go_loopw [9] (fun t wr => ∃ n : Nat, n ≤ 343 ∧ t = .int .i64 n ∧ Below w.heap.size w wr ∧ wp.heap.size < wr.heap.size ∧ Hid (∀ j, j < 4 → wr.cell? ⟨wp.heap.size, j, none⟩ = some (.string (hs.getD j ⟨#[]⟩)))) (fun t _ => 343 - (intOf t).toNat)
          case atStart =>
            refine ⟨0, by omega, rfl, hB0.alloc hB0.size _, by simp, fun j hj => ?_⟩
            rw [World.cell?_alloc_new]
            rcases (show j = 0 ∨ j = 1 ∨ j = 2 ∨ j = 3 by omega) with rfl | rfl | rfl | rfl <;> rfl
          case round =>
            obtain ⟨n, hn, rfl, hB4, hl4, HC4⟩ := hrel
            by_cases hn3 : n < 343
            · have hn3' : (n : Int) < 343 := by omega
              obtain ⟨a, ha⟩ : ∃ a : Nat, (n : Int) % 7 = a := ⟨((n : Int) % 7).toNat, by omega⟩
              obtain ⟨b, hb⟩ : ∃ b : Nat, (n : Int) / 7 % 7 = b := ⟨((n : Int) / 7 % 7).toNat, by omega⟩
              obtain ⟨c, hc⟩ : ∃ c : Nat, (n : Int) / 49 = c := ⟨((n : Int) / 49).toNat, by omega⟩
              have ha7 : a < 7 := by omega
              have hb7 : b < 7 := by omega
              have hc7 : c < 7 := by omega
              go_wp2_with fail
              go_quiet (fail)
              go_wp2_with fail
              generalize htl : (ByteArray.mk #[48, 49, 57, 43, 120, 45, 32]).extract a (a + 1) ++ (ByteArray.mk #[48, 49, 57, 43, 120, 45, 32]).extract b (b + 1) ++ (ByteArray.mk #[48, 49, 57, 43, 120, 45, 32]).extract c (c + 1) = tl
              have hts : tl.size = 3 := by
                rw [← htl, ByteArray.size_append, ByteArray.size_append, ByteArray.size_extract, ByteArray.size_extract, ByteArray.size_extract]
                show min (a + 1) 7 - a + (min (b + 1) 7 - b) + (min (c + 1) 7 - c) = 3
                omega
              have hbd : Below wr.heap.size wr (wr.drewN nq) := below_drewN (Below.refl _ _) _
              generalize wr.drewN nq = w4 at *
              have hB5 := Below.step hB4 hbd
              have hl5 := Nat.lt_of_lt_of_le hl4 hbd.size
              have HC5 : Hid (∀ j, j < 4 → w4.cell? ⟨wp.heap.size, j, none⟩ = some (.string (hs.getD j ⟨#[]⟩))) := fun j hj => by
                rw [hbd.cell (p := ⟨wp.heap.size, j, none⟩) hl4]; exact HC4.out j hj
              clear htl ha hb hc ha7 hb7 hc7 hbd
              go_loopw [11] (fun t wr => ∃ k : Nat, k ≤ 4 ∧ t = .int .i64 k ∧ Below w4.heap.size w4 wr) (fun t _ => 4 - (intOf t).toNat)
              case atStart => exact ⟨0, by omega, rfl, Below.refl _ _⟩
              case round =>
                obtain ⟨k, hk, rfl, hB6⟩ := hrel
                by_cases hk4 : k < 4
                · have hk4' : (k : Int) < 4 := by omega
                  go_wp2_with fail
                  obtain ⟨w5, rfl⟩ : ∃ w5 : World, w5 = wr := ⟨_, rfl⟩
                  have hl6 := Nat.lt_of_lt_of_le hl5 hB6.size
                  go_loopw [12] (fun t wr => ∃ q : Nat, q ≤ 4 ∧ t = .int .i64 q ∧ Below w5.heap.size w5 wr) (fun t _ => 4 - (intOf t).toNat)
                  case atStart => exact ⟨0, by omega, rfl, Below.refl _ _⟩
                  case round =>
                    obtain ⟨q, hq, rfl, hB7⟩ := hrel
                    by_cases hq4 : q < 4
                    · have hq4' : (q : Int) < 4 := by omega
                      have hcell : wr.cell? ⟨wp.heap.size, q, none⟩ = some (.string (hs.getD q ⟨#[]⟩)) := by
                        rw [hB7.cell (p := ⟨wp.heap.size, q, none⟩) hl6, hB6.cell (p := ⟨wp.heap.size, q, none⟩) hl5]; exact HC5.out q hq4
                      have hhs := hs_size q hq4
                      generalize hs.getD q ⟨#[]⟩ = h at *
                      have e0 : (tl.extract 0 k).size = k := by rw [ByteArray.size_extract]; omega
                      have z1 : Hid ((h ++ tl.extract 0 k).size ≤ 1000) := by show _ ≤ _; rw [ByteArray.size_append]; omega
                      have z2 : Hid ((h ++ tl.extract 0 k ++ ⟨#[43, 120]⟩).size ≤ 1000) := by
                        show _ ≤ _
                        rw [ByteArray.size_append, ByteArray.size_append]
                        show _ + 2 ≤ 1000
                        omega
                      have HW : Hid (Tab wr ∧ Errs wr) := ⟨HT.out.on (Below.step (Below.step hB5 hB6) hB7), HE.out.on (Below.step (Below.step hB5 hB6) hB7)⟩
                      have r0 := fun d os => cell_regrown hcell d os
                      have hts' := hts
                      go_wp2_with fail
                      refine wp_region_quiet_below (by kernel_rfl) (by kernel_rfl) ?_
                      repeat (any_goals (first | go_big_quiet_step (first | (go_at_call 12; exact Calls.regrown_of (reads_any _ _ z2.out ⟨HW.out.1.on (below_regrown _ _ _), HW.out.2.on (below_regrown _ _ _)⟩)) | (go_at_call 12; exact Calls.regrown_of (reads_any _ _ z1.out ⟨HW.out.1.on (below_regrown _ _ _), HW.out.2.on (below_regrown _ _ _)⟩))) | quiet_step (fail)))
                      refine wpQuiet_nil ?_
                      intro w6 hw6
                      have hb6 : Below wr.heap.size wr w6 := by obtain ⟨p, rfl⟩ := hw6; exact below_regrown _ _ _
                      clear hw6
                      go_wp2_with fail
                      go_roundw
                      case rel => exact ⟨q + 1, by omega, by go_num, Below.step hB7 hb6⟩
                      case measure => simp [intOf]; omega
                    · have hq4' : ¬ (q : Int) < 4 := by omega
                      go_wp2_with fail
                      go_roundw
                      case rel => exact ⟨k + 1, by omega, by go_num, Below.step hB6 hB7⟩
                      case measure => simp [intOf]; omega
                · have hk4' : ¬ (k : Int) < 4 := by omega
                  go_wp2_with fail
                  go_roundw
                  case rel => exact ⟨n + 1, by omega, by go_num, Below.step hB5 hB6, Nat.lt_of_lt_of_le hl5 hB6.size, fun j hj => by rw [hB6.cell (p := ⟨wp.heap.size, j, none⟩) hl5]; exact HC5.out j hj⟩
                  case measure => simp [intOf]; omega
            · have hn3' : ¬ (n : Int) < 343 := by omega
              go_wp2_with fail
              refine (reads_any _ _ (by decide) ⟨HT.out.on hB4, HE.out.on hB4⟩).mono ?_
              rintro e w1 ⟨rfl, hb1⟩
              have hB5 := Below.step hB4 hb1
              go_wp2_with fail
              refine (reads_any _ _ (by decide) ⟨HT.out.on hB5, HE.out.on hB5⟩).mono ?_
              rintro e w2 ⟨rfl, hb2⟩
              have hB6 := Below.step hB5 hb2
              go_wp2_with fail
              refine (awake_any _ (HT.out.on hB6)).mono ?_
              rintro e w3 ⟨rfl, hb3⟩
              go_wp2_with fail
              go_ret
              exact ⟨rfl, Below.step hB6 hb3⟩

end Go.Proofs.YtjkocklfnapdaaaDoor
