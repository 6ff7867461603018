/- The walk of the chapter's example. -/
import Derived.Test.YthhmbmeajgjhcaaAwake
namespace Go.Proofs.Ythhmbmeajgjhcaa
open Go.RowKit
set_option maxRecDepth 100000
set_option maxHeartbeats 8000000

theorem w64l (n : Int) (h : decide (0 ≤ n ∧ n < 18446744073709551616) = true) : W64 n := by unfold W64; simpa using h

theorem awake_any (w : World) : Calls Try.prog 7 #[] w fun e w' => e = .returned (.bool true) ∧ Below w.heap.size w w' := by
  go_enter Try.func7, Try.ntmps7
  go_wp2_with fail
  refine (new_any _).mono ?_
  rintro e w1 ⟨p, a, m, hp, ha, hm, rfl, hb1, hat1⟩
  have HS : Hid (∀ k ∈ [a, m], w.heap.size ≤ k) := by intro k hk; simp at hk; rcases hk with rfl | rfl <;> assumption
  have HB1 := Lib.hid hb1
  have HA1 := Lib.hid hat1
  clear hp ha hm hb1 hat1
  go_wp2_with fail
  refine (one_any _).mono ?_
  rintro e w2 ⟨rfl, hb2⟩
  have HB2 := Lib.hid (Below.step HB1.out hb2)
  have HA2 := Lib.hid (HA1.out.below hb2)
  clear hb2
  go_upto_region 3 with fail
  obtain ⟨W3, hW3⟩ : ∃ W3, W3 = w2.alloc (.cells #[.int .i64 0, .int .u32 1] 33) := ⟨_, rfl⟩
  rw [← hW3]
  obtain ⟨q, hq⟩ : ∃ q, w2.heap.size = q := ⟨_, rfl⟩
  rw [hq]
  have HQ : Hid (Fresh W3 q #[.int .i64 0, .int .u32 1] 33) := by show Fresh _ _ _ _; rw [hW3]; exact Fresh.new _ _ _ _ hq
  have HA3 : Hid (At W3 p a m ⟨0, 0, []⟩) := by show At _ _ _ _ _; rw [hW3]; exact HA2.out.below (Below.new (Below.refl _ _) _)
  have HB3 : Hid (Below w.heap.size w W3) := by show Below _ _ _; rw [hW3]; exact Below.new HB2.out _
  have HN : Hid (q ∉ [a, m]) := by
    have h1 := HA2.out.ha.lt
    have h2 := HA2.out.hm.lt
    show q ∉ [a, m]
    simp
    omega
  clear hW3 hq
  have r0 := HQ.out.cell 0
  have r1 := HQ.out.cell 1
  simp only [List.getElem?_toArray, List.getElem?_cons_zero, List.getElem?_cons_succ] at r0 r1
  go_wp2_with fail
  refine (lk_add HA3.out).mono ?_
  rintro e w4 ⟨rfl, ht, ha⟩
  have H4 : Hid (On w w4 p a m q 0 0) := ⟨ha, ht.other HQ.out HN.out, ht.below HB3.out HS.out HB3.out.size, HS.out, HN.out⟩
  clear ht ha r0 r1
  obtain ⟨r0, r1⟩ := H4.out.ref
  go_wp2_with fail
  refine (lk_begin H4.out.at' (w64l 0 (by decide))).mono ?_
  rintro e w5 ⟨rfl, hb⟩
  have H5 := Lib.hid (H4.out.below hb)
  clear hb r0 r1
  obtain ⟨r0, r1⟩ := H5.out.ref
  go_wp2_with fail
  go_region_held3 (fun W' => W'.cell? ⟨q, 0, none⟩ = some (.int .i64 0) ∧ W'.cell? ⟨q, 1, none⟩ = some (.int .u32 1))
    (first | go_keep | exact HY.out.ref | exact HX.out.ref)
    (first
      | (have _t := HX
         go_at_call 16
         refine (lk_no HX.out.at' (w64l 1 (by decide)) (by decide) (by decide) 0 (by decide)).mono ?_
         rintro e w6 ⟨rfl, ht, ha⟩
         have HY : Hid (On w w6 p a m q 1 1) := HX.out.turned ht ha
         clear ht ha)
      | (go_at_call 16
         refine (lk_yes H5.out.drew.at' (w64l 0 (by decide)) (by decide) (by decide) (by decide)).mono ?_
         rintro e wx ⟨rfl, ht, ha⟩
         have HX : Hid (On w wx p a m q 1 1) := H5.out.drew.turned ht ha
         clear ht ha))
  all_goals
    have H6 := Lib.hid HY.out
    clear HX HY r0 r1
    obtain ⟨r0, r1⟩ := H6.out.ref
    go_wp2_with fail
    refine (lk_begin H6.out.at' (w64l 1 (by decide))).mono ?_
    rintro e w7 ⟨rfl, hb⟩
    have H7 := Lib.hid (H6.out.below hb)
    clear hb r0 r1
    obtain ⟨r0, r1⟩ := H7.out.ref
    go_wp2_with fail
    refine (lk_done1 H7.out.at' (w64l 1 (by decide)) (by decide) (by decide) (by decide) (by decide)).mono ?_
    rintro e w8 ⟨rfl, ht, ha⟩
    have H8 : Hid (On w w8 p a m q 1 4) := H7.out.turned ht ha
    clear ht ha r0 r1
    obtain ⟨r0, r1⟩ := H8.out.ref
    go_wp2_with fail
    refine (lk_begin H8.out.at' (w64l 4 (by decide))).mono ?_
    rintro e w9 ⟨rfl, hb⟩
    have H9 := Lib.hid (H8.out.below hb)
    clear hb r0 r1
    obtain ⟨r0, r1⟩ := H9.out.ref
    go_wp2_with fail
    go_region_held3 (fun W' => W'.cell? ⟨q, 0, none⟩ = some (.int .i64 0) ∧ W'.cell? ⟨q, 1, none⟩ = some (.int .u32 1))
      (first | go_keep | exact HY.out.ref | exact HX.out.ref)
      (first
        | (have _t := HX
           go_at_call 16
           refine (lk_yes HX.out.at' (w64l 4 (by decide)) (by decide) (by decide) (by decide)).mono ?_
           rintro e w10 ⟨rfl, ht, ha⟩
           have HY : Hid (On w w10 p a m q 2 5) := HX.out.turned ht ha
           clear ht ha)
        | (go_at_call 16
           refine (lk_no H9.out.drew.at' (w64l 4 (by decide)) (by decide) (by decide) 0 (by decide)).mono ?_
           rintro e wx ⟨rfl, ht, ha⟩
           have HX : Hid (On w wx p a m q 1 4) := H9.out.drew.turned ht ha
           clear ht ha))
    all_goals
      have H10 := Lib.hid HY.out
      clear HX HY r0 r1
      obtain ⟨r0, r1⟩ := H10.out.ref
      go_wp2_with fail
      refine (lk_kill1 H10.out.at' (w64l 5 (by decide)) (by decide) (by decide) (by decide) (by decide)).mono ?_
      rintro e w11 ⟨rfl, ht, ha⟩
      have H11 : Hid (On w w11 p a m q 2 10) := H10.out.turned ht ha
      clear ht ha r0 r1
      obtain ⟨r0, r1⟩ := H11.out.ref
      go_wp2_with fail
      refine (lk_begin H11.out.at' (w64l 10 (by decide))).mono ?_
      rintro e w12 ⟨rfl, hb⟩
      have H12 := Lib.hid (H11.out.below hb)
      clear hb r0 r1
      go_wp2_with fail
      go_ret
      exact ⟨rfl, H12.out.low⟩
end Go.Proofs.Ythhmbmeajgjhcaa
