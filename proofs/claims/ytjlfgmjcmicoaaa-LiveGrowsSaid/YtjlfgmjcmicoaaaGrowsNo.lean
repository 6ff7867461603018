/- The law LiveGrows: for any request and numbers the call returns true. -/
import Derived.Test.YtjlfgmjcmicoaaaGrowsM
import Derived.Test.YtjlfgmjcmicoaaaAwake
namespace Go.Proofs.Ytjlfgmjcmicoaaa
open Go.RowKit
set_option maxRecDepth 100000

set_option maxHeartbeats 8000000 in
theorem grows_no (r : Req) (a b : Int) (o : Req) (w : World) (h : r.Ok) (hb : isB r = false) (ha : 0 ≤ a ∧ a ≤ 4294967295) (hm : 0 ≤ b ∧ b ≤ 4294967295) :
    Calls Try.prog 6 #[reqV r, .int .u32 a, .int .u32 b, reqV o] w fun e w' => e = .returned (.bool true) ∧ Below w.heap.size w w' := by
  have HO := Lib.hid h
  have HB := Lib.hid hb
  obtain ⟨T, hT⟩ : ∃ T : Int, a.tmod 1048576 = T := ⟨_, rfl⟩
  obtain ⟨M, hM⟩ : ∃ M : Int, b.tmod 1048576 = M := ⟨_, rfl⟩
  have T0 : 0 ≤ T ∧ T < 1048576 := by rw [← hT, Int.tmod_eq_emod_of_nonneg ha.1]; omega
  have M0 : 0 ≤ M ∧ M < 1048576 := by rw [← hM, Int.tmod_eq_emod_of_nonneg hm.1]; omega
  have HN := Lib.hid (grow_no r hb T M)
  obtain ⟨a1, a2⟩ := ha
  obtain ⟨b1, b2⟩ := hm
  obtain ⟨T1, T2⟩ := T0
  obtain ⟨M1, M2⟩ := M0
  clear h hb
  go_enter Try.func6, Try.ntmps6
  go_wp2_with fail
  refine (is_any r _ HO.out).mono ?_
  rw [HB.out]
  rintro e W ⟨rfl, hb1⟩
  have HF1 := Lib.hid (((fresh_req w r _ rfl).alloc (.cells #[.int .i64 o.d, .int .i64 o.ht, .int .u32 o.hg, .int .u8 o.hr, .string o.key, .string o.val, .string o.old, .int .i64 o.lim, .int .i64 o.ten, .int .u64 o.qk, .int .u64 o.qb, .int .u8 o.rts] 31)).below hb1)
  have HB1 := Lib.hid (Below.step (Below.new ((Below.refl w.heap.size w).alloc (Nat.le_refl _) _) _) hb1)
  obtain ⟨c0, c1, c2, c3, c4, c5, c6, c7, c8, c9, c10, c11⟩ := req_cells HF1.out
  have HW0 : Hid ((wayN r : Int) = 0) := by show _ = _; rw [HN.out.1]; rfl
  clear hb1
  go_wp2_with fail
  refine (way_any r _ HO.out).mono ?_
  rw [HW0.out]
  rintro e W2 ⟨rfl, hb2⟩
  have HF2 := Lib.hid (HF1.out.below hb2)
  have HB2 := Lib.hid (Below.step HB1.out hb2)
  clear c0 c1 c2 c3 c4 c5 c6 c7 c8 c9 c10 c11 hb2
  obtain ⟨c0, c1, c2, c3, c4, c5, c6, c7, c8, c9, c10, c11⟩ := req_cells HF2.out
  go_wp2_with fail
  refine (bound_any r T _ HO.out).mono ?_
  rw [HN.out.2.1]
  rintro e W3 ⟨rfl, hb2⟩
  have HF3 := Lib.hid (HF2.out.below hb2)
  have HB3 := Lib.hid (Below.step HB2.out hb2)
  clear c0 c1 c2 c3 c4 c5 c6 c7 c8 c9 c10 c11 hb2
  obtain ⟨c0, c1, c2, c3, c4, c5, c6, c7, c8, c9, c10, c11⟩ := req_cells HF3.out
  go_wp2_with fail
  refine (enough_any r T M _ HO.out).mono ?_
  rw [HN.out.2.2]
  rintro e W4 ⟨rfl, hb2⟩
  have HB4 := Lib.hid (Below.step HB3.out hb2)
  clear c0 c1 c2 c3 c4 c5 c6 c7 c8 c9 c10 c11 hb2
  go_wp2_with fail
  refine (awake_any _).mono ?_
  rintro e W5 ⟨rfl, hb2⟩
  go_wp2_with fail
  go_ret
  exact ⟨rfl, Below.step HB4.out hb2⟩

end Go.Proofs.Ytjlfgmjcmicoaaa
