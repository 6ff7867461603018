/- The walk of the reference's All, and of All over no string. -/
import Derived.Test.YthfbkmpljobagaaLaws
import Derived.Lib.QuietBelow
namespace Go.Proofs.Ythfbkmpljobagaa
open Go.RowKit
set_option maxRecDepth 100000
set_option maxHeartbeats 400000

theorem all0_any (a : Option Addr) (cap : Nat) (w : World) :
    Calls Try.prog 13 #[.slice a 0 cap] w fun e w' => e = .returned (.int .i64 0) ∧ Below w.heap.size w w' := by
  go_enter Try.func13, Try.ntmps13
  go_wp2
  go_ret
  exact ⟨rfl, Below.refl _ _⟩

theorem rall0_any (a : Option Addr) (cap : Nat) (w : World) :
    Calls Try.prog 14 #[.slice a 0 cap] w fun e w' => e = .returned (.int .i64 0) ∧ Below w.heap.size w w' := by
  go_enter Try.func14, Try.ntmps14
  go_wp2
  go_ret
  exact ⟨rfl, Below.refl _ _⟩

set_option maxHeartbeats 2000000 in
theorem rall_any (a : ByteArray) (r : List ByteArray) (b off cap : Nat) (w : World) (hb : b < w.heap.size) (hz : ∀ x ∈ a :: r, x.size ≤ maxLen) (hl : r.length + 1 ≤ maxLen)
    (hc : ∀ i, i < r.length + 1 → w.cell? ⟨b, off + i, none⟩ = some (.string ((a :: r).getD i ByteArray.empty))) :
    Calls Try.prog 14 #[.slice (some ⟨b, off, none⟩) (r.length + 1) cap] w fun e w' => e = .returned (.int .i64 (lcpAll a r)) ∧ Below w.heap.size w w' := by
  unfold maxLen at hl
  have c0 := hc 0 (by omega)
  simp only [Nat.add_zero, List.getD_cons_zero] at c0
  have HC := Lib.hid hc
  have HZ := Lib.hid hz
  clear hc hz
  have C0 := Lib.hid c0
  go_enter Try.func14, Try.ntmps14
  go_wp2_with fail
  go_loopw [3, 4] (fun n i wr => ∃ k : Nat, k ≤ r.length ∧ i = .int .i64 ((k + 1 : Nat) : Int) ∧ n = .int .i64 (lcpAll a (r.take k)) ∧ Below w.heap.size w wr) (fun _ i _ => r.length + 1 - (intOf i).toNat)
  case atStart => exact ⟨0, Nat.zero_le _, rfl, by simp [lcpAll], Below.refl _ _⟩
  case round =>
    obtain ⟨k, hk, rfl, rfl, hB⟩ := hrel
    clear c0
    by_cases hkr : k < r.length
    · have hcell : wr.cell? ⟨b, off + (k + 1), none⟩ = some (.string (r.getD k ByteArray.empty)) := by
        rw [hB.cell (p := ⟨b, off + (k + 1), none⟩) hb, HC.out (k + 1) (by omega)]
        rfl
      have hc0 : wr.cell? ⟨b, off, none⟩ = some (.string a) := by rw [hB.cell (p := ⟨b, off, none⟩) hb]; exact C0.out
      have hza : Hid (a.size ≤ maxLen) := HZ.out a (by simp)
      have hzk : Hid ((r.getD k ByteArray.empty).size ≤ maxLen) := HZ.out _ (by rw [List.getD_eq_getElem?_getD, List.getElem?_eq_getElem hkr]; simp)
      have hs := lcpAll_succ a r k hkr
      generalize hx : r.getD k ByteArray.empty = x at *
      have HS := Lib.hid hs
      clear hx hs
      have q0 := fun d os => cell_regrown hc0 d os
      have q1 := fun d os => cell_regrown hcell d os
      go_wp2_with fail
      refine wp_region_quiet_below (by kernel_rfl) (by kernel_rfl) ?_
      repeat (any_goals (first | go_big_quiet_step ((go_at_call 22; exact Calls.regrown_of (rcommon_any _ _ _ hza.out hzk.out))) | quiet_step (fail)))
      refine wpQuiet_nil ?_
      intro w3 hw3
      have hb3 : Below wr.heap.size wr w3 := by obtain ⟨p, rfl⟩ := hw3; exact below_regrown _ _ _
      clear hw3 q0 q1 hcell hc0
      go_wp2_with fail
      all_goals
        go_roundw
        case rel => exact ⟨k + 1, by omega, by go_num, by rw [HS.out]; first | (split <;> go_num) | (go_num), hB.trans (hb3.mono hB.size)⟩
        case measure => simp [intOf]; omega
    · obtain rfl : k = r.length := by omega
      go_wp2_with fail
      go_ret
      exact ⟨ret_int (by rw [List.take_length]), hB⟩

end Go.Proofs.Ythfbkmpljobagaa
