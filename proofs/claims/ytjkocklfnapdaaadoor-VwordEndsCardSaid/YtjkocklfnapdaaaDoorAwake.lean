/- The examples of the chapter. -/
import Derived.Test.YtjkocklfnapdaaaDoorShow
import Derived.KernelRfl
namespace Go.Proofs.YtjkocklfnapdaaaDoor
open Go.RowKit
set_option maxRecDepth 100000
set_option maxHeartbeats 1000000

theorem show7 : showB 7 = ⟨#[49, 43, 120]⟩ := by
  have : Lib.decDigits 1 = [49] := by rw [Lib.decDigits]; rfl
  unfold showB showL
  rw [show 7 / 4 = 1 from rfl, this]
  rfl

theorem awake_any (w : World) (htab : Tab w) : Calls Tryd.prog 11 #[] w fun e w' => e = .returned (.bool true) ∧ Below w.heap.size w w' := by
  have HT := Lib.hid htab
  clear htab
  have e1 : Hid (doneV 1 = 4) := by show _ = _; decide
  have e2 : Hid (killV 1 = 6) := by show _ = _; decide
  go_enter Tryd.func11, Tryd.ntmps11
  go_wp2_with fail
  refine (lock_yes 0 _ ⟨by decide, by decide⟩ (by decide)).mono ?_
  rintro e w1 ⟨rfl, hb1⟩
  go_wp2_with fail
  refine (drop_yes 1 _ ⟨by decide, by decide⟩ (by decide)).mono ?_
  rintro e w2 ⟨rfl, hb2⟩
  go_wp2_with fail
  refine (done_yes 1 _ ⟨by decide, by decide⟩ (by decide)).mono ?_
  rw [e1.out]
  rintro e w3 ⟨rfl, hb3⟩
  go_wp2_with fail
  refine (kill_yes 1 _ ⟨by decide, by decide⟩ (by decide)).mono ?_
  rw [e2.out]
  rintro e w4 ⟨rfl, hb4⟩
  go_wp2_with fail
  refine (version_any 4 _ ⟨by decide, by decide⟩).mono ?_
  rintro e w5 ⟨rfl, hb5⟩
  go_wp2_with fail
  refine (dead_any 6 _ ⟨by decide, by decide⟩).mono ?_
  rintro e w6 ⟨rfl, hb6⟩
  go_wp2_with fail
  refine (free_any 6 _ ⟨by decide, by decide⟩).mono ?_
  rintro e w7 ⟨rfl, hb7⟩
  have hB : Below w.heap.size w w7 := Below.step (Below.step (Below.step (Below.step (Below.step (Below.step hb1 hb2) hb3) hb4) hb5) hb6) hb7
  have HB := Lib.hid hB
  clear hB
  go_wp2_with fail
  refine (show_any 7 _ (by decide) (HT.out.on HB.out)).mono ?_
  rw [show7]
  rintro e w8 ⟨rfl, hb8⟩
  go_wp2_with fail
  go_ret
  exact ⟨rfl, Below.step HB.out hb8⟩

end Go.Proofs.YtjkocklfnapdaaaDoor
