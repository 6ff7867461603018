/- The walks of reads and VwordReads. -/
import Derived.Test.YtjkocklfnapdaaaDoorRefParse
import Derived.Test.YtjkocklfnapdaaaDoorTells
namespace Go.Proofs.YtjkocklfnapdaaaDoor
open Go.RowKit
set_option maxRecDepth 100000
set_option maxHeartbeats 2000000

theorem both_parse (s : ByteArray) (hs : s.size ≤ 1000) : ∃ (x e : Int), (∀ w, Tab w ∧ Errs w → Calls Tryd.prog 22 #[.string s] w fun r w' => r = .returned (.tuple #[.int .u64 x, .int .i64 e]) ∧ Below w.heap.size w w') ∧
    (∀ w, Calls Tryd.prog 28 #[.string s] w fun r w' => r = .returned (.tuple #[.int .u64 x, .int .i64 e]) ∧ Below w.heap.size w w') := by
  by_cases h : ∃ m, m < 18446744073709551616 ∧ showL m = s.data.toList
  · obtain ⟨m, h1, h2⟩ := h
    exact ⟨m, 0, fun w hw => parse_yes s m w hs h1 h2.symm hw.1, fun w => rparse_any s _ w hs (.inl ⟨m, h1, h2, rfl⟩)⟩
  · have hn : ∀ m, m < 18446744073709551616 → showL m ≠ s.data.toList := fun m h1 h2 => h ⟨m, h1, h2⟩
    exact ⟨0, 7, fun w hw => parse_no s w hs hn hw.1 hw.2, fun w => rparse_any s _ w hs (.inr ⟨hn, rfl⟩)⟩

theorem reads_any (s : ByteArray) (w : World) (hs : s.size ≤ 1000) (hw : Tab w ∧ Errs w) :
    Calls Tryd.prog 12 #[.string s] w fun e w' => e = .returned (.bool true) ∧ Below w.heap.size w w' := by
  obtain ⟨x, e, h1, h2⟩ := both_parse s hs
  have A1 := Lib.hid h1
  have A2 := Lib.hid h2
  have HW := Lib.hid hw
  clear h1 h2 hs hw
  go_enter Tryd.func12, Tryd.ntmps12
  go_wp2_with fail
  refine (A1.out _ HW.out).mono ?_
  rintro r w1 ⟨rfl, hb1⟩
  go_wp2_with fail
  refine (A2.out _).mono ?_
  rintro r w2 ⟨rfl, hb2⟩
  go_wp2_with fail
  go_ret
  exact ⟨rfl, Below.step hb1 hb2⟩

theorem vwordReads_walk (s : ByteArray) (w : World) (hl : s.size ≤ maxLen) (hw : Tab w ∧ Errs w) :
    Calls Tryd.prog 4 #[.string s] w fun e w' => e = .returned (.bool true) ∧ Below w.heap.size w w' := by
  have HW := Lib.hid hw
  clear hw
  unfold maxLen at hl
  by_cases hs : s.size ≤ 1000
  · go_enter Tryd.func4, Tryd.ntmps4
    go_wp2_with fail
    refine (reads_any s _ hs HW.out).mono ?_
    rintro r w1 ⟨rfl, hb1⟩
    go_wp2_with fail
    refine (awake_any _ (HW.out.1.on hb1)).mono ?_
    rintro r w2 ⟨rfl, hb2⟩
    go_wp2_with fail
    go_ret
    exact ⟨rfl, Below.step hb1 hb2⟩
  · go_enter Tryd.func4, Tryd.ntmps4
    go_wp2_with fail
    refine (awake_any _ HW.out.1).mono ?_
    rintro r w2 ⟨rfl, hb2⟩
    go_wp2_with fail
    go_ret
    exact ⟨rfl, hb2⟩

end Go.Proofs.YtjkocklfnapdaaaDoor
