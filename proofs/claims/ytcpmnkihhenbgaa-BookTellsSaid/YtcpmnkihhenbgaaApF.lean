/- Lists that lie apart: nothing of the other kinds. -/
import Derived.Test.YtcpmnkihhenbgaaApD
namespace Go.Proofs.Ytcpmnkihhenbgaa
open Go.RowKit Go.Shelf
set_option maxRecDepth 1000000
set_option maxHeartbeats 4000000

theorem flatLimbs_none (W0 : World) : Calls Try.prog 56 #[.slice none 0 0] W0 fun e w' => e = .returned (.bool true) ∧ Below W0.heap.size W0 w' := by
  have hinf : (Try.prog.info? 138).map (fun i => (i.zero, i.size, i.bytes)) = some (some (.slice none 0 0), 1, 24) := by kernel_rfl
  have hmk : ∀ w : World, (Instr.makeSlice 86 (.int .i64 0) (.int .i64 0)).run Try.prog w = .ok (.slice (some ⟨w.heap.size, 0, none⟩) 0 0) (w.alloc (.cells (madeCells #[.slice none 0 0] 0) 138)) := fun w =>
    run_make_row' (P := Try.prog) 86 138 (.slice none 0 0) 24 Try.underlying86 hinf rfl .i64 .i64 0 (by omega) (by omega) w
  clear hinf
  go_enter Try.func56, Try.ntmps56
  go_wp2_with fail
  go_loopw [3] (fun kv wr => kv = .int .i64 0 ∧ Below W0.heap.size W0 wr) (fun _ _ => 0)
  case atStart => exact ⟨rfl, Below.refl _ _⟩
  case round =>
    obtain ⟨rfl, hb0⟩ := hrel
    have HB0 := Lib.hid hb0
    clear hb0
    go_wp2_with fail
    go_loopw [6] (fun kv wr => kv = .int .i64 0 ∧ Below W0.heap.size W0 wr) (fun _ _ => 0)
    case atStart => exact ⟨rfl, Below.new HB0.out _⟩
    case round =>
      obtain ⟨rfl, hb⟩ := hrel
      have HB := Lib.hid hb
      clear hb
      go_wp2_with fail
      go_loopw [9] (fun kv wr => kv = .int .i64 0 ∧ Below W0.heap.size W0 wr) (fun _ _ => 0)
      case atStart => exact ⟨rfl, HB.out⟩
      case round =>
        obtain ⟨rfl, hb⟩ := hrel
        clear HB
        have HB := Lib.hid hb
        clear hb
        go_wp2_with fail
        go_loopw [11] (fun kv wr => kv = .int .i64 0 ∧ Below W0.heap.size W0 wr) (fun _ _ => 0)
        case atStart => exact ⟨rfl, HB.out⟩
        case round =>
          obtain ⟨rfl, hb⟩ := hrel
          clear HB
          have HB := Lib.hid hb
          clear hb
          go_wp2_with fail
          go_loopw [14] (fun kv wr => kv = .int .i64 0 ∧ Below W0.heap.size W0 wr) (fun _ _ => 0)
          case atStart => exact ⟨rfl, HB.out⟩
          case round =>
            obtain ⟨rfl, hb⟩ := hrel
            clear HB
            have HB := Lib.hid hb
            clear hb
            go_wp2_with fail
            go_ret
            exact ⟨rfl, HB.out⟩
theorem flatWords_none (W0 : World) : Calls Try.prog 57 #[.slice none 0 0] W0 fun e w' => e = .returned (.bool true) ∧ Below W0.heap.size W0 w' := by
  have hinf : (Try.prog.info? 140).map (fun i => (i.zero, i.size, i.bytes)) = some (some (.slice none 0 0), 1, 24) := by kernel_rfl
  have hmk : ∀ w : World, (Instr.makeSlice 87 (.int .i64 0) (.int .i64 0)).run Try.prog w = .ok (.slice (some ⟨w.heap.size, 0, none⟩) 0 0) (w.alloc (.cells (madeCells #[.slice none 0 0] 0) 140)) := fun w =>
    run_make_row' (P := Try.prog) 87 140 (.slice none 0 0) 24 Try.underlying87 hinf rfl .i64 .i64 0 (by omega) (by omega) w
  clear hinf
  go_enter Try.func57, Try.ntmps57
  go_wp2_with fail
  go_loopw [3] (fun kv wr => kv = .int .i64 0 ∧ Below W0.heap.size W0 wr) (fun _ _ => 0)
  case atStart => exact ⟨rfl, Below.refl _ _⟩
  case round =>
    obtain ⟨rfl, hb0⟩ := hrel
    have HB0 := Lib.hid hb0
    clear hb0
    go_wp2_with fail
    go_loopw [6] (fun kv wr => kv = .int .i64 0 ∧ Below W0.heap.size W0 wr) (fun _ _ => 0)
    case atStart => exact ⟨rfl, Below.new HB0.out _⟩
    case round =>
      obtain ⟨rfl, hb⟩ := hrel
      have HB := Lib.hid hb
      clear hb
      go_wp2_with fail
      go_loopw [9] (fun kv wr => kv = .int .i64 0 ∧ Below W0.heap.size W0 wr) (fun _ _ => 0)
      case atStart => exact ⟨rfl, HB.out⟩
      case round =>
        obtain ⟨rfl, hb⟩ := hrel
        clear HB
        have HB := Lib.hid hb
        clear hb
        go_wp2_with fail
        go_loopw [11] (fun kv wr => kv = .int .i64 0 ∧ Below W0.heap.size W0 wr) (fun _ _ => 0)
        case atStart => exact ⟨rfl, HB.out⟩
        case round =>
          obtain ⟨rfl, hb⟩ := hrel
          clear HB
          have HB := Lib.hid hb
          clear hb
          go_wp2_with fail
          go_loopw [14] (fun kv wr => kv = .int .i64 0 ∧ Below W0.heap.size W0 wr) (fun _ _ => 0)
          case atStart => exact ⟨rfl, HB.out⟩
          case round =>
            obtain ⟨rfl, hb⟩ := hrel
            clear HB
            have HB := Lib.hid hb
            clear hb
            go_wp2_with fail
            go_ret
            exact ⟨rfl, HB.out⟩
theorem flatInts_none (W0 : World) : Calls Try.prog 58 #[.slice none 0 0] W0 fun e w' => e = .returned (.bool true) ∧ Below W0.heap.size W0 w' := by
  have hinf : (Try.prog.info? 52).map (fun i => (i.zero, i.size, i.bytes)) = some (some (.slice none 0 0), 1, 24) := by kernel_rfl
  have hmk : ∀ w : World, (Instr.makeSlice 88 (.int .i64 0) (.int .i64 0)).run Try.prog w = .ok (.slice (some ⟨w.heap.size, 0, none⟩) 0 0) (w.alloc (.cells (madeCells #[.slice none 0 0] 0) 52)) := fun w =>
    run_make_row' (P := Try.prog) 88 52 (.slice none 0 0) 24 Try.underlying88 hinf rfl .i64 .i64 0 (by omega) (by omega) w
  clear hinf
  go_enter Try.func58, Try.ntmps58
  go_wp2_with fail
  go_loopw [3] (fun kv wr => kv = .int .i64 0 ∧ Below W0.heap.size W0 wr) (fun _ _ => 0)
  case atStart => exact ⟨rfl, Below.refl _ _⟩
  case round =>
    obtain ⟨rfl, hb0⟩ := hrel
    have HB0 := Lib.hid hb0
    clear hb0
    go_wp2_with fail
    go_loopw [6] (fun kv wr => kv = .int .i64 0 ∧ Below W0.heap.size W0 wr) (fun _ _ => 0)
    case atStart => exact ⟨rfl, Below.new HB0.out _⟩
    case round =>
      obtain ⟨rfl, hb⟩ := hrel
      have HB := Lib.hid hb
      clear hb
      go_wp2_with fail
      go_loopw [9] (fun kv wr => kv = .int .i64 0 ∧ Below W0.heap.size W0 wr) (fun _ _ => 0)
      case atStart => exact ⟨rfl, HB.out⟩
      case round =>
        obtain ⟨rfl, hb⟩ := hrel
        clear HB
        have HB := Lib.hid hb
        clear hb
        go_wp2_with fail
        go_loopw [11] (fun kv wr => kv = .int .i64 0 ∧ Below W0.heap.size W0 wr) (fun _ _ => 0)
        case atStart => exact ⟨rfl, HB.out⟩
        case round =>
          obtain ⟨rfl, hb⟩ := hrel
          clear HB
          have HB := Lib.hid hb
          clear hb
          go_wp2_with fail
          go_loopw [14] (fun kv wr => kv = .int .i64 0 ∧ Below W0.heap.size W0 wr) (fun _ _ => 0)
          case atStart => exact ⟨rfl, HB.out⟩
          case round =>
            obtain ⟨rfl, hb⟩ := hrel
            clear HB
            have HB := Lib.hid hb
            clear hb
            go_wp2_with fail
            go_ret
            exact ⟨rfl, HB.out⟩
theorem flatLongs_none (W0 : World) : Calls Try.prog 59 #[.slice none 0 0] W0 fun e w' => e = .returned (.bool true) ∧ Below W0.heap.size W0 w' := by
  have hinf : (Try.prog.info? 141).map (fun i => (i.zero, i.size, i.bytes)) = some (some (.slice none 0 0), 1, 24) := by kernel_rfl
  have hmk : ∀ w : World, (Instr.makeSlice 89 (.int .i64 0) (.int .i64 0)).run Try.prog w = .ok (.slice (some ⟨w.heap.size, 0, none⟩) 0 0) (w.alloc (.cells (madeCells #[.slice none 0 0] 0) 141)) := fun w =>
    run_make_row' (P := Try.prog) 89 141 (.slice none 0 0) 24 Try.underlying89 hinf rfl .i64 .i64 0 (by omega) (by omega) w
  clear hinf
  go_enter Try.func59, Try.ntmps59
  go_wp2_with fail
  go_loopw [3] (fun kv wr => kv = .int .i64 0 ∧ Below W0.heap.size W0 wr) (fun _ _ => 0)
  case atStart => exact ⟨rfl, Below.refl _ _⟩
  case round =>
    obtain ⟨rfl, hb0⟩ := hrel
    have HB0 := Lib.hid hb0
    clear hb0
    go_wp2_with fail
    go_loopw [6] (fun kv wr => kv = .int .i64 0 ∧ Below W0.heap.size W0 wr) (fun _ _ => 0)
    case atStart => exact ⟨rfl, Below.new HB0.out _⟩
    case round =>
      obtain ⟨rfl, hb⟩ := hrel
      have HB := Lib.hid hb
      clear hb
      go_wp2_with fail
      go_loopw [9] (fun kv wr => kv = .int .i64 0 ∧ Below W0.heap.size W0 wr) (fun _ _ => 0)
      case atStart => exact ⟨rfl, HB.out⟩
      case round =>
        obtain ⟨rfl, hb⟩ := hrel
        clear HB
        have HB := Lib.hid hb
        clear hb
        go_wp2_with fail
        go_loopw [11] (fun kv wr => kv = .int .i64 0 ∧ Below W0.heap.size W0 wr) (fun _ _ => 0)
        case atStart => exact ⟨rfl, HB.out⟩
        case round =>
          obtain ⟨rfl, hb⟩ := hrel
          clear HB
          have HB := Lib.hid hb
          clear hb
          go_wp2_with fail
          go_loopw [14] (fun kv wr => kv = .int .i64 0 ∧ Below W0.heap.size W0 wr) (fun _ _ => 0)
          case atStart => exact ⟨rfl, HB.out⟩
          case round =>
            obtain ⟨rfl, hb⟩ := hrel
            clear HB
            have HB := Lib.hid hb
            clear hb
            go_wp2_with fail
            go_ret
            exact ⟨rfl, HB.out⟩
theorem flatTexts_none (W0 : World) : Calls Try.prog 60 #[.slice none 0 0] W0 fun e w' => e = .returned (.bool true) ∧ Below W0.heap.size W0 w' := by
  have hinf : (Try.prog.info? 69).map (fun i => (i.zero, i.size, i.bytes)) = some (some (.slice none 0 0), 1, 24) := by kernel_rfl
  have hmk : ∀ w : World, (Instr.makeSlice 90 (.int .i64 0) (.int .i64 0)).run Try.prog w = .ok (.slice (some ⟨w.heap.size, 0, none⟩) 0 0) (w.alloc (.cells (madeCells #[.slice none 0 0] 0) 69)) := fun w =>
    run_make_row' (P := Try.prog) 90 69 (.slice none 0 0) 24 Try.underlying90 hinf rfl .i64 .i64 0 (by omega) (by omega) w
  clear hinf
  go_enter Try.func60, Try.ntmps60
  go_wp2_with fail
  go_loopw [3] (fun kv wr => kv = .int .i64 0 ∧ Below W0.heap.size W0 wr) (fun _ _ => 0)
  case atStart => exact ⟨rfl, Below.refl _ _⟩
  case round =>
    obtain ⟨rfl, hb0⟩ := hrel
    have HB0 := Lib.hid hb0
    clear hb0
    go_wp2_with fail
    go_loopw [6] (fun kv wr => kv = .int .i64 0 ∧ Below W0.heap.size W0 wr) (fun _ _ => 0)
    case atStart => exact ⟨rfl, Below.new HB0.out _⟩
    case round =>
      obtain ⟨rfl, hb⟩ := hrel
      have HB := Lib.hid hb
      clear hb
      go_wp2_with fail
      go_loopw [9] (fun kv wr => kv = .int .i64 0 ∧ Below W0.heap.size W0 wr) (fun _ _ => 0)
      case atStart => exact ⟨rfl, HB.out⟩
      case round =>
        obtain ⟨rfl, hb⟩ := hrel
        clear HB
        have HB := Lib.hid hb
        clear hb
        go_wp2_with fail
        go_loopw [11] (fun kv wr => kv = .int .i64 0 ∧ Below W0.heap.size W0 wr) (fun _ _ => 0)
        case atStart => exact ⟨rfl, HB.out⟩
        case round =>
          obtain ⟨rfl, hb⟩ := hrel
          clear HB
          have HB := Lib.hid hb
          clear hb
          go_wp2_with fail
          go_loopw [14] (fun kv wr => kv = .int .i64 0 ∧ Below W0.heap.size W0 wr) (fun _ _ => 0)
          case atStart => exact ⟨rfl, HB.out⟩
          case round =>
            obtain ⟨rfl, hb⟩ := hrel
            clear HB
            have HB := Lib.hid hb
            clear hb
            go_wp2_with fail
            go_ret
            exact ⟨rfl, HB.out⟩
theorem flatBytes_none (W0 : World) : Calls Try.prog 61 #[.slice none 0 0] W0 fun e w' => e = .returned (.bool true) ∧ Below W0.heap.size W0 w' := by
  have hinf : (Try.prog.info? 51).map (fun i => (i.zero, i.size, i.bytes)) = some (some (.slice none 0 0), 1, 24) := by kernel_rfl
  have hmk : ∀ w : World, (Instr.makeSlice 91 (.int .i64 0) (.int .i64 0)).run Try.prog w = .ok (.slice (some ⟨w.heap.size, 0, none⟩) 0 0) (w.alloc (.cells (madeCells #[.slice none 0 0] 0) 51)) := fun w =>
    run_make_row' (P := Try.prog) 91 51 (.slice none 0 0) 24 Try.underlying91 hinf rfl .i64 .i64 0 (by omega) (by omega) w
  clear hinf
  go_enter Try.func61, Try.ntmps61
  go_wp2_with fail
  go_loopw [3] (fun kv wr => kv = .int .i64 0 ∧ Below W0.heap.size W0 wr) (fun _ _ => 0)
  case atStart => exact ⟨rfl, Below.refl _ _⟩
  case round =>
    obtain ⟨rfl, hb0⟩ := hrel
    have HB0 := Lib.hid hb0
    clear hb0
    go_wp2_with fail
    go_loopw [6] (fun kv wr => kv = .int .i64 0 ∧ Below W0.heap.size W0 wr) (fun _ _ => 0)
    case atStart => exact ⟨rfl, Below.new HB0.out _⟩
    case round =>
      obtain ⟨rfl, hb⟩ := hrel
      have HB := Lib.hid hb
      clear hb
      go_wp2_with fail
      go_loopw [9] (fun kv wr => kv = .int .i64 0 ∧ Below W0.heap.size W0 wr) (fun _ _ => 0)
      case atStart => exact ⟨rfl, HB.out⟩
      case round =>
        obtain ⟨rfl, hb⟩ := hrel
        clear HB
        have HB := Lib.hid hb
        clear hb
        go_wp2_with fail
        go_loopw [11] (fun kv wr => kv = .int .i64 0 ∧ Below W0.heap.size W0 wr) (fun _ _ => 0)
        case atStart => exact ⟨rfl, HB.out⟩
        case round =>
          obtain ⟨rfl, hb⟩ := hrel
          clear HB
          have HB := Lib.hid hb
          clear hb
          go_wp2_with fail
          go_loopw [14] (fun kv wr => kv = .int .i64 0 ∧ Below W0.heap.size W0 wr) (fun _ _ => 0)
          case atStart => exact ⟨rfl, HB.out⟩
          case round =>
            obtain ⟨rfl, hb⟩ := hrel
            clear HB
            have HB := Lib.hid hb
            clear hb
            go_wp2_with fail
            go_ret
            exact ⟨rfl, HB.out⟩
theorem flatTruths_none (W0 : World) : Calls Try.prog 62 #[.slice none 0 0] W0 fun e w' => e = .returned (.bool true) ∧ Below W0.heap.size W0 w' := by
  have hinf : (Try.prog.info? 144).map (fun i => (i.zero, i.size, i.bytes)) = some (some (.slice none 0 0), 1, 24) := by kernel_rfl
  have hmk : ∀ w : World, (Instr.makeSlice 92 (.int .i64 0) (.int .i64 0)).run Try.prog w = .ok (.slice (some ⟨w.heap.size, 0, none⟩) 0 0) (w.alloc (.cells (madeCells #[.slice none 0 0] 0) 144)) := fun w =>
    run_make_row' (P := Try.prog) 92 144 (.slice none 0 0) 24 Try.underlying92 hinf rfl .i64 .i64 0 (by omega) (by omega) w
  clear hinf
  go_enter Try.func62, Try.ntmps62
  go_wp2_with fail
  go_loopw [3] (fun kv wr => kv = .int .i64 0 ∧ Below W0.heap.size W0 wr) (fun _ _ => 0)
  case atStart => exact ⟨rfl, Below.refl _ _⟩
  case round =>
    obtain ⟨rfl, hb0⟩ := hrel
    have HB0 := Lib.hid hb0
    clear hb0
    go_wp2_with fail
    go_loopw [6] (fun kv wr => kv = .int .i64 0 ∧ Below W0.heap.size W0 wr) (fun _ _ => 0)
    case atStart => exact ⟨rfl, Below.new HB0.out _⟩
    case round =>
      obtain ⟨rfl, hb⟩ := hrel
      have HB := Lib.hid hb
      clear hb
      go_wp2_with fail
      go_loopw [9] (fun kv wr => kv = .int .i64 0 ∧ Below W0.heap.size W0 wr) (fun _ _ => 0)
      case atStart => exact ⟨rfl, HB.out⟩
      case round =>
        obtain ⟨rfl, hb⟩ := hrel
        clear HB
        have HB := Lib.hid hb
        clear hb
        go_wp2_with fail
        go_loopw [11] (fun kv wr => kv = .int .i64 0 ∧ Below W0.heap.size W0 wr) (fun _ _ => 0)
        case atStart => exact ⟨rfl, HB.out⟩
        case round =>
          obtain ⟨rfl, hb⟩ := hrel
          clear HB
          have HB := Lib.hid hb
          clear hb
          go_wp2_with fail
          go_loopw [14] (fun kv wr => kv = .int .i64 0 ∧ Below W0.heap.size W0 wr) (fun _ _ => 0)
          case atStart => exact ⟨rfl, HB.out⟩
          case round =>
            obtain ⟨rfl, hb⟩ := hrel
            clear HB
            have HB := Lib.hid hb
            clear hb
            go_wp2_with fail
            go_ret
            exact ⟨rfl, HB.out⟩
theorem flatRefs_none (W0 : World) : Calls Try.prog 63 #[.slice none 0 0] W0 fun e w' => e = .returned (.bool true) ∧ Below W0.heap.size W0 w' := by
  have hinf : (Try.prog.info? 145).map (fun i => (i.zero, i.size, i.bytes)) = some (some (.slice none 0 0), 1, 24) := by kernel_rfl
  have hmk : ∀ w : World, (Instr.makeSlice 93 (.int .i64 0) (.int .i64 0)).run Try.prog w = .ok (.slice (some ⟨w.heap.size, 0, none⟩) 0 0) (w.alloc (.cells (madeCells #[.slice none 0 0] 0) 145)) := fun w =>
    run_make_row' (P := Try.prog) 93 145 (.slice none 0 0) 24 Try.underlying93 hinf rfl .i64 .i64 0 (by omega) (by omega) w
  clear hinf
  go_enter Try.func63, Try.ntmps63
  go_wp2_with fail
  go_loopw [3] (fun kv wr => kv = .int .i64 0 ∧ Below W0.heap.size W0 wr) (fun _ _ => 0)
  case atStart => exact ⟨rfl, Below.refl _ _⟩
  case round =>
    obtain ⟨rfl, hb0⟩ := hrel
    have HB0 := Lib.hid hb0
    clear hb0
    go_wp2_with fail
    go_loopw [6] (fun kv wr => kv = .int .i64 0 ∧ Below W0.heap.size W0 wr) (fun _ _ => 0)
    case atStart => exact ⟨rfl, Below.new HB0.out _⟩
    case round =>
      obtain ⟨rfl, hb⟩ := hrel
      have HB := Lib.hid hb
      clear hb
      go_wp2_with fail
      go_loopw [9] (fun kv wr => kv = .int .i64 0 ∧ Below W0.heap.size W0 wr) (fun _ _ => 0)
      case atStart => exact ⟨rfl, HB.out⟩
      case round =>
        obtain ⟨rfl, hb⟩ := hrel
        clear HB
        have HB := Lib.hid hb
        clear hb
        go_wp2_with fail
        go_loopw [11] (fun kv wr => kv = .int .i64 0 ∧ Below W0.heap.size W0 wr) (fun _ _ => 0)
        case atStart => exact ⟨rfl, HB.out⟩
        case round =>
          obtain ⟨rfl, hb⟩ := hrel
          clear HB
          have HB := Lib.hid hb
          clear hb
          go_wp2_with fail
          go_loopw [14] (fun kv wr => kv = .int .i64 0 ∧ Below W0.heap.size W0 wr) (fun _ _ => 0)
          case atStart => exact ⟨rfl, HB.out⟩
          case round =>
            obtain ⟨rfl, hb⟩ := hrel
            clear HB
            have HB := Lib.hid hb
            clear hb
            go_wp2_with fail
            go_ret
            exact ⟨rfl, HB.out⟩
theorem flatNodes_none (W0 : World) : Calls Try.prog 65 #[.slice none 0 0] W0 fun e w' => e = .returned (.bool true) ∧ Below W0.heap.size W0 w' := by
  have hinf : (Try.prog.info? 150).map (fun i => (i.zero, i.size, i.bytes)) = some (some (.slice none 0 0), 1, 24) := by kernel_rfl
  have hmk : ∀ w : World, (Instr.makeSlice 94 (.int .i64 0) (.int .i64 0)).run Try.prog w = .ok (.slice (some ⟨w.heap.size, 0, none⟩) 0 0) (w.alloc (.cells (madeCells #[.slice none 0 0] 0) 150)) := fun w =>
    run_make_row' (P := Try.prog) 94 150 (.slice none 0 0) 24 Try.underlying94 hinf rfl .i64 .i64 0 (by omega) (by omega) w
  clear hinf
  go_enter Try.func65, Try.ntmps65
  go_wp2_with fail
  go_loopw [3] (fun kv wr => kv = .int .i64 0 ∧ Below W0.heap.size W0 wr) (fun _ _ => 0)
  case atStart => exact ⟨rfl, Below.refl _ _⟩
  case round =>
    obtain ⟨rfl, hb0⟩ := hrel
    have HB0 := Lib.hid hb0
    clear hb0
    go_wp2_with fail
    go_loopw [6] (fun kv wr => kv = .int .i64 0 ∧ Below W0.heap.size W0 wr) (fun _ _ => 0)
    case atStart => exact ⟨rfl, Below.new HB0.out _⟩
    case round =>
      obtain ⟨rfl, hb⟩ := hrel
      have HB := Lib.hid hb
      clear hb
      go_wp2_with fail
      go_loopw [9] (fun kv wr => kv = .int .i64 0 ∧ Below W0.heap.size W0 wr) (fun _ _ => 0)
      case atStart => exact ⟨rfl, HB.out⟩
      case round =>
        obtain ⟨rfl, hb⟩ := hrel
        clear HB
        have HB := Lib.hid hb
        clear hb
        go_wp2_with fail
        go_loopw [11] (fun kv wr => kv = .int .i64 0 ∧ Below W0.heap.size W0 wr) (fun _ _ => 0)
        case atStart => exact ⟨rfl, HB.out⟩
        case round =>
          obtain ⟨rfl, hb⟩ := hrel
          clear HB
          have HB := Lib.hid hb
          clear hb
          go_wp2_with fail
          go_loopw [14] (fun kv wr => kv = .int .i64 0 ∧ Below W0.heap.size W0 wr) (fun _ _ => 0)
          case atStart => exact ⟨rfl, HB.out⟩
          case round =>
            obtain ⟨rfl, hb⟩ := hrel
            clear HB
            have HB := Lib.hid hb
            clear hb
            go_wp2_with fail
            go_ret
            exact ⟨rfl, HB.out⟩
theorem flatBounds_none (W0 : World) : Calls Try.prog 66 #[.slice none 0 0] W0 fun e w' => e = .returned (.bool true) ∧ Below W0.heap.size W0 w' := by
  have hinf : (Try.prog.info? 156).map (fun i => (i.zero, i.size, i.bytes)) = some (some (.slice none 0 0), 1, 24) := by kernel_rfl
  have hmk : ∀ w : World, (Instr.makeSlice 95 (.int .i64 0) (.int .i64 0)).run Try.prog w = .ok (.slice (some ⟨w.heap.size, 0, none⟩) 0 0) (w.alloc (.cells (madeCells #[.slice none 0 0] 0) 156)) := fun w =>
    run_make_row' (P := Try.prog) 95 156 (.slice none 0 0) 24 Try.underlying95 hinf rfl .i64 .i64 0 (by omega) (by omega) w
  clear hinf
  go_enter Try.func66, Try.ntmps66
  go_wp2_with fail
  go_loopw [3] (fun kv wr => kv = .int .i64 0 ∧ Below W0.heap.size W0 wr) (fun _ _ => 0)
  case atStart => exact ⟨rfl, Below.refl _ _⟩
  case round =>
    obtain ⟨rfl, hb0⟩ := hrel
    have HB0 := Lib.hid hb0
    clear hb0
    go_wp2_with fail
    go_loopw [6] (fun kv wr => kv = .int .i64 0 ∧ Below W0.heap.size W0 wr) (fun _ _ => 0)
    case atStart => exact ⟨rfl, Below.new HB0.out _⟩
    case round =>
      obtain ⟨rfl, hb⟩ := hrel
      have HB := Lib.hid hb
      clear hb
      go_wp2_with fail
      go_loopw [9] (fun kv wr => kv = .int .i64 0 ∧ Below W0.heap.size W0 wr) (fun _ _ => 0)
      case atStart => exact ⟨rfl, HB.out⟩
      case round =>
        obtain ⟨rfl, hb⟩ := hrel
        clear HB
        have HB := Lib.hid hb
        clear hb
        go_wp2_with fail
        go_loopw [11] (fun kv wr => kv = .int .i64 0 ∧ Below W0.heap.size W0 wr) (fun _ _ => 0)
        case atStart => exact ⟨rfl, HB.out⟩
        case round =>
          obtain ⟨rfl, hb⟩ := hrel
          clear HB
          have HB := Lib.hid hb
          clear hb
          go_wp2_with fail
          go_loopw [14] (fun kv wr => kv = .int .i64 0 ∧ Below W0.heap.size W0 wr) (fun _ _ => 0)
          case atStart => exact ⟨rfl, HB.out⟩
          case round =>
            obtain ⟨rfl, hb⟩ := hrel
            clear HB
            have HB := Lib.hid hb
            clear hb
            go_wp2_with fail
            go_ret
            exact ⟨rfl, HB.out⟩
theorem flatHandles_none (W0 : World) : Calls Try.prog 67 #[.slice none 0 0] W0 fun e w' => e = .returned (.bool true) ∧ Below W0.heap.size W0 w' := by
  have hinf : (Try.prog.info? 158).map (fun i => (i.zero, i.size, i.bytes)) = some (some (.slice none 0 0), 1, 24) := by kernel_rfl
  have hmk : ∀ w : World, (Instr.makeSlice 96 (.int .i64 0) (.int .i64 0)).run Try.prog w = .ok (.slice (some ⟨w.heap.size, 0, none⟩) 0 0) (w.alloc (.cells (madeCells #[.slice none 0 0] 0) 158)) := fun w =>
    run_make_row' (P := Try.prog) 96 158 (.slice none 0 0) 24 Try.underlying96 hinf rfl .i64 .i64 0 (by omega) (by omega) w
  clear hinf
  go_enter Try.func67, Try.ntmps67
  go_wp2_with fail
  go_loopw [3] (fun kv wr => kv = .int .i64 0 ∧ Below W0.heap.size W0 wr) (fun _ _ => 0)
  case atStart => exact ⟨rfl, Below.refl _ _⟩
  case round =>
    obtain ⟨rfl, hb0⟩ := hrel
    have HB0 := Lib.hid hb0
    clear hb0
    go_wp2_with fail
    go_loopw [6] (fun kv wr => kv = .int .i64 0 ∧ Below W0.heap.size W0 wr) (fun _ _ => 0)
    case atStart => exact ⟨rfl, Below.new HB0.out _⟩
    case round =>
      obtain ⟨rfl, hb⟩ := hrel
      have HB := Lib.hid hb
      clear hb
      go_wp2_with fail
      go_loopw [9] (fun kv wr => kv = .int .i64 0 ∧ Below W0.heap.size W0 wr) (fun _ _ => 0)
      case atStart => exact ⟨rfl, HB.out⟩
      case round =>
        obtain ⟨rfl, hb⟩ := hrel
        clear HB
        have HB := Lib.hid hb
        clear hb
        go_wp2_with fail
        go_loopw [11] (fun kv wr => kv = .int .i64 0 ∧ Below W0.heap.size W0 wr) (fun _ _ => 0)
        case atStart => exact ⟨rfl, HB.out⟩
        case round =>
          obtain ⟨rfl, hb⟩ := hrel
          clear HB
          have HB := Lib.hid hb
          clear hb
          go_wp2_with fail
          go_loopw [14] (fun kv wr => kv = .int .i64 0 ∧ Below W0.heap.size W0 wr) (fun _ _ => 0)
          case atStart => exact ⟨rfl, HB.out⟩
          case round =>
            obtain ⟨rfl, hb⟩ := hrel
            clear HB
            have HB := Lib.hid hb
            clear hb
            go_wp2_with fail
            go_ret
            exact ⟨rfl, HB.out⟩
theorem flatRequests_none (W0 : World) : Calls Try.prog 68 #[.slice none 0 0] W0 fun e w' => e = .returned (.bool true) ∧ Below W0.heap.size W0 w' := by
  have hinf : (Try.prog.info? 163).map (fun i => (i.zero, i.size, i.bytes)) = some (some (.slice none 0 0), 1, 24) := by kernel_rfl
  have hmk : ∀ w : World, (Instr.makeSlice 97 (.int .i64 0) (.int .i64 0)).run Try.prog w = .ok (.slice (some ⟨w.heap.size, 0, none⟩) 0 0) (w.alloc (.cells (madeCells #[.slice none 0 0] 0) 163)) := fun w =>
    run_make_row' (P := Try.prog) 97 163 (.slice none 0 0) 24 Try.underlying97 hinf rfl .i64 .i64 0 (by omega) (by omega) w
  clear hinf
  go_enter Try.func68, Try.ntmps68
  go_wp2_with fail
  go_loopw [3] (fun kv wr => kv = .int .i64 0 ∧ Below W0.heap.size W0 wr) (fun _ _ => 0)
  case atStart => exact ⟨rfl, Below.refl _ _⟩
  case round =>
    obtain ⟨rfl, hb0⟩ := hrel
    have HB0 := Lib.hid hb0
    clear hb0
    go_wp2_with fail
    go_loopw [6] (fun kv wr => kv = .int .i64 0 ∧ Below W0.heap.size W0 wr) (fun _ _ => 0)
    case atStart => exact ⟨rfl, Below.new HB0.out _⟩
    case round =>
      obtain ⟨rfl, hb⟩ := hrel
      have HB := Lib.hid hb
      clear hb
      go_wp2_with fail
      go_loopw [9] (fun kv wr => kv = .int .i64 0 ∧ Below W0.heap.size W0 wr) (fun _ _ => 0)
      case atStart => exact ⟨rfl, HB.out⟩
      case round =>
        obtain ⟨rfl, hb⟩ := hrel
        clear HB
        have HB := Lib.hid hb
        clear hb
        go_wp2_with fail
        go_loopw [11] (fun kv wr => kv = .int .i64 0 ∧ Below W0.heap.size W0 wr) (fun _ _ => 0)
        case atStart => exact ⟨rfl, HB.out⟩
        case round =>
          obtain ⟨rfl, hb⟩ := hrel
          clear HB
          have HB := Lib.hid hb
          clear hb
          go_wp2_with fail
          go_loopw [14] (fun kv wr => kv = .int .i64 0 ∧ Below W0.heap.size W0 wr) (fun _ _ => 0)
          case atStart => exact ⟨rfl, HB.out⟩
          case round =>
            obtain ⟨rfl, hb⟩ := hrel
            clear HB
            have HB := Lib.hid hb
            clear hb
            go_wp2_with fail
            go_ret
            exact ⟨rfl, HB.out⟩
theorem flatStats_none (W0 : World) : Calls Try.prog 69 #[.slice none 0 0] W0 fun e w' => e = .returned (.bool true) ∧ Below W0.heap.size W0 w' := by
  have hinf : (Try.prog.info? 168).map (fun i => (i.zero, i.size, i.bytes)) = some (some (.slice none 0 0), 1, 24) := by kernel_rfl
  have hmk : ∀ w : World, (Instr.makeSlice 98 (.int .i64 0) (.int .i64 0)).run Try.prog w = .ok (.slice (some ⟨w.heap.size, 0, none⟩) 0 0) (w.alloc (.cells (madeCells #[.slice none 0 0] 0) 168)) := fun w =>
    run_make_row' (P := Try.prog) 98 168 (.slice none 0 0) 24 Try.underlying98 hinf rfl .i64 .i64 0 (by omega) (by omega) w
  clear hinf
  go_enter Try.func69, Try.ntmps69
  go_wp2_with fail
  go_loopw [3] (fun kv wr => kv = .int .i64 0 ∧ Below W0.heap.size W0 wr) (fun _ _ => 0)
  case atStart => exact ⟨rfl, Below.refl _ _⟩
  case round =>
    obtain ⟨rfl, hb0⟩ := hrel
    have HB0 := Lib.hid hb0
    clear hb0
    go_wp2_with fail
    go_loopw [6] (fun kv wr => kv = .int .i64 0 ∧ Below W0.heap.size W0 wr) (fun _ _ => 0)
    case atStart => exact ⟨rfl, Below.new HB0.out _⟩
    case round =>
      obtain ⟨rfl, hb⟩ := hrel
      have HB := Lib.hid hb
      clear hb
      go_wp2_with fail
      go_loopw [9] (fun kv wr => kv = .int .i64 0 ∧ Below W0.heap.size W0 wr) (fun _ _ => 0)
      case atStart => exact ⟨rfl, HB.out⟩
      case round =>
        obtain ⟨rfl, hb⟩ := hrel
        clear HB
        have HB := Lib.hid hb
        clear hb
        go_wp2_with fail
        go_loopw [11] (fun kv wr => kv = .int .i64 0 ∧ Below W0.heap.size W0 wr) (fun _ _ => 0)
        case atStart => exact ⟨rfl, HB.out⟩
        case round =>
          obtain ⟨rfl, hb⟩ := hrel
          clear HB
          have HB := Lib.hid hb
          clear hb
          go_wp2_with fail
          go_loopw [14] (fun kv wr => kv = .int .i64 0 ∧ Below W0.heap.size W0 wr) (fun _ _ => 0)
          case atStart => exact ⟨rfl, HB.out⟩
          case round =>
            obtain ⟨rfl, hb⟩ := hrel
            clear HB
            have HB := Lib.hid hb
            clear hb
            go_wp2_with fail
            go_ret
            exact ⟨rfl, HB.out⟩
theorem flatAnswers_none (W0 : World) : Calls Try.prog 70 #[.slice none 0 0] W0 fun e w' => e = .returned (.bool true) ∧ Below W0.heap.size W0 w' := by
  have hinf : (Try.prog.info? 173).map (fun i => (i.zero, i.size, i.bytes)) = some (some (.slice none 0 0), 1, 24) := by kernel_rfl
  have hmk : ∀ w : World, (Instr.makeSlice 99 (.int .i64 0) (.int .i64 0)).run Try.prog w = .ok (.slice (some ⟨w.heap.size, 0, none⟩) 0 0) (w.alloc (.cells (madeCells #[.slice none 0 0] 0) 173)) := fun w =>
    run_make_row' (P := Try.prog) 99 173 (.slice none 0 0) 24 Try.underlying99 hinf rfl .i64 .i64 0 (by omega) (by omega) w
  clear hinf
  go_enter Try.func70, Try.ntmps70
  go_wp2_with fail
  go_loopw [3] (fun kv wr => kv = .int .i64 0 ∧ Below W0.heap.size W0 wr) (fun _ _ => 0)
  case atStart => exact ⟨rfl, Below.refl _ _⟩
  case round =>
    obtain ⟨rfl, hb0⟩ := hrel
    have HB0 := Lib.hid hb0
    clear hb0
    go_wp2_with fail
    go_loopw [6] (fun kv wr => kv = .int .i64 0 ∧ Below W0.heap.size W0 wr) (fun _ _ => 0)
    case atStart => exact ⟨rfl, Below.new HB0.out _⟩
    case round =>
      obtain ⟨rfl, hb⟩ := hrel
      have HB := Lib.hid hb
      clear hb
      go_wp2_with fail
      go_loopw [9] (fun kv wr => kv = .int .i64 0 ∧ Below W0.heap.size W0 wr) (fun _ _ => 0)
      case atStart => exact ⟨rfl, HB.out⟩
      case round =>
        obtain ⟨rfl, hb⟩ := hrel
        clear HB
        have HB := Lib.hid hb
        clear hb
        go_wp2_with fail
        go_loopw [11] (fun kv wr => kv = .int .i64 0 ∧ Below W0.heap.size W0 wr) (fun _ _ => 0)
        case atStart => exact ⟨rfl, HB.out⟩
        case round =>
          obtain ⟨rfl, hb⟩ := hrel
          clear HB
          have HB := Lib.hid hb
          clear hb
          go_wp2_with fail
          go_loopw [14] (fun kv wr => kv = .int .i64 0 ∧ Below W0.heap.size W0 wr) (fun _ _ => 0)
          case atStart => exact ⟨rfl, HB.out⟩
          case round =>
            obtain ⟨rfl, hb⟩ := hrel
            clear HB
            have HB := Lib.hid hb
            clear hb
            go_wp2_with fail
            go_ret
            exact ⟨rfl, HB.out⟩
theorem flatEntries_none (W0 : World) : Calls Try.prog 71 #[.slice none 0 0] W0 fun e w' => e = .returned (.bool true) ∧ Below W0.heap.size W0 w' := by
  have hinf : (Try.prog.info? 178).map (fun i => (i.zero, i.size, i.bytes)) = some (some (.slice none 0 0), 1, 24) := by kernel_rfl
  have hmk : ∀ w : World, (Instr.makeSlice 100 (.int .i64 0) (.int .i64 0)).run Try.prog w = .ok (.slice (some ⟨w.heap.size, 0, none⟩) 0 0) (w.alloc (.cells (madeCells #[.slice none 0 0] 0) 178)) := fun w =>
    run_make_row' (P := Try.prog) 100 178 (.slice none 0 0) 24 Try.underlying100 hinf rfl .i64 .i64 0 (by omega) (by omega) w
  clear hinf
  go_enter Try.func71, Try.ntmps71
  go_wp2_with fail
  go_loopw [3] (fun kv wr => kv = .int .i64 0 ∧ Below W0.heap.size W0 wr) (fun _ _ => 0)
  case atStart => exact ⟨rfl, Below.refl _ _⟩
  case round =>
    obtain ⟨rfl, hb0⟩ := hrel
    have HB0 := Lib.hid hb0
    clear hb0
    go_wp2_with fail
    go_loopw [6] (fun kv wr => kv = .int .i64 0 ∧ Below W0.heap.size W0 wr) (fun _ _ => 0)
    case atStart => exact ⟨rfl, Below.new HB0.out _⟩
    case round =>
      obtain ⟨rfl, hb⟩ := hrel
      have HB := Lib.hid hb
      clear hb
      go_wp2_with fail
      go_loopw [9] (fun kv wr => kv = .int .i64 0 ∧ Below W0.heap.size W0 wr) (fun _ _ => 0)
      case atStart => exact ⟨rfl, HB.out⟩
      case round =>
        obtain ⟨rfl, hb⟩ := hrel
        clear HB
        have HB := Lib.hid hb
        clear hb
        go_wp2_with fail
        go_loopw [11] (fun kv wr => kv = .int .i64 0 ∧ Below W0.heap.size W0 wr) (fun _ _ => 0)
        case atStart => exact ⟨rfl, HB.out⟩
        case round =>
          obtain ⟨rfl, hb⟩ := hrel
          clear HB
          have HB := Lib.hid hb
          clear hb
          go_wp2_with fail
          go_loopw [14] (fun kv wr => kv = .int .i64 0 ∧ Below W0.heap.size W0 wr) (fun _ _ => 0)
          case atStart => exact ⟨rfl, HB.out⟩
          case round =>
            obtain ⟨rfl, hb⟩ := hrel
            clear HB
            have HB := Lib.hid hb
            clear hb
            go_wp2_with fail
            go_ret
            exact ⟨rfl, HB.out⟩
theorem flatScripts_none (W0 : World) : Calls Try.prog 72 #[.slice none 0 0] W0 fun e w' => e = .returned (.bool true) ∧ Below W0.heap.size W0 w' := by
  have hinf : (Try.prog.info? 182).map (fun i => (i.zero, i.size, i.bytes)) = some (some (.slice none 0 0), 1, 24) := by kernel_rfl
  have hmk : ∀ w : World, (Instr.makeSlice 101 (.int .i64 0) (.int .i64 0)).run Try.prog w = .ok (.slice (some ⟨w.heap.size, 0, none⟩) 0 0) (w.alloc (.cells (madeCells #[.slice none 0 0] 0) 182)) := fun w =>
    run_make_row' (P := Try.prog) 101 182 (.slice none 0 0) 24 Try.underlying101 hinf rfl .i64 .i64 0 (by omega) (by omega) w
  clear hinf
  go_enter Try.func72, Try.ntmps72
  go_wp2_with fail
  go_loopw [3] (fun kv wr => kv = .int .i64 0 ∧ Below W0.heap.size W0 wr) (fun _ _ => 0)
  case atStart => exact ⟨rfl, Below.refl _ _⟩
  case round =>
    obtain ⟨rfl, hb0⟩ := hrel
    have HB0 := Lib.hid hb0
    clear hb0
    go_wp2_with fail
    go_loopw [6] (fun kv wr => kv = .int .i64 0 ∧ Below W0.heap.size W0 wr) (fun _ _ => 0)
    case atStart => exact ⟨rfl, Below.new HB0.out _⟩
    case round =>
      obtain ⟨rfl, hb⟩ := hrel
      have HB := Lib.hid hb
      clear hb
      go_wp2_with fail
      go_loopw [9] (fun kv wr => kv = .int .i64 0 ∧ Below W0.heap.size W0 wr) (fun _ _ => 0)
      case atStart => exact ⟨rfl, HB.out⟩
      case round =>
        obtain ⟨rfl, hb⟩ := hrel
        clear HB
        have HB := Lib.hid hb
        clear hb
        go_wp2_with fail
        go_loopw [11] (fun kv wr => kv = .int .i64 0 ∧ Below W0.heap.size W0 wr) (fun _ _ => 0)
        case atStart => exact ⟨rfl, HB.out⟩
        case round =>
          obtain ⟨rfl, hb⟩ := hrel
          clear HB
          have HB := Lib.hid hb
          clear hb
          go_wp2_with fail
          go_loopw [14] (fun kv wr => kv = .int .i64 0 ∧ Below W0.heap.size W0 wr) (fun _ _ => 0)
          case atStart => exact ⟨rfl, HB.out⟩
          case round =>
            obtain ⟨rfl, hb⟩ := hrel
            clear HB
            have HB := Lib.hid hb
            clear hb
            go_wp2_with fail
            go_ret
            exact ⟨rfl, HB.out⟩
theorem flatDones_none (W0 : World) : Calls Try.prog 73 #[.slice none 0 0] W0 fun e w' => e = .returned (.bool true) ∧ Below W0.heap.size W0 w' := by
  have hinf : (Try.prog.info? 187).map (fun i => (i.zero, i.size, i.bytes)) = some (some (.slice none 0 0), 1, 24) := by kernel_rfl
  have hmk : ∀ w : World, (Instr.makeSlice 102 (.int .i64 0) (.int .i64 0)).run Try.prog w = .ok (.slice (some ⟨w.heap.size, 0, none⟩) 0 0) (w.alloc (.cells (madeCells #[.slice none 0 0] 0) 187)) := fun w =>
    run_make_row' (P := Try.prog) 102 187 (.slice none 0 0) 24 Try.underlying102 hinf rfl .i64 .i64 0 (by omega) (by omega) w
  clear hinf
  go_enter Try.func73, Try.ntmps73
  go_wp2_with fail
  go_loopw [3] (fun kv wr => kv = .int .i64 0 ∧ Below W0.heap.size W0 wr) (fun _ _ => 0)
  case atStart => exact ⟨rfl, Below.refl _ _⟩
  case round =>
    obtain ⟨rfl, hb0⟩ := hrel
    have HB0 := Lib.hid hb0
    clear hb0
    go_wp2_with fail
    go_loopw [6] (fun kv wr => kv = .int .i64 0 ∧ Below W0.heap.size W0 wr) (fun _ _ => 0)
    case atStart => exact ⟨rfl, Below.new HB0.out _⟩
    case round =>
      obtain ⟨rfl, hb⟩ := hrel
      have HB := Lib.hid hb
      clear hb
      go_wp2_with fail
      go_loopw [9] (fun kv wr => kv = .int .i64 0 ∧ Below W0.heap.size W0 wr) (fun _ _ => 0)
      case atStart => exact ⟨rfl, HB.out⟩
      case round =>
        obtain ⟨rfl, hb⟩ := hrel
        clear HB
        have HB := Lib.hid hb
        clear hb
        go_wp2_with fail
        go_loopw [11] (fun kv wr => kv = .int .i64 0 ∧ Below W0.heap.size W0 wr) (fun _ _ => 0)
        case atStart => exact ⟨rfl, HB.out⟩
        case round =>
          obtain ⟨rfl, hb⟩ := hrel
          clear HB
          have HB := Lib.hid hb
          clear hb
          go_wp2_with fail
          go_loopw [14] (fun kv wr => kv = .int .i64 0 ∧ Below W0.heap.size W0 wr) (fun _ _ => 0)
          case atStart => exact ⟨rfl, HB.out⟩
          case round =>
            obtain ⟨rfl, hb⟩ := hrel
            clear HB
            have HB := Lib.hid hb
            clear hb
            go_wp2_with fail
            go_ret
            exact ⟨rfl, HB.out⟩
end Go.Proofs.Ytcpmnkihhenbgaa
