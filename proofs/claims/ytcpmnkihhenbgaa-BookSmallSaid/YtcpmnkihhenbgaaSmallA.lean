/- BookSmall: strings of zeros; the law's none. -/
import Derived.Test.YtcpmnkihhenbgaaNilB
import Derived.Deep.OwnRows
import Derived.Laws.IdiomStrings
import Derived.IntWalk
namespace Go.Proofs.Ytcpmnkihhenbgaa
open Go.RowKit
set_option maxRecDepth 1000000
set_option maxHeartbeats 4000000

theorem infoU : (Try.prog.info? 5).map (fun i => (i.zero, i.size, i.bytes)) = some (some (.int .u8 0), 1, 1) := by kernel_rfl
def zeros (n : Nat) : ByteArray := ⟨(List.replicate n 0).toArray⟩
theorem zeros_size (n : Nat) : (zeros n).size = n := by simp [zeros, ByteArray.size]
theorem made_zeros (n : Nat) : madeCells #[.int .u8 0] n = (((List.replicate n (0 : UInt8)).map fun c => Value.int .u8 (c.toNat : Int))).toArray := by
  refine Array.ext (by simp [madeCells]) fun i h1 h2 => ?_
  simp [madeCells, Nat.mod_one]
theorem conv_zeros (n : Nat) (w : World) : (convert 51 9 (.slice (some ⟨w.heap.size, 0, none⟩) n n)).run Try.prog (w.alloc (.cells (madeCells #[.int .u8 0] n) 5)) = .ok (.string (zeros n)) (w.alloc (.cells (madeCells #[.int .u8 0] n) 5)) := by
  rw [made_zeros]
  obtain ⟨xs, hxs⟩ : ∃ xs : List UInt8, xs = List.replicate n 0 := ⟨_, rfl⟩
  have hlen : xs.length = n := by rw [hxs]; simp
  have hL : zeros n = ⟨xs.toArray⟩ := by rw [hxs]; rfl
  rw [← hxs, hL, ← hlen]
  rw [run_convert_bytes_string _ 51 9 5 _ _ _ Try.underlying51 Try.underlying5 Try.underlying9]
  have hl := run_loadCells_list (P := Try.prog) (w := w.alloc (.cells (xs.map fun c => Value.int .u8 (c.toNat : Int)).toArray 5)) ⟨w.heap.size, 0, none⟩ (xs.map fun c => Value.int .u8 (c.toNat : Int)) (fun j v hv => by
    rw [Addr.add_lit, Nat.zero_add, World.cell?_alloc_new]
    simpa using hv)
  rw [List.length_map] at hl
  rw [run_bytesToString _ _ _ _ (xs.map fun c => (c.toNat : Int)) (by rw [hl]; simp [Function.comp_def])]
  rw [foldl_push_byteCells]
  congr 2
  simp
theorem conv_fresh {W : World} {b n : Nat} (h : Fresh W b (madeCells #[.int .u8 0] n) 5) : (convert 51 9 (.slice (some ⟨b, 0, none⟩) n n)).run Try.prog W = .ok (.string (zeros n)) W := by
  rw [made_zeros] at h
  obtain ⟨xs, hxs⟩ : ∃ xs : List UInt8, xs = List.replicate n 0 := ⟨_, rfl⟩
  have hlen : xs.length = n := by rw [hxs]; simp
  have hL : zeros n = ⟨xs.toArray⟩ := by rw [hxs]; rfl
  rw [← hxs] at h
  rw [hL, ← hlen]
  rw [run_convert_bytes_string _ 51 9 5 _ _ _ Try.underlying51 Try.underlying5 Try.underlying9]
  have hl := run_loadCells_list (P := Try.prog) (w := W) ⟨b, 0, none⟩ (xs.map fun c => Value.int .u8 (c.toNat : Int)) (fun j v hv => by
    rw [Addr.add_lit, Nat.zero_add, h.cell]
    simpa using hv)
  rw [List.length_map] at hl
  rw [run_bytesToString _ _ _ _ (xs.map fun c => (c.toNat : Int)) (by rw [hl]; simp [Function.comp_def])]
  rw [foldl_push_byteCells]
  congr 2
  simp
theorem idx_facts (n : Nat) (h : n < 27) : ∃ m1 m2 m3 d3 d9 : Nat, m1 ≤ 100 ∧ m2 ≤ 100 ∧ m3 ≤ 100 ∧ IntKind.i64.wrap (15 + (n : Int) % 3) = (m1 : Int) ∧ IntKind.i64.wrap ((n : Int) / 3) = (d3 : Int) ∧ IntKind.i64.wrap (31 + (d3 : Int).tmod 3) = (m2 : Int) ∧ IntKind.i64.wrap (31 + (d3 : Int) % 3) = (m2 : Int) ∧ wrap64 ((n : Int) / 9) = (d9 : Int) ∧ wrap64 (31 + (d9 : Int)) = (m3 : Int) ∧ IntKind.i64.wrap ((n : Int) / 9) = (d9 : Int) ∧ IntKind.i64.wrap (31 + (d9 : Int)) = (m3 : Int) ∧ (31 : Int) + (d9 : Int) = (m3 : Int) := by
  have e3 : (n : Int) / 3 = ((n / 3 : Nat) : Int) := by omega
  have e9 : (n : Int) / 9 = ((n / 9 : Nat) : Int) := by omega
  have w : ∀ k : Nat, k ≤ 100 → IntKind.i64.wrap (k : Int) = (k : Int) := fun k hk => by rw [IntKind.wrap_i64]; omega
  have w6 : ∀ k : Nat, k ≤ 100 → wrap64 (k : Int) = (k : Int) := fun k hk => IntWalk.wrap64_in _ (by omega)
  refine ⟨15 + n % 3, 31 + n / 3 % 3, 31 + n / 9, n / 3, n / 9, by omega, by omega, by omega, ?_, ?_, ?_, ?_, ?_, ?_, ?_, ?_, ?_⟩
  · rw [show (15 : Int) + (n : Int) % 3 = ((15 + n % 3 : Nat) : Int) from by omega]; exact w _ (by omega)
  · rw [e3]; exact w _ (by omega)
  · rw [Int.tmod_eq_emod_of_nonneg (by omega), show (31 : Int) + ((n / 3 : Nat) : Int) % 3 = ((31 + n / 3 % 3 : Nat) : Int) from by omega]; exact w _ (by omega)
  · rw [show (31 : Int) + ((n / 3 : Nat) : Int) % 3 = ((31 + n / 3 % 3 : Nat) : Int) from by omega]; exact w _ (by omega)
  · rw [e9]; exact w6 _ (by omega)
  · rw [show (31 : Int) + ((n / 9 : Nat) : Int) = ((31 + n / 9 : Nat) : Int) from by omega]; exact w6 _ (by omega)
  · rw [e9]; exact w _ (by omega)
  · rw [show (31 : Int) + ((n / 9 : Nat) : Int) = ((31 + n / 9 : Nat) : Int) from by omega]; exact w _ (by omega)
  · omega
theorem none_any (w : World) : Calls Try.prog 20 #[] w fun e w' => e = .returned (.bool true) ∧ Below w.heap.size w w' := by
  have hmk : ∀ w : World, (Instr.makeSlice 51 (.int .i64 20) (.int .i64 20)).run Try.prog w = .ok (.slice (some ⟨w.heap.size, 0, none⟩) 20 20) (w.alloc (.cells (madeCells #[.int .u8 0] 20) 5)) := fun w =>
    run_make_row' 51 5 (.int .u8 0) 1 Try.underlying51 infoU rfl .i64 .i64 20 (by omega) (by omega) w
  have hcl := conv_zeros 20
  go_enter Try.func20, Try.ntmps20
  go_upto_region 2 with fail
  obtain ⟨W1, hW1⟩ : ∃ W1, W1 = (w.alloc (.cells #[.pointer none] 74)).alloc (.cells #[.pointer none, .pointer (some ⟨w.heap.size, 0, none⟩)] 27) := ⟨_, rfl⟩
  rw [← hW1]
  have B1 : Hid (Below w.heap.size w W1) := by show Below _ _ _; rw [hW1]; exact Below.new (Below.new (Below.refl _ _) _) _
  have f0 : Fresh W1 w.heap.size #[.pointer none] 74 := by rw [hW1]; exact (Fresh.new _ _ _ _ rfl).alloc _
  have f1 : Fresh W1 (w.heap.size + 1) #[.pointer none, .pointer (some ⟨w.heap.size, 0, none⟩)] 27 := by rw [hW1]; exact Fresh.new _ _ _ _ (by simp)
  have HF := Lib.hid (And.intro f0 f1)
  clear hW1 f0 f1
  go_wp2_with fail
  go_loopw [2] (fun iv wr => ∃ i : Nat, i ≤ 2 ∧ iv = .int .i64 i ∧ Below W1.heap.size W1 wr) (fun iv _ => 2 - (intOf iv).toNat)
  case atStart => exact ⟨0, Nat.zero_le _, rfl, Below.refl _ _⟩
  case round =>
    obtain ⟨i, hi, rfl, hbw⟩ := hrel
    have HBW := Lib.hid hbw
    have e0 := (HF.out.2.below hbw).cell 0
    have e1 := (HF.out.2.below hbw).cell 1
    simp only [List.getElem?_toArray, List.getElem?_cons_zero, List.getElem?_cons_succ] at e0 e1
    clear hbw
    rcases (show i = 0 ∨ i = 1 ∨ i = 2 from by omega) with rfl | rfl | rfl
    · have HNB : Hid (∀ W', Below wr.heap.size wr W' → NilB W' none) := fun _ _ => nilb_none _
      go_wp2_with (first
        | (go_at_call 28; refine (nilb_get (HNB.out _ (Below.refl _ _)) _).mono ?_; rintro e3 w3 ⟨rfl, hb3⟩; have H3 := Lib.hid hb3; clear hb3)
        | (go_at_call 14; refine (nilb_scan (HNB.out _ H3.out) _ _).mono ?_; rintro e4 w4 ⟨rfl, hb4⟩; have H4 := Lib.hid (Below.step H3.out hb4); clear hb4)
        | (go_at_call 31; refine (nilb_put (HNB.out _ H4.out) _ _).mono ?_; rintro e5 w5 ⟨rfl, hb5⟩; have H5 := Lib.hid (Below.step H4.out hb5); clear hb5)
        | (go_at_call 29; refine (nilb_delete (HNB.out _ (Below.new H5.out _)) _).mono ?_; rintro e6 w6 ⟨rfl, hb6⟩; have H6 := Lib.hid (Below.step (Below.new H5.out _) hb6); clear hb6)
        | (go_at_call 30; refine (nilb_swap (HNB.out _ H6.out) _ _ _).mono ?_; rintro e7 w7 ⟨rfl, hb7⟩; have H7 := Lib.hid (Below.step H6.out hb7); clear hb7)
        | (go_at_call 24; refine (nilb_keys (HNB.out _ H7.out)).mono ?_; rintro e8 w8 ⟨rfl, hw8⟩; replace hw8 := hw8.symm; subst hw8)
        | (go_at_call 25; refine (nilb_bytes (HNB.out _ H7.out)).mono ?_; rintro e9 w9 ⟨rfl, hw9⟩; replace hw9 := hw9.symm; subst hw9)
        | (go_at_call 21; refine (nilb_pairs (HNB.out _ H7.out)).mono ?_; rintro e10 w10 ⟨rfl, hb10⟩; have H10 := Lib.hid (Below.step H7.out hb10); clear hb10)
        | (go_at_call 18; refine (nilb_copy (HNB.out _ H10.out)).mono ?_; rintro e11 w11 ⟨rfl, hw11⟩; replace hw11 := hw11.symm; subst hw11))
      go_roundw
      case rel => exact ⟨1, by omega, by rfl, Below.step HBW.out H10.out⟩
      case measure => simp [intOf]
    · have HNB : Hid (∀ W', Below wr.heap.size wr W' → NilB W' (some ⟨w.heap.size, 0, none⟩)) := fun W' hb => .inr ⟨_, rfl, (HF.out.1.below HBW.out).below hb⟩
      go_wp2_with (first
        | (go_at_call 28; refine (nilb_get (HNB.out _ (Below.refl _ _)) _).mono ?_; rintro e3 w3 ⟨rfl, hb3⟩; have H3 := Lib.hid hb3; clear hb3)
        | (go_at_call 14; refine (nilb_scan (HNB.out _ H3.out) _ _).mono ?_; rintro e4 w4 ⟨rfl, hb4⟩; have H4 := Lib.hid (Below.step H3.out hb4); clear hb4)
        | (go_at_call 31; refine (nilb_put (HNB.out _ H4.out) _ _).mono ?_; rintro e5 w5 ⟨rfl, hb5⟩; have H5 := Lib.hid (Below.step H4.out hb5); clear hb5)
        | (go_at_call 29; refine (nilb_delete (HNB.out _ (Below.new H5.out _)) _).mono ?_; rintro e6 w6 ⟨rfl, hb6⟩; have H6 := Lib.hid (Below.step (Below.new H5.out _) hb6); clear hb6)
        | (go_at_call 30; refine (nilb_swap (HNB.out _ H6.out) _ _ _).mono ?_; rintro e7 w7 ⟨rfl, hb7⟩; have H7 := Lib.hid (Below.step H6.out hb7); clear hb7)
        | (go_at_call 24; refine (nilb_keys (HNB.out _ H7.out)).mono ?_; rintro e8 w8 ⟨rfl, hw8⟩; replace hw8 := hw8.symm; subst hw8)
        | (go_at_call 25; refine (nilb_bytes (HNB.out _ H7.out)).mono ?_; rintro e9 w9 ⟨rfl, hw9⟩; replace hw9 := hw9.symm; subst hw9)
        | (go_at_call 21; refine (nilb_pairs (HNB.out _ H7.out)).mono ?_; rintro e10 w10 ⟨rfl, hb10⟩; have H10 := Lib.hid (Below.step H7.out hb10); clear hb10)
        | (go_at_call 18; refine (nilb_copy (HNB.out _ H10.out)).mono ?_; rintro e11 w11 ⟨rfl, hw11⟩; replace hw11 := hw11.symm; subst hw11))
      go_roundw
      case rel => exact ⟨2, by omega, by rfl, Below.step HBW.out H10.out⟩
      case measure => simp [intOf]
    · go_wp2_with fail
      go_ret
      exact ⟨rfl, Below.step B1.out HBW.out⟩
theorem idx_nine (n : Nat) (h : n < 27) : ∃ m3 : Nat, m3 ≤ 100 ∧ (31 : Int) + (n : Int) / 9 = (m3 : Int) ∧ wrap64 (m3 : Int) = (m3 : Int) := ⟨31 + n / 9, by omega, by omega, IntWalk.wrap64_in _ (by omega)⟩
theorem wrap_small (m : Nat) (h : m ≤ 100) : wrap64 (m : Int) = (m : Int) := IntWalk.wrap64_in _ (by omega)
theorem make_u3 (m : Nat) (h : m ≤ 100) (w : World) : (Instr.makeSlice 51 (.int .i64 (m : Int)) (.int .i64 (m : Int))).run Try.prog w = .ok (.slice (some ⟨w.heap.size, 0, none⟩) m m) (w.alloc (.cells (madeCells #[.int .u8 0] m) 5)) :=
  run_make_row' 51 5 (.int .u8 0) 1 Try.underlying51 infoU rfl .i64 .i64 m (by omega) (by omega) w
theorem make_u (m : Nat) (h : m ≤ 100) (w : World) : ∃ w', (Instr.makeSlice 51 (.int .i64 (m : Int)) (.int .i64 (m : Int))).run Try.prog w = .ok (.slice (some ⟨w.heap.size, 0, none⟩) m m) w' ∧ Fresh w' w.heap.size (madeCells #[.int .u8 0] m) 5 ∧ Below w.heap.size w w' := by
  obtain ⟨w', hw⟩ : ∃ w', w' = w.alloc (.cells (madeCells #[.int .u8 0] m) 5) := ⟨_, rfl⟩
  refine ⟨w', ?_, ?_, ?_⟩
  · rw [hw]; exact make_u3 m h w
  · rw [hw]; exact Fresh.new w _ _ _ rfl
  · rw [hw]; exact Below.new (Below.refl _ _) _
/-- A literal of seven numbers, one of them. -/
theorem seven_at (r : Nat) (hr : r < 7) : ∃ num : Int, [Value.int .i64 (-1), Value.int .i64 0, Value.int .i64 1, Value.int .i64 4096, Value.int .i64 4097, Value.int .i64 9223372036854775807, Value.int .i64 (-9223372036854775808)][r]? = some (Value.int .i64 num) := by
  rcases (show r = 0 ∨ r = 1 ∨ r = 2 ∨ r = 3 ∨ r = 4 ∨ r = 5 ∨ r = 6 from by omega) with rfl | rfl | rfl | rfl | rfl | rfl | rfl <;> exact ⟨_, rfl⟩
theorem seven_idx (n j : Nat) (hn : n < 27) (hj : j < 6) : ∃ r : Nat, r < 7 ∧ wrap64 ((n : Int) + (j : Int)) = ((n + j : Nat) : Int) ∧ ((n + j : Nat) : Int).tmod 7 = (r : Int) ∧ IntKind.i64.wrap ((n : Int) + (j : Int)) = ((n + j : Nat) : Int) ∧ IntKind.i64.wrap (r : Int) = (r : Int) ∧ wrap64 (r : Int) = (r : Int) ∧ (0 : Int) ≤ (r : Int) ∧ (r : Int) < 7 := by
  refine ⟨(n + j) % 7, by omega, ?_, ?_, ?_, ?_, ?_, by omega, by omega⟩
  · rw [show (n : Int) + (j : Int) = ((n + j : Nat) : Int) from by omega]; exact IntWalk.wrap64_in _ (by omega)
  · rw [Int.tmod_eq_emod_of_nonneg (by omega)]; omega
  · rw [IntKind.wrap_i64]; omega
  · rw [IntKind.wrap_i64]; omega
  · exact IntWalk.wrap64_in _ (by omega)
end Go.Proofs.Ytcpmnkihhenbgaa
