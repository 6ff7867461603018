/- Marks. -/
import Derived.Test.YtcpmnkihhenbgaaApA
namespace Go.Proofs.Ytcpmnkihhenbgaa
open Go.RowKit Go.Shelf
set_option maxRecDepth 1000000
set_option maxHeartbeats 4000000

theorem conv_bytes (xs : List UInt8) (w : World) : (convert 51 9 (.slice (some ⟨w.heap.size, 0, none⟩) xs.length xs.length)).run Try.prog (w.alloc (.cells (xs.map fun c => Value.int .u8 (c.toNat : Int)).toArray 5)) = .ok (.string ⟨xs.toArray⟩) (w.alloc (.cells (xs.map fun c => Value.int .u8 (c.toNat : Int)).toArray 5)) := by
  rw [run_convert_bytes_string _ 51 9 5 _ _ _ Try.underlying51 Try.underlying5 Try.underlying9]
  have hl := run_loadCells_list (P := Try.prog) (w := w.alloc (.cells (xs.map fun c => Value.int .u8 (c.toNat : Int)).toArray 5)) ⟨w.heap.size, 0, none⟩ (xs.map fun c => Value.int .u8 (c.toNat : Int)) (fun j v hv => by
    rw [Addr.add_lit, Nat.zero_add, World.cell?_alloc_new]
    simpa using hv)
  rw [List.length_map] at hl
  rw [run_bytesToString _ _ _ _ (xs.map fun c => (c.toNat : Int)) (by rw [hl]; simp [Function.comp_def])]
  rw [foldl_push_byteCells]
  congr 2
  simp
/-- The text of a mark. -/
def mt (k i : Nat) : ByteArray := ⟨#[35, UInt8.ofNat k, UInt8.ofNat (k / 256), UInt8.ofNat (k / 65536), 47, UInt8.ofNat i, UInt8.ofNat (i / 256), UInt8.ofNat (i / 65536)]⟩
theorem mt_conv (k i : Nat) (hk : k < 1000) (hi : i < 1000000) (w : World) : (convert 51 9 (.slice (some ⟨w.heap.size, 0, none⟩) 8 8)).run Try.prog (w.alloc (.cells #[.int .u8 35, .int .u8 ((k : Int) % 256), .int .u8 ((k : Int) / 256), .int .u8 ((k : Int) / 65536), .int .u8 47, .int .u8 ((i : Int) % 256), .int .u8 ((i : Int) / 256 % 256), .int .u8 ((i : Int) / 65536)] 5)) = .ok (.string (mt k i)) (w.alloc (.cells #[.int .u8 35, .int .u8 ((k : Int) % 256), .int .u8 ((k : Int) / 256), .int .u8 ((k : Int) / 65536), .int .u8 47, .int .u8 ((i : Int) % 256), .int .u8 ((i : Int) / 256 % 256), .int .u8 ((i : Int) / 65536)] 5)) := by
  have h := conv_bytes [35, UInt8.ofNat k, UInt8.ofNat (k / 256), UInt8.ofNat (k / 65536), 47, UInt8.ofNat i, UInt8.ofNat (i / 256), UInt8.ofNat (i / 65536)] w
  have e1 : ((UInt8.ofNat k).toNat : Int) = (k : Int) % 256 := by simp
  have e2 : ((UInt8.ofNat (k / 256)).toNat : Int) = (k : Int) / 256 := by simp; omega
  have e3 : ((UInt8.ofNat (k / 65536)).toNat : Int) = (k : Int) / 65536 := by simp; omega
  have e4 : ((UInt8.ofNat i).toNat : Int) = (i : Int) % 256 := by simp
  have e5 : ((UInt8.ofNat (i / 256)).toNat : Int) = (i : Int) / 256 % 256 := by simp
  have e6 : ((UInt8.ofNat (i / 65536)).toNat : Int) = (i : Int) / 65536 := by simp; omega
  simp only [List.map_cons, List.map_nil, List.length_cons, List.length_nil, e1, e2, e3, e4, e5, e6] at h
  exact h
theorem markText_any (k i : Nat) (hk : k < 1000) (hi : i < 1000000) (w : World) : Calls Try.prog 82 #[.int .i64 (k : Int), .int .i64 (i : Int)] w fun e w' => e = .returned (.string (mt k i)) ∧ Below w.heap.size w w' := by
  have hc := mt_conv k i hk hi w
  go_enter Try.func82, Try.ntmps82
  go_wp2_with fail
  go_ret
  exact ⟨rfl, Below.new (Below.refl _ _) _⟩
theorem markPair_any (k i : Nat) (hk : k < 1000) (hi : i < 1000000) (w : World) : Calls Try.prog 85 #[.int .i64 (k : Int), .int .i64 (i : Int)] w fun e w' => e = .returned (.agg #[.string (mt k i), .string ⟨#[]⟩]) ∧ Below w.heap.size w w' := by
  have HM := Lib.hid (markText_any k i hk hi)
  go_enter Try.func85, Try.ntmps85
  go_upto_region 1 with fail
  obtain ⟨W1, hW1⟩ : ∃ W1, W1 = w.alloc (.cells #[.string ⟨#[]⟩, .string ⟨#[]⟩] 49) := ⟨_, rfl⟩
  rw [← hW1]
  have B1 : Hid (Below w.heap.size w W1) := by show Below _ _ _; rw [hW1]; exact Below.new (Below.refl _ _) _
  have F1 : Hid (Fresh W1 w.heap.size #[.string ⟨#[]⟩, .string ⟨#[]⟩] 49) := by show Fresh _ _ _ _; rw [hW1]; exact Fresh.new _ _ _ _ rfl
  clear hW1
  go_wp2_with (go_at_call 82; with_reducible refine (HM.out _).mono ?_; rintro e2 w2 ⟨rfl, hb2⟩; have c0 := (F1.out.below hb2).cell 0; have c1 := (F1.out.below hb2).cell 1; have t0 := (F1.out.below hb2).thawed 0; have t1 := (F1.out.below hb2).thawed 1; have H2 := Lib.hid hb2; clear hb2; simp only [List.getElem?_toArray, List.getElem?_cons_zero, List.getElem?_cons_succ] at c0 c1)
  refine bodyPost_ret (v := .agg #[.string (mt k i), .string ⟨#[]⟩]) ?_ rfl ?_
  · simp [results, Try.results85, go_sem, c0, c1]
  exact ⟨rfl, ((Below.step B1.out H2.out).setCell (Nat.le_refl _) _).setCell (Nat.le_refl _) _⟩
end Go.Proofs.Ytcpmnkihhenbgaa
