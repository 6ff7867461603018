/- The walk of LiveSmall. -/
import Derived.Test.YtjlfgmjcmicoaaaBounds
import Derived.Test.YtjlfgmjcmicoaaaRefFair
import Derived.Deep.OwnRows
namespace Go.Proofs.Ytjlfgmjcmicoaaa
open Go.RowKit
set_option maxRecDepth 100000
set_option maxHeartbeats 40000000

def okT (cs : Array Value) : Bool := cs.toList.all fun v => match v with
  | .int .i64 _ => true
  | _ => false
theorem okT_at {cs : Array Value} (h : okT cs = true) (i : Nat) (hi : i < cs.size) : ∃ t : Int, cs[i]? = some (.int .i64 t) := by
  have h1 := List.all_eq_true.1 h cs[i] (by simp)
  have h2 : cs[i]? = some cs[i] := by simp [hi]
  revert h1 h2
  generalize cs[i] = v
  intro h1 h2
  cases v
  case int k t => cases k <;> first | exact ⟨t, h2⟩ | exact absurd h1 (by simp)
  all_goals exact absurd h1 (by simp)

/-- The request of the law's first part. -/
def rq (d : Nat) (s : ByteArray) (n : Nat) : Req := ⟨(d : Int) - 1, 0, 0, 0, s, ⟨#[]⟩, ⟨#[]⟩, n, 0, 0, 0, 0⟩
theorem rq_ok (d : Nat) (s : ByteArray) (n : Nat) (h1 : d ≤ 20) (h2 : s.size ≤ 40) (h3 : n ≤ 40) : (rq d s n).Ok := by
  refine ⟨?_, (by decide : (0:Nat) ≤ maxLen), (by decide : (0:Nat) ≤ maxLen), ?_, ?_⟩
  · exact Nat.le_trans h2 (by decide)
  · show -9223372036854775808 ≤ (d : Int) - 1 ∧ (d : Int) - 1 ≤ 9223372036854775807; omega
  · show -9223372036854775808 ≤ (n : Int) ∧ (n : Int) ≤ 9223372036854775807; omega
theorem rq_cells {W : World} {p d n : Nat} {s : ByteArray} {t : TypeId} (h : Fresh W p (Req.cells (rq d s n)) t) :
    W.cell? ⟨p, 0, none⟩ = some (.int .i64 ((d : Int) - 1)) ∧ W.cell? ⟨p, 1, none⟩ = some (.int .i64 0) ∧ W.cell? ⟨p, 2, none⟩ = some (.int .u32 0) ∧ W.cell? ⟨p, 3, none⟩ = some (.int .u8 0) ∧
    W.cell? ⟨p, 4, none⟩ = some (.string s) ∧ W.cell? ⟨p, 5, none⟩ = some (.string ⟨#[]⟩) ∧ W.cell? ⟨p, 6, none⟩ = some (.string ⟨#[]⟩) ∧ W.cell? ⟨p, 7, none⟩ = some (.int .i64 (n : Int)) ∧
    W.cell? ⟨p, 8, none⟩ = some (.int .i64 0) ∧ W.cell? ⟨p, 9, none⟩ = some (.int .u64 0) ∧ W.cell? ⟨p, 10, none⟩ = some (.int .u64 0) ∧ W.cell? ⟨p, 11, none⟩ = some (.int .u8 0) :=
  ⟨h.cell 0, h.cell 1, h.cell 2, h.cell 3, h.cell 4, h.cell 5, h.cell 6, h.cell 7, h.cell 8, h.cell 9, h.cell 10, h.cell 11⟩

def long33 : ByteArray := ⟨(List.replicate 33 0).toArray⟩
theorem made_n (n : Nat) : madeCells #[.int .u8 0] n = (byteVals (List.replicate n 0)).toArray := by
  refine Array.ext (by simp [madeCells, byteVals]) fun i h1 h2 => ?_
  simp [madeCells, byteVals, Nat.mod_one]
theorem made33 : madeCells #[.int .u8 0] 33 = (byteVals (List.replicate 33 0)).toArray := made_n 33
theorem conv33 (w : World) : (convert 41 9 (.slice (some ⟨w.heap.size, 0, none⟩) 33 33)).run Try.prog (w.alloc (.cells (madeCells #[.int .u8 0] 33) 5)) = .ok (.string long33) (w.alloc (.cells (madeCells #[.int .u8 0] 33) 5)) := by
  rw [made33]
  obtain ⟨xs, hxs⟩ : ∃ xs : List UInt8, xs = List.replicate 33 0 := ⟨_, rfl⟩
  have hlen : xs.length = 33 := by rw [hxs]; simp
  have hL : long33 = ⟨xs.toArray⟩ := by rw [hxs]; rfl
  rw [← hxs, hL]
  rw [run_convert_bytes_string _ 41 9 5 _ _ _ Try.underlying41 Try.underlying5 Try.underlying9]
  have hl := run_loadCells_list (P := Try.prog) (w := w.alloc (.cells (byteVals xs).toArray 5)) ⟨w.heap.size, 0, none⟩ (byteVals xs) (fun j v hv => by
    rw [Addr.add_lit, Nat.zero_add, World.cell?_alloc_new]
    simpa using hv)
  rw [byteVals_length, hlen] at hl
  rw [run_bytesToString _ _ _ _ (xs.map fun c => (c.toNat : Int)) (by rw [hl]; simp [byteVals, Function.comp_def])]
  rw [foldl_push]
  congr 2

/-- The ten requests of the law's second part. -/
def e0 : ByteArray := ⟨#[]⟩
def rs10 (l32 l16 : ByteArray) : List Req := [⟨2, 0, 0, 0, e0, l32, e0, 0, 0, 0, 0, 0⟩, ⟨2, 0, 0, 0, e0, long33, e0, 0, 0, 0, 0, 0⟩, ⟨1, 0, 0, 0, e0, e0, long33, 0, 0, 0, 0, 0⟩, ⟨1, 0, 0, 0, e0, e0, l32, 0, 0, 0, 0, 0⟩, ⟨5, 0, 0, 0, e0, e0, e0, 4096, 0, 0, 0, 0⟩, ⟨5, 0, 0, 0, e0, e0, e0, 4097, 0, 0, 0, 0⟩, ⟨5, 0, 0, 0, e0, e0, e0, -1, 0, 0, 0, 0⟩, ⟨1, 0, 0, 0, e0, e0, e0, -1, 0, 0, 0, 0⟩, ⟨1, 0, 0, 0, l16, e0, e0, 0, 0, 0, 0, 0⟩, ⟨3, 0, 0, 0, l16, e0, e0, 0, 0, 0, 0, 0⟩]
def cells10 (l32 l16 : ByteArray) : Array Value := ((rs10 l32 l16).flatMap fun r => r.cells.toList).toArray
theorem at10 (l32 l16 : ByteArray) (h32 : l32.size ≤ 40) (h16 : l16.size ≤ 40) (i : Nat) (hi : i < 10) : ∃ r : Req, r.Ok ∧ ∀ j v, r.cells[j]? = some v → (cells10 l32 l16)[i * 12 + j]? = some v := by
  have hl : long33.size ≤ maxLen := by decide
  have he : e0.size ≤ maxLen := by decide
  have hm : 40 ≤ maxLen := by decide
  have key : ∀ r : Req, (rs10 l32 l16)[i]? = some r → ∀ j v, r.cells[j]? = some v → (cells10 l32 l16)[i * 12 + j]? = some v := by
    intro r hr j v hv
    have hj : j < 12 := by
      have := (Array.getElem?_eq_some_iff.1 hv).1
      simpa [Req.cells] using this
    revert hr hv
    rcases (show i = 0 ∨ i = 1 ∨ i = 2 ∨ i = 3 ∨ i = 4 ∨ i = 5 ∨ i = 6 ∨ i = 7 ∨ i = 8 ∨ i = 9 from by omega) with rfl | rfl | rfl | rfl | rfl | rfl | rfl | rfl | rfl | rfl <;> intro hr hv <;> (simp only [rs10, List.getElem?_cons_zero, List.getElem?_cons_succ, Option.some.injEq] at hr; subst hr) <;> (rcases (show j = 0 ∨ j = 1 ∨ j = 2 ∨ j = 3 ∨ j = 4 ∨ j = 5 ∨ j = 6 ∨ j = 7 ∨ j = 8 ∨ j = 9 ∨ j = 10 ∨ j = 11 from by omega) with rfl | rfl | rfl | rfl | rfl | rfl | rfl | rfl | rfl | rfl | rfl | rfl) <;> exact hv
  have ok : ∀ r ∈ rs10 l32 l16, r.Ok := by
    intro r hr
    simp only [rs10, List.mem_cons, List.not_mem_nil, or_false] at hr
    rcases hr with rfl | rfl | rfl | rfl | rfl | rfl | rfl | rfl | rfl | rfl <;> exact ⟨by first | exact he | exact hl | exact Nat.le_trans (by assumption) hm, by first | exact he | exact hl | exact Nat.le_trans (by assumption) hm, by first | exact he | exact hl | exact Nat.le_trans (by assumption) hm, ⟨by dsimp only; omega, by dsimp only; omega⟩, ⟨by dsimp only; omega, by dsimp only; omega⟩⟩
  have hlt : i < (rs10 l32 l16).length := by simpa [rs10] using hi
  exact ⟨(rs10 l32 l16)[i], ok _ (by simp), key _ (by simp [hlt])⟩

theorem liveSmall_walk (w : World) :
    Calls Try.prog 5 #[] w fun e w' => e = .returned (.bool true) ∧ Below w.heap.size w w' := by
  have hmk : ∀ w : World, (Instr.makeSlice 41 (.int .i64 33) (.int .i64 33)).run Try.prog w = .ok (.slice (some ⟨w.heap.size, 0, none⟩) 33 33) (w.alloc (.cells (madeCells #[.int .u8 0] 33) 5)) := fun w =>
    run_make_row' 41 5 (.int .u8 0) 1 Try.underlying41 infoB rfl .i64 .i64 33 (by omega) (by omega) w
  have hcl : ∀ w : World, (convert 41 9 (.slice (some ⟨w.heap.size, 0, none⟩) 33 33)).run Try.prog (w.alloc (.cells (madeCells #[.int .u8 0] 33) 5)) = .ok (.string long33) (w.alloc (.cells (madeCells #[.int .u8 0] 33) 5)) := conv33
  go_enter Try.func5, Try.ntmps5
  go_wp2_with fail
  go_loopw [1, 14] (fun ky i wr => ∃ n : Nat, n ≤ 19 ∧ i = .int .i64 n ∧ ∃ s : ByteArray, ky = .string s ∧ s.size ≤ n ∧ Below w.heap.size w wr) (fun _ i _ => 19 - (intOf i).toNat)
  case atStart => exact ⟨0, by omega, rfl, _, rfl, by decide, Below.refl _ _⟩
  case round =>
    obtain ⟨n, hn, rfl, s, rfl, hs, hB⟩ := hrel
    have HB := Lib.hid hB
    clear hB
    by_cases h19 : n < 19
    · have hn19 : (n : Int) < 19 := by omega
      have HN := Lib.hid (And.intro h19 hs)
      clear h19 hs hn
      go_wp2_with fail
      obtain ⟨wo, rfl⟩ : ∃ wo : World, wo = wr := ⟨_, rfl⟩
      go_loopw [3] (fun i wr => ∃ d : Nat, d ≤ 13 ∧ i = .int .i64 ((d : Int) - 1) ∧ Below w.heap.size w wr) (fun i _ => 13 - (intOf i + 1).toNat)
      case atStart => exact ⟨0, by omega, rfl, HB.out⟩
      case round =>
        obtain ⟨d, hd, rfl, hB2⟩ := hrel
        have HB2 := Lib.hid hB2
        clear hB2
        by_cases h13 : d < 13
        · have hd13 : (d : Int) - 1 ≤ 11 := by omega
          have HD := Lib.hid h13
          have HOK := Lib.hid (rq_ok d s n (by omega) (by have := HN.out; omega) (by have := HN.out; omega))
          clear h13 hd
          go_wp2_with fail
          obtain ⟨W8, hW8⟩ : ∃ W8, W8 = wr.alloc (.cells #[.int .i64 ((d : Int) - 1), .int .i64 0, .int .u32 0, .int .u8 0, .string s, .string ⟨#[]⟩, .string ⟨#[]⟩, .int .i64 (n : Int), .int .i64 0, .int .u64 0, .int .u64 0, .int .u8 0] 31) := ⟨_, rfl⟩
          rw [← hW8]
          have HF8 : Hid (Fresh W8 wr.heap.size (Req.cells (rq d s n)) 31) := by show Fresh _ _ _ _; rw [hW8]; exact Fresh.new _ _ _ _ rfl
          have HB8 : Hid (Below w.heap.size w W8) := by show Below _ _ _; rw [hW8]; exact Below.new HB2.out _
          obtain ⟨b, hb⟩ : ∃ b, b = wr.heap.size := ⟨_, rfl⟩
          rw [← hb] at HF8 ⊢
          have hsz : W8.heap.size = b + 1 := by rw [hW8, hb]; simp
          clear hW8 hb
          obtain ⟨wp, rfl⟩ : ∃ wp : World, wp = wr := ⟨_, rfl⟩
          go_loopw [27] (fun i wr => ∃ k : Nat, k ≤ 6 ∧ i = .int .i64 k ∧ Below w.heap.size w wr ∧ Fresh wr b (Req.cells (rq d s n)) 31 ∧ ∃ cs, Fresh wr (b + 1) cs 3 ∧ okT cs = true ∧ cs.size = 6) (fun i _ => 6 - (intOf i).toNat)
          case atStart => exact ⟨0, by omega, rfl, Below.new HB8.out _, HF8.out.alloc _, _, Fresh.new _ _ _ _ hsz, by decide, rfl⟩
          case round =>
            obtain ⟨k, hk, rfl, hB3, hF3, cs, hC3, hok, hcs⟩ := hrel
            have HB3 := Lib.hid hB3
            have HF3 := Lib.hid hF3
            have HC3 := Lib.hid hC3
            have HOC := Lib.hid (And.intro hok hcs)
            clear hB3 hF3 hC3
            by_cases h6 : k < 6
            · obtain ⟨t, ht⟩ := okT_at hok k (by omega)
              have hk6 : (k : Int) < 6 := by omega
              have hk0 : (0 : Int) ≤ (k : Int) := Int.natCast_nonneg _
              have x0 := HC3.out.cell k
              rw [ht] at x0
              obtain ⟨c0, c1, c2, c3, c4, c5, c6, c7, c8, c9, c10, c11⟩ := rq_cells HF3.out
              have HK := Lib.hid h6
              clear ht hok hcs h6 hk
              go_wp2_with fail
              refine (bounds_any (rq d s n) t n _ HOK.out).mono ?_
              rintro e w4 ⟨rfl, hb4⟩
              have HB4 := Lib.hid (Below.step HB3.out hb4)
              have HF4 := Lib.hid (HF3.out.below hb4)
              have HC4 := Lib.hid (HC3.out.below hb4)
              clear hb4 x0 c0 c1 c2 c3 c4 c5 c6 c7 c8 c9 c10 c11
              obtain ⟨c0, c1, c2, c3, c4, c5, c6, c7, c8, c9, c10, c11⟩ := rq_cells HF4.out
              go_wp2_with fail
              refine (bounds_any (rq d s n) n t _ HOK.out).mono ?_
              rintro e w5 ⟨rfl, hb5⟩
              have HB5 := Lib.hid (Below.step HB4.out hb5)
              have HF5 := Lib.hid (HF4.out.below hb5)
              have HC5 := Lib.hid (HC4.out.below hb5)
              clear hb5 c0 c1 c2 c3 c4 c5 c6 c7 c8 c9 c10 c11
              go_wp2_with fail
              obtain ⟨wq, rfl⟩ : ∃ wq : World, wq = wr := ⟨_, rfl⟩
              go_loopw [7] (fun i wr => ∃ j : Nat, j ≤ 5 ∧ i = .int .i64 ((j : Int) - 2) ∧ Below w5.heap.size w5 wr) (fun i _ => 5 - (intOf i + 2).toNat)
              case atStart => exact ⟨0, by omega, rfl, Below.refl _ _⟩
              case round =>
                obtain ⟨j, hj, rfl, hB6⟩ := hrel
                have HB6 := Lib.hid hB6
                have HF6 := Lib.hid (HF5.out.below hB6)
                clear hB6
                by_cases h5 : j < 5
                · have hj5 : (j : Int) - 2 ≤ 2 := by omega
                  have HJ := Lib.hid h5
                  clear h5 hj
                  obtain ⟨c0, c1, c2, c3, c4, c5, c6, c7, c8, c9, c10, c11⟩ := rq_cells HF6.out
                  obtain ⟨y, hy⟩ : ∃ y, boundZ (rq d s n) t = y := ⟨_, rfl⟩
                  have HY := Lib.hid hy
                  clear hy
                  go_wp2_with fail
                  refine (rbound_any (rq d s n) t _ HOK.out).mono ?_
                  rw [HY.out]
                  rintro e w7 ⟨rfl, hb7⟩
                  have HB7 := Lib.hid (Below.step HB6.out hb7)
                  have HF7 := Lib.hid (HF6.out.below hb7)
                  clear hb7 c0 c1 c2 c3 c4 c5 c6 c7 c8 c9 c10 c11
                  go_wp2_with fail
                  generalize wrap64 (wrap64 (y + (n : Int)) + ((j : Int) - 2)) = P
                  generalize wrap64 (wrap64 (t + ((j : Int) - 2)) - 1) = K'
                  obtain ⟨W9, hW9⟩ : ∃ W9, W9 = w7.alloc (.cells #[.int .i64 P, .int .i64 t, .int .i64 K', .int .i64 (n : Int)] 35) := ⟨_, rfl⟩
                  rw [← hW9]
                  have E9 : Fresh W9 w7.heap.size #[.int .i64 P, .int .i64 t, .int .i64 K', .int .i64 (n : Int)] 35 := by rw [hW9]; exact Fresh.new _ _ _ _ rfl
                  have HF9 : Hid (Fresh W9 b (Req.cells (rq d s n)) 31) := by show Fresh _ _ _ _; rw [hW9]; exact HF7.out.alloc _
                  have HB9 : Hid (Below w5.heap.size w5 W9) := by show Below _ _ _; rw [hW9]; exact Below.new HB7.out _
                  have e0 : W9.cell? ⟨w7.heap.size, 0, none⟩ = some (.int .i64 P) := E9.cell 0
                  have e1 : W9.cell? ⟨w7.heap.size, 1, none⟩ = some (.int .i64 t) := E9.cell 1
                  have e2 : W9.cell? ⟨w7.heap.size, 2, none⟩ = some (.int .i64 K') := E9.cell 2
                  have e3 : W9.cell? ⟨w7.heap.size, 3, none⟩ = some (.int .i64 (n : Int)) := E9.cell 3
                  clear E9 hW9
                  obtain ⟨c0, c1, c2, c3, c4, c5, c6, c7, c8, c9, c10, c11⟩ := rq_cells HF9.out
                  have g0 := fun d os => cell_regrown c0 d os
                  have g1 := fun d os => cell_regrown c1 d os
                  have g2 := fun d os => cell_regrown c2 d os
                  have g3 := fun d os => cell_regrown c3 d os
                  have g4 := fun d os => cell_regrown c4 d os
                  have g5 := fun d os => cell_regrown c5 d os
                  have g6 := fun d os => cell_regrown c6 d os
                  have g7 := fun d os => cell_regrown c7 d os
                  have g8 := fun d os => cell_regrown c8 d os
                  have g9 := fun d os => cell_regrown c9 d os
                  have g10 := fun d os => cell_regrown c10 d os
                  have g11 := fun d os => cell_regrown c11 d os
                  have h0 := fun d os => cell_regrown e0 d os
                  have h1 := fun d os => cell_regrown e1 d os
                  have h2 := fun d os => cell_regrown e2 d os
                  have h3 := fun d os => cell_regrown e3 d os
                  obtain ⟨f, hf⟩ : ∃ f, fairB (rq d s n) ⟨P, t, K', n⟩ = f := ⟨_, rfl⟩
                  have HFF := Lib.hid hf
                  clear hf
                  have hff : ((f : Bool) != f) = false := by cases f <;> rfl
                  refine wp_region_quiet_below (by kernel_rfl) (by kernel_rfl) ?_
                  repeat (any_goals (first | go_big_quiet_step (first | (go_at_call 9; exact Calls.regrown_of ((fair_any (rq d s n) ⟨P, t, K', n⟩ _ HOK.out).mono fun e w' h => ⟨by rw [h.1, HFF.out], h.2⟩)) | (go_at_call 10; exact Calls.regrown_of ((rfair_any (rq d s n) ⟨P, t, K', n⟩ _ HOK.out).mono fun e w' h => ⟨by rw [h.1, HFF.out], h.2⟩))) | quiet_step (fail)))
                  refine wpQuiet_nil ?_
                  intro w10 hw10
                  have HB10 : Hid (Below w5.heap.size w5 w10) := by
                    have hb10 : Below W9.heap.size W9 w10 := by obtain ⟨p, rfl⟩ := hw10; exact below_regrown _ _ _
                    exact Below.step HB9.out hb10
                  clear hw10
                  go_wp2_with fail
                  go_roundw
                  case rel => exact ⟨j + 1, by have := HJ.out; omega, by go_num, HB10.out⟩
                  case measure => have := HJ.out; simp [intOf]; omega
                · have hj5 : ¬ (j : Int) - 2 ≤ 2 := by omega
                  go_wp2_with fail
                  go_roundw
                  case rel => exact ⟨k + 1, by have := HK.out; omega, by go_num, Below.step HB5.out HB6.out, HF6.out, cs, HC5.out.below HB6.out, HOC.out.1, HOC.out.2⟩
                  case measure => have := HK.out; simp [intOf]; omega
            · have hk6 : ¬ (k : Int) < 6 := by omega
              clear hok hcs
              go_wp2_with fail
              go_roundw
              case rel => exact ⟨d + 1, by have := HD.out; omega, by go_num, HB3.out⟩
              case measure => have := HD.out; simp [intOf]; omega
        · have hd13 : ¬ (d : Int) - 1 ≤ 11 := by omega
          obtain ⟨c, hc⟩ : ∃ c : UInt8, c.toNat = n % 3 * 60 := ⟨UInt8.ofNat (n % 3 * 60), by simp; omega⟩
          have hcv : ∀ W : World, (convert 41 9 (.slice (some ⟨W.heap.size, 0, none⟩) 1 1)).run Try.prog (W.alloc (.cells #[.int .u8 ((n : Int) % 3 * 60)] 5)) = .ok (.string (one c)) (W.alloc (.cells #[.int .u8 ((n : Int) % 3 * 60)] 5)) := fun W => by
            rw [show (n : Int) % 3 * 60 = (c.toNat : Int) from by rw [hc]; omega]
            exact run_convert_one W 41 9 5 c Try.underlying41 Try.underlying5 Try.underlying9
          have hon : (one c).size = 1 := rfl
          have hs40 : s.size ≤ 40 := by have := HN.out; omega
          clear hc
          go_wp2_with fail
          go_roundw
          case rel => exact ⟨n + 1, by have := HN.out; omega, by go_num, s ++ one c, rfl, by rw [append_size]; have := HN.out; omega, Below.new HB2.out _⟩
          case measure => have := HN.out; simp [intOf]; omega
    · have hn19 : ¬ (n : Int) < 19 := by omega
      have hz : (long33).size = 33 := rfl
      go_wp2_with fail
      go_region
      all_goals
        obtain ⟨l32, hl32⟩ : ∃ l, long33.extract 0 32 = l := ⟨_, rfl⟩
        obtain ⟨l16, hl16⟩ : ∃ l, long33.extract 0 16 = l := ⟨_, rfl⟩
        have h32 : l32.size ≤ 40 := by rw [← hl32, ByteArray.size_extract]; omega
        have h16 : l16.size ≤ 40 := by rw [← hl16, ByteArray.size_extract]; omega
        rw [hl32, hl16]
        have HAT := Lib.hid (at10 l32 l16 h32 h16)
        clear hl32 hl16 h32 h16
        obtain ⟨b, hb⟩ : ∃ b, b = wr.heap.size + 1 := ⟨_, rfl⟩
        obtain ⟨W0, hW0⟩ : ∃ W0, W0 = ((wr.alloc (.cells (madeCells #[.int .u8 0] 33) 5)).alloc (.cells (cells10 l32 l16) 31)).drew := ⟨_, rfl⟩
        have HFW : Hid (Fresh W0 b (cells10 l32 l16) 31) := by show Fresh _ _ _ _; rw [hW0]; exact (Fresh.new _ _ _ _ (by rw [hb]; simp))
        have HBW : Hid (Below w.heap.size w W0) := by show Below _ _ _; rw [hW0]; exact (Below.new (Below.new HB.out _) _).drew
        have hW1 : W0 = ((wr.alloc (.cells (madeCells #[.int .u8 0] 33) 5)).alloc (.cells #[.int .i64 2, .int .i64 0, .int .u32 0, .int .u8 0, .string ⟨#[]⟩, .string l32, .string ⟨#[]⟩, .int .i64 0, .int .i64 0, .int .u64 0, .int .u64 0, .int .u8 0, .int .i64 2, .int .i64 0, .int .u32 0, .int .u8 0, .string ⟨#[]⟩, .string long33, .string ⟨#[]⟩, .int .i64 0, .int .i64 0, .int .u64 0, .int .u64 0, .int .u8 0, .int .i64 1, .int .i64 0, .int .u32 0, .int .u8 0, .string ⟨#[]⟩, .string ⟨#[]⟩, .string long33, .int .i64 0, .int .i64 0, .int .u64 0, .int .u64 0, .int .u8 0, .int .i64 1, .int .i64 0, .int .u32 0, .int .u8 0, .string ⟨#[]⟩, .string ⟨#[]⟩, .string l32, .int .i64 0, .int .i64 0, .int .u64 0, .int .u64 0, .int .u8 0, .int .i64 5, .int .i64 0, .int .u32 0, .int .u8 0, .string ⟨#[]⟩, .string ⟨#[]⟩, .string ⟨#[]⟩, .int .i64 4096, .int .i64 0, .int .u64 0, .int .u64 0, .int .u8 0, .int .i64 5, .int .i64 0, .int .u32 0, .int .u8 0, .string ⟨#[]⟩, .string ⟨#[]⟩, .string ⟨#[]⟩, .int .i64 4097, .int .i64 0, .int .u64 0, .int .u64 0, .int .u8 0, .int .i64 5, .int .i64 0, .int .u32 0, .int .u8 0, .string ⟨#[]⟩, .string ⟨#[]⟩, .string ⟨#[]⟩, .int .i64 (-1), .int .i64 0, .int .u64 0, .int .u64 0, .int .u8 0, .int .i64 1, .int .i64 0, .int .u32 0, .int .u8 0, .string ⟨#[]⟩, .string ⟨#[]⟩, .string ⟨#[]⟩, .int .i64 (-1), .int .i64 0, .int .u64 0, .int .u64 0, .int .u8 0, .int .i64 1, .int .i64 0, .int .u32 0, .int .u8 0, .string l16, .string ⟨#[]⟩, .string ⟨#[]⟩, .int .i64 0, .int .i64 0, .int .u64 0, .int .u64 0, .int .u8 0, .int .i64 3, .int .i64 0, .int .u32 0, .int .u8 0, .string l16, .string ⟨#[]⟩, .string ⟨#[]⟩, .int .i64 0, .int .i64 0, .int .u64 0, .int .u64 0, .int .u8 0] 31)).drew := hW0
        rw [← hW1, ← hb]
        clear hW0 hW1 hb
        go_wp2_with fail
        go_loopw [102] (fun i wr => ∃ k : Nat, k ≤ 10 ∧ i = .int .i64 k ∧ Below w.heap.size w wr ∧ Fresh wr b (cells10 l32 l16) 31) (fun i _ => 10 - (intOf i).toNat)
        case atStart => exact ⟨0, by omega, rfl, HBW.out, HFW.out⟩
        case round =>
          obtain ⟨k, hk, rfl, hB3, hF3⟩ := hrel
          have HB3 := Lib.hid hB3
          have HF3 := Lib.hid hF3
          clear hB3 hF3
          by_cases h10 : k < 10
          · obtain ⟨r, hr, hrc⟩ := HAT.out k h10
            have hk10 : (k : Int) < 10 := by omega
            have hk0 : (0 : Int) ≤ (k : Int) := Int.natCast_nonneg _
            have HK := Lib.hid h10
            have HR := Lib.hid hr
            have HRC := Lib.hid hrc
            have x0 : wr.cell? ⟨b, k * 12, none⟩ = some (.int .i64 r.d) := (HF3.out.cell (k * 12)).trans (hrc 0 _ rfl)
            have x1 : wr.cell? ⟨b, k * 12 + 1, none⟩ = some (.int .i64 r.ht) := (HF3.out.cell (k * 12 + 1)).trans (hrc 1 _ rfl)
            have x2 : wr.cell? ⟨b, k * 12 + 2, none⟩ = some (.int .u32 r.hg) := (HF3.out.cell (k * 12 + 2)).trans (hrc 2 _ rfl)
            have x3 : wr.cell? ⟨b, k * 12 + 3, none⟩ = some (.int .u8 r.hr) := (HF3.out.cell (k * 12 + 3)).trans (hrc 3 _ rfl)
            have x4 : wr.cell? ⟨b, k * 12 + 4, none⟩ = some (.string r.key) := (HF3.out.cell (k * 12 + 4)).trans (hrc 4 _ rfl)
            have x5 : wr.cell? ⟨b, k * 12 + 5, none⟩ = some (.string r.val) := (HF3.out.cell (k * 12 + 5)).trans (hrc 5 _ rfl)
            have x6 : wr.cell? ⟨b, k * 12 + 6, none⟩ = some (.string r.old) := (HF3.out.cell (k * 12 + 6)).trans (hrc 6 _ rfl)
            have x7 : wr.cell? ⟨b, k * 12 + 7, none⟩ = some (.int .i64 r.lim) := (HF3.out.cell (k * 12 + 7)).trans (hrc 7 _ rfl)
            have x8 : wr.cell? ⟨b, k * 12 + 8, none⟩ = some (.int .i64 r.ten) := (HF3.out.cell (k * 12 + 8)).trans (hrc 8 _ rfl)
            have x9 : wr.cell? ⟨b, k * 12 + 9, none⟩ = some (.int .u64 r.qk) := (HF3.out.cell (k * 12 + 9)).trans (hrc 9 _ rfl)
            have x10 : wr.cell? ⟨b, k * 12 + 10, none⟩ = some (.int .u64 r.qb) := (HF3.out.cell (k * 12 + 10)).trans (hrc 10 _ rfl)
            have x11 : wr.cell? ⟨b, k * 12 + 11, none⟩ = some (.int .u8 r.rts) := (HF3.out.cell (k * 12 + 11)).trans (hrc 11 _ rfl)
            clear h10 hk hr hrc
            go_wp2_with fail
            have HF8 := Lib.hid (fresh_req wr r _ rfl)
            have HB8 := Lib.hid (Below.new HB3.out (.cells (Req.cells r) 31))
            have HG8 := Lib.hid (HF3.out.alloc (.cells (Req.cells r) 31))
            clear x0 x1 x2 x3 x4 x5 x6 x7 x8 x9 x10 x11
            obtain ⟨wo, rfl⟩ : ∃ wo : World, wo = wr := ⟨_, rfl⟩
            go_loopw [108] (fun i wr => ∃ j : Nat, j ≤ 5 ∧ i = .int .i64 j ∧ Below w.heap.size w wr ∧ Fresh wr b (cells10 l32 l16) 31 ∧ Fresh wr wo.heap.size (Req.cells r) 31 ∧ ∃ cs, Fresh wr (wo.heap.size + 1) cs 3 ∧ okT cs = true ∧ cs.size = 5) (fun i _ => 5 - (intOf i).toNat)
            case atStart => exact ⟨0, by omega, rfl, Below.new HB8.out _, HG8.out.alloc _, HF8.out.alloc _, _, Fresh.new _ _ _ _ (by simp), by decide, rfl⟩
            case round =>
              obtain ⟨j, hj, rfl, hB4, hG4, hF4, cs, hC4, hok, hcs⟩ := hrel
              have HB4 := Lib.hid hB4
              have HG4 := Lib.hid hG4
              have HF4 := Lib.hid hF4
              have HC4 := Lib.hid hC4
              have HOC := Lib.hid (And.intro hok hcs)
              clear hB4 hG4 hF4 hC4
              by_cases h5 : j < 5
              · obtain ⟨m, hm⟩ := okT_at hok j (by omega)
                have hj5 : (j : Int) < 5 := by omega
                have hj0 : (0 : Int) ≤ (j : Int) := Int.natCast_nonneg _
                have y0 := HC4.out.cell j
                rw [hm] at y0
                obtain ⟨c0, c1, c2, c3, c4, c5, c6, c7, c8, c9, c10, c11⟩ := req_cells HF4.out
                have HJ := Lib.hid h5
                clear hm hok hcs h5 hj
                go_wp2_with fail
                refine (bounds_any r 0 m _ HR.out).mono ?_
                rintro e w5 ⟨rfl, hb5⟩
                have HB5 := Lib.hid (Below.step HB4.out hb5)
                have HG5 := Lib.hid (HG4.out.below hb5)
                have HF5 := Lib.hid (HF4.out.below hb5)
                have HC5 := Lib.hid (HC4.out.below hb5)
                clear hb5 y0 c0 c1 c2 c3 c4 c5 c6 c7 c8 c9 c10 c11
                obtain ⟨c0, c1, c2, c3, c4, c5, c6, c7, c8, c9, c10, c11⟩ := req_cells HF5.out
                go_wp2_with fail
                refine (bounds_any r 28 m _ HR.out).mono ?_
                rintro e w6 ⟨rfl, hb6⟩
                have HB6 := Lib.hid (Below.step HB5.out hb6)
                have HG6 := Lib.hid (HG5.out.below hb6)
                have HF6 := Lib.hid (HF5.out.below hb6)
                have HC6 := Lib.hid (HC5.out.below hb6)
                clear hb6 c0 c1 c2 c3 c4 c5 c6 c7 c8 c9 c10 c11
                obtain ⟨c0, c1, c2, c3, c4, c5, c6, c7, c8, c9, c10, c11⟩ := req_cells HF6.out
                go_wp2_with fail
                refine (bounds_any r 29 m _ HR.out).mono ?_
                rintro e w7 ⟨rfl, hb7⟩
                have HB7 := Lib.hid (Below.step HB6.out hb7)
                have HG7 := Lib.hid (HG6.out.below hb7)
                have HF7 := Lib.hid (HF6.out.below hb7)
                have HC7 := Lib.hid (HC6.out.below hb7)
                clear hb7 c0 c1 c2 c3 c4 c5 c6 c7 c8 c9 c10 c11
                go_wp2_with fail
                go_roundw
                case rel => exact ⟨j + 1, by have := HJ.out; omega, by go_num, HB7.out, HG7.out, HF7.out, cs, HC7.out, HOC.out.1, HOC.out.2⟩
                case measure => have := HJ.out; simp [intOf]; omega
              · have hj5 : ¬ (j : Int) < 5 := by omega
                clear hok hcs
                go_wp2_with fail
                go_roundw
                case rel => exact ⟨k + 1, by have := HK.out; omega, by go_num, HB4.out, HG4.out⟩
                case measure => have := HK.out; simp [intOf]; omega
          · have hk10 : ¬ (k : Int) < 10 := by omega
            go_wp2_with fail
            refine (awake_any _).mono ?_
            rintro e w5 ⟨rfl, hb5⟩
            go_wp2_with fail
            go_ret
            exact ⟨rfl, Below.step HB3.out hb5⟩

end Go.Proofs.Ytjlfgmjcmicoaaa
