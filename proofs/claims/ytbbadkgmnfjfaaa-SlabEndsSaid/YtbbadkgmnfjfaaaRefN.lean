/- The reference model of a slab: New. -/
import Derived.Test.YtbbadkgmnfjfaaaRefT
namespace Go.Proofs.Ytbbadkgmnfjfaaa
open Go.RowKit
set_option maxRecDepth 100000
set_option maxHeartbeats 4000000

theorem madeP (n : Nat) : madeCells #[.bool false, .int .i64 0, .int .u32 0] (n * 3) = (pc (List.replicate n ⟨.int .i64 0, 0, false⟩)).toArray := by
  apply Array.ext_getElem?
  intro k
  by_cases hk : k < n * 3
  · have hi : k / 3 < n := by omega
    obtain ⟨a0, a1, a2⟩ := pc_at (List.replicate n ⟨.int .i64 0, 0, false⟩) (k / 3) ⟨.int .i64 0, 0, false⟩ (by rw [List.getElem?_replicate, if_pos hi])
    have hl : (madeCells #[.bool false, .int .i64 0, .int .u32 0] (n * 3))[k]? = some (#[Value.bool false, Value.int .i64 0, Value.int .u32 0][k % 3]!) := by
      unfold madeCells
      rw [Array.getElem?_map, Array.getElem?_range, if_pos hk]
      rfl
    rw [hl, List.getElem?_toArray]
    rcases (show k % 3 = 0 ∨ k % 3 = 1 ∨ k % 3 = 2 from by omega) with h | h | h
    · rw [h, show k = k / 3 * 3 from by omega, a0]; rfl
    · rw [h, show k = k / 3 * 3 + 1 from by omega, a1]; rfl
    · rw [h, show k = k / 3 * 3 + 2 from by omega, a2]; rfl
  · rw [Array.getElem?_eq_none (by rw [size_madeCells]; omega), List.getElem?_toArray, List.getElem?_eq_none (by rw [pc_length, List.length_replicate]; omega)]
theorem infoP : ∃ i0 : TypeInfo, Try.prog.info? 73 = some i0 ∧ i0.zero = some (.agg #[.bool false, .int .i64 0, .int .u32 0]) ∧ i0.size = 3 ∧ i0.bytes ≤ 32 := by
  have h : (Try.prog.info? 73).map (fun i => (i.zero, i.size, decide (i.bytes ≤ 32))) = some (some (.agg #[.bool false, .int .i64 0, .int .u32 0]), 3, true) := by kernel_rfl
  cases hi : Try.prog.info? 73 with
  | none => rw [hi] at h; simp at h
  | some i0 =>
    rw [hi] at h
    simp only [Option.map_some, Option.some.injEq, Prod.mk.injEq] at h
    exact ⟨i0, rfl, h.1, h.2.1, of_decide_eq_true h.2.2⟩
theorem run_mkP (n : Nat) (hn : n ≤ 4096) (w : World) : (Instr.makeSlice 68 (.int .i64 (n : Int)) (.int .i64 (n : Int))).run Try.prog w = .ok (.slice (some ⟨w.heap.size, 0, none⟩) n n) (w.alloc (.cells (pc (List.replicate n ⟨.int .i64 0, 0, false⟩)).toArray 73)) := by
  obtain ⟨i0, hi, hz, hs, hb⟩ := infoP
  have h1 : (i0.bytes : Int) * (n : Int) ≤ 281474976710656 := by
    have : i0.bytes * n ≤ 32 * 4096 := Nat.mul_le_mul hb hn
    have h2 : ((i0.bytes * n : Nat) : Int) ≤ ((32 * 4096 : Nat) : Int) := Int.ofNat_le.2 this
    rw [Int.natCast_mul] at h2
    omega
  have := run_make (P := Try.prog) w 68 73 i0 _ Try.underlying68 hi hz .i64 .i64 (n : Int) (n : Int) (Int.natCast_nonneg _) (Int.le_refl _) h1 (by omega)
  rw [this, Int.toNat_natCast, hs]
  show Result.ok _ (w.alloc (.cells (madeCells #[.bool false, .int .i64 0, .int .u32 0] (n * 3)) _)) = _
  rw [madeP]
theorem rnew_yes (n : Nat) (h1 : 1 ≤ n) (hn : n ≤ 4096) (w : World) :
    Calls Try.prog 9 #[.int .i64 n] w fun e w' => ∃ r gr, w.heap.size ≤ r ∧ w.heap.size ≤ gr ∧ e = .returned (.tuple #[.pointer (some ⟨r, 0, none⟩), .bool true]) ∧ Below w.heap.size w w' ∧ RAt w' r gr (newSb (.int .i64 0) n).l := by
  have hmk := run_mkP n hn
  have q1 : decide ((n : Int) < 1) = false := decide_eq_false (by omega)
  have q2 : decide ((4096 : Int) < (n : Int)) = false := decide_eq_false (by omega)
  have HL : Hid ((List.replicate n (⟨.int .i64 0, 0, false⟩ : Ce)).length = n) := List.length_replicate
  clear h1 hn
  go_enter Try.func9, Try.ntmps9
  go_wp2_with fail
  go_ret2
  refine ⟨w.heap.size + 1, w.heap.size, by omega, by omega, rfl, Below.new (Below.new (Below.refl _ _) _) _, ?_, ?_⟩
  · show Fresh _ _ #[.slice _ (newSb (.int .i64 0) n).l.length (newSb (.int .i64 0) n).l.length] _
    have e : (newSb (.int .i64 0) n).l.length = n := HL.out
    rw [e]
    exact Fresh.new _ _ _ _ (by simp)
  · exact (Fresh.new _ _ _ _ rfl).alloc _
theorem rnew_no (n : Int) (hn : ¬ (1 ≤ n ∧ n ≤ 4096)) (w : World) :
    Calls Try.prog 9 #[.int .i64 n] w fun e w' => e = .returned (.tuple #[.pointer none, .bool false]) ∧ w' = w := by
  have hc : decide (n < 1) = true ∨ (decide (n < 1) = false ∧ decide (4096 < n) = true) := by
    simp only [decide_eq_true_eq, decide_eq_false_iff_not]; omega
  clear hn
  rcases hc with q1 | ⟨q1, q2⟩
  all_goals
    go_enter Try.func9, Try.ntmps9
    go_wp2_with fail
    go_ret2
    exact ⟨rfl, rfl⟩
end Go.Proofs.Ytbbadkgmnfjfaaa
