/- The walks of the reference's Free, Lock, Drop, Done, Kill. -/
import Derived.Test.YthhmbmeajgjhcaaRefs
namespace Go.Proofs.Ythhmbmeajgjhcaa
open Go.RowKit
set_option maxRecDepth 100000
set_option maxHeartbeats 1000000

theorem fieldP1 (a b c : Value) (w : World) : (Instr.field 74 (.agg #[a, b, c]) 1).run Try.prog w = .ok b w := by kernel_rfl
theorem fieldP2 (a b c : Value) (w : World) : (Instr.field 74 (.agg #[a, b, c]) 2).run Try.prog w = .ok c w := by kernel_rfl

theorem freeR_any (n : Int) (w : World) (h : W64 n) :
    Calls Try.prog 61 #[.int .u64 n] w fun e w' => e = .returned (.bool (n % 4 == 0)) ∧ Below w.heap.size w w' := by
  have H := Lib.hid h
  have f1 := fieldP1
  have f2 := fieldP2
  clear h
  by_cases h1 : n % 2 = 1
  all_goals
    have d1 : (n % 2 == 1) = decide (n % 2 = 1) := by rw [Bool.eq_iff_iff]; simp
    simp only [h1, decide_true, decide_false] at d1
    have H1 := Lib.hid h1
    clear h1
    go_enter Try.func61, Try.ntmps61
    go_wp2_with (go_at_call 45; refine (ofR_any n _ H.out).mono ?_; rintro e w1 ⟨rfl, hb1⟩)
    go_ret
    have := H1.out
    exact ⟨ret_bool (by rw [Bool.eq_iff_iff]; simp; omega), by first | exact hb1 | exact Below.step (by assumption) hb1⟩

theorem block_below {w1 w2 : World} {cs : Array Value} {T : TypeId} (hb : Below (w1.alloc (.cells cs T)).heap.size (w1.alloc (.cells cs T)) w2) (i : Nat) (v : Value) (h : cs[i]? = some v) :
    w2.cell? ⟨w1.heap.size, i, none⟩ = some v ∧ w2.frozen? ⟨w1.heap.size, i, none⟩ = false := by
  constructor
  · rw [hb.cell (p := ⟨w1.heap.size, i, none⟩) (by simp), World.cell?_alloc_new, h]
  · rw [hb.frozen (p := ⟨w1.heap.size, i, none⟩) (by simp), World.frozen?_alloc_new]

theorem lockR_yes (n : Int) (w : World) (h : W64 n) (he : n % 4 = 0) :
    Calls Try.prog 44 #[.int .u64 n] w fun e w' => e = .returned (.tuple #[.int .u64 (n + 1), .bool true]) ∧ Below w.heap.size w w' := by
  have H := Lib.hid h
  have d1 : (n % 4 == 0) = true := by simpa using he
  have d2 : (n % 2 == 1) = false := by simp; omega
  have d3 : (n / 2 % 2 == 1) = false := by simp; omega
  have B1 : Hid (0 ≤ n / 4) := by show 0 ≤ n / 4; have := h.1; omega
  have B2 : Hid (n / 4 < 4611686018427387904) := by show n / 4 < _; have := h.2; omega
  have V : Hid (VN (n / 4) true false = n + 1) := by show _ = _; simp [VN]; omega
  clear h he
  go_enter Try.func44, Try.ntmps44
  go_wp2_with (first | (go_at_call 45; refine (ofR_any n _ H.out).mono ?_; rintro e w1 ⟨rfl, hb1⟩) | (go_at_call 61; refine (freeR_any n _ H.out).mono ?_; rintro e w2 ⟨rfl, hb2⟩; have c0 := (block_below hb2 0 _ rfl).1; have c1 := (block_below hb2 1 _ rfl).1; have c2 := (block_below hb2 2 _ rfl).1; have z1 := (block_below hb2 1 _ rfl).2) | (go_at_call 62; refine (wordR_any _ _ _ _ B1.out B2.out).mono ?_; rintro e w3 ⟨rfl, hb3⟩))
  go_ret2
  exact ⟨by rw [V.out]; rfl, Below.step ((Below.step (Below.new hb1 _) hb2).setCell (p := ⟨w1.heap.size, 1, none⟩) hb1.size _) hb3⟩

theorem lockR_no (n : Int) (w : World) (h : W64 n) (he : ¬ n % 4 = 0) :
    Calls Try.prog 44 #[.int .u64 n] w fun e w' => e = .returned (.tuple #[.int .u64 n, .bool false]) ∧ Below w.heap.size w w' := by
  have H := Lib.hid h
  have d1 : (n % 4 == 0) = false := by simpa using he
  clear h he
  go_enter Try.func44, Try.ntmps44
  go_wp2_with (first | (go_at_call 45; refine (ofR_any n _ H.out).mono ?_; rintro e w1 ⟨rfl, hb1⟩) | (go_at_call 61; refine (freeR_any n _ H.out).mono ?_; rintro e w2 ⟨rfl, hb2⟩))
  go_ret2
  exact ⟨rfl, Below.step (Below.new hb1 _) hb2⟩

theorem dropR_yes (n : Int) (w : World) (h : W64 n) (he : n % 4 = 1) :
    Calls Try.prog 46 #[.int .u64 n] w fun e w' => e = .returned (.tuple #[.int .u64 (n - 1), .bool true]) ∧ Below w.heap.size w w' := by
  have H := Lib.hid h
  have d2 : (n % 2 == 1) = true := by simp; omega
  have d3 : (n / 2 % 2 == 1) = false := by simp; omega
  have B1 : Hid (0 ≤ n / 4) := by show 0 ≤ n / 4; have := h.1; omega
  have B2 : Hid (n / 4 < 4611686018427387904) := by show n / 4 < _; have := h.2; omega
  have V : Hid (VN (n / 4) false false = n - 1) := by show _ = _; simp [VN]; omega
  clear h he
  go_enter Try.func46, Try.ntmps46
  go_wp2_with (first | (go_at_call 45; refine (ofR_any n _ H.out).mono ?_; rintro e w1 ⟨rfl, hb1⟩) | (go_at_call 62; refine (wordR_any _ _ _ _ B1.out B2.out).mono ?_; rintro e w3 ⟨rfl, hb3⟩))
  go_ret2
  exact ⟨by rw [V.out]; rfl, Below.step (Below.new hb1 _) hb3⟩

theorem dropR_no (n : Int) (w : World) (h : W64 n) (he : ¬ n % 4 = 1) :
    Calls Try.prog 46 #[.int .u64 n] w fun e w' => e = .returned (.tuple #[.int .u64 n, .bool false]) ∧ Below w.heap.size w w' := by
  have H := Lib.hid h
  by_cases h1 : n % 2 = 1
  · have d2 : (n % 2 == 1) = true := by simp; omega
    have d3 : (n / 2 % 2 == 1) = true := by simp; omega
    clear h he h1
    go_enter Try.func46, Try.ntmps46
    go_wp2_with (go_at_call 45; refine (ofR_any n _ H.out).mono ?_; rintro e w1 ⟨rfl, hb1⟩)
    go_ret2
    exact ⟨rfl, Below.new hb1 _⟩
  · have d2 : (n % 2 == 1) = false := by simp; omega
    clear h he h1
    go_enter Try.func46, Try.ntmps46
    go_wp2_with (go_at_call 45; refine (ofR_any n _ H.out).mono ?_; rintro e w1 ⟨rfl, hb1⟩)
    go_ret2
    exact ⟨rfl, Below.new hb1 _⟩

end Go.Proofs.Ythhmbmeajgjhcaa
