/- The walks of a view: whether a handle is valid. -/
import Derived.Test.YtcfkaginjcgmhaaDoorKit
namespace Go.Proofs.YtcfkaginjcgmhaaDoor
open Go.RowKit
set_option maxRecDepth 100000
set_option maxHeartbeats 1000000

/-- A handle, by value. -/
abbrev hv (t g r : Int) : Value := .agg #[.int .i64 t, .int .u32 g, .int .u8 r]
def rightZ (t g r : Int) : Bool := decide (1 ≤ t ∧ t ≤ 16) && decide (1 ≤ g) && decide (1 ≤ r ∧ r ≤ 7)

theorem tenant_any (t g r : Int) (w : World) :
    Calls Tryd.prog 31 #[hv t g r] w fun e w' => e = .returned (.bool (decide (1 ≤ t ∧ t ≤ 16))) ∧ Below w.heap.size w w' := by
  by_cases h1 : 1 ≤ t
  all_goals
    go_enter Tryd.func31, Tryd.ntmps31
    go_wp2
    go_ret
    exact ⟨ret_bool (by simp [h1] <;> omega), (Below.refl _ _).alloc (Nat.le_refl _) _⟩

theorem gen_any (t g r : Int) (w : World) :
    Calls Tryd.prog 32 #[hv t g r] w fun e w' => e = .returned (.bool (decide (1 ≤ g))) ∧ Below w.heap.size w w' := by
  go_enter Tryd.func32, Tryd.ntmps32
  go_wp2
  go_ret
  exact ⟨ret_bool (by simp), (Below.refl _ _).alloc (Nat.le_refl _) _⟩

theorem vrights_any (t g r : Int) (w : World) :
    Calls Tryd.prog 33 #[hv t g r] w fun e w' => e = .returned (.bool (decide (1 ≤ r ∧ r ≤ 7))) ∧ Below w.heap.size w w' := by
  by_cases h1 : 1 ≤ r
  all_goals
    go_enter Tryd.func33, Tryd.ntmps33
    go_wp2
    go_ret
    exact ⟨ret_bool (by simp [h1] <;> omega), (Below.refl _ _).alloc (Nat.le_refl _) _⟩

theorem right_any (t g r : Int) (w : World) :
    Calls Tryd.prog 25 #[hv t g r] w fun e w' => e = .returned (.bool (rightZ t g r)) ∧ Below w.heap.size w w' := by
  obtain ⟨a, ha⟩ : ∃ a : Bool, decide (1 ≤ t ∧ t ≤ 16) = a := ⟨_, rfl⟩
  obtain ⟨b, hb⟩ : ∃ b : Bool, decide (1 ≤ g) = b := ⟨_, rfl⟩
  obtain ⟨c, hc⟩ : ∃ c : Bool, decide (1 ≤ r ∧ r ≤ 7) = c := ⟨_, rfl⟩
  have HZ : Hid (rightZ t g r = (a && b && c)) := by show _ = _; unfold rightZ; rw [ha, hb, hc]
  have HA := Lib.hid ha
  have HB := Lib.hid hb
  have HC := Lib.hid hc
  have hmf := @makeFunc_run Tryd.prog
  clear ha hb hc
  go_enter Tryd.func25, Tryd.ntmps25
  go_wp2_with fail
  go_loopw [4, 13] (fun x i wr => ∃ k : Nat, k ≤ 3 ∧ i = .int .i64 k ∧ Below w.heap.size w wr ∧ Hid ((1 ≤ k → a = true) ∧ (2 ≤ k → b = true) ∧ (3 ≤ k → c = true)) ∧ wr.cell? ⟨w.heap.size + 1, 0, none⟩ = some (.func (.func 31) #[hv t g r] #[]) ∧ wr.cell? ⟨w.heap.size + 1, 1, none⟩ = some (.func (.func 32) #[hv t g r] #[]) ∧ wr.cell? ⟨w.heap.size + 1, 2, none⟩ = some (.func (.func 33) #[hv t g r] #[]) ∧ w.heap.size + 1 < wr.heap.size) (fun x i _ => 3 - (intOf i).toNat)
  case atStart => exact ⟨0, by omega, rfl, ((Below.refl _ _).alloc (Nat.le_refl _) _).alloc (by simp) _, ⟨by omega, by omega, by omega⟩, by simp [go_sem], by simp [go_sem], by simp [go_sem], by simp⟩
  case round =>
    obtain ⟨k, hk, rfl, hB, HP, c0, c1, c2, hlt⟩ := hrel
    rcases (show k = 0 ∨ k = 1 ∨ k = 2 ∨ k = 3 from by omega) with rfl | rfl | rfl | rfl
    · cases a
      · go_wp2_with fail
        refine (tenant_any t g r _).mono ?_
        rw [HA.out]
        rintro e w1 ⟨rfl, hb1⟩
        have HBB := Lib.hid (hB.trans (hb1.mono hB.size))
        go_wp2_with fail
        go_ret
        exact ⟨ret_bool (by rw [HZ.out]; simp), HBB.out⟩
      · have KEEP : Hid (∀ (w1 : World) (j : Nat), Below wr.heap.size wr w1 → w1.cell? ⟨w.heap.size + 1, j, none⟩ = wr.cell? ⟨w.heap.size + 1, j, none⟩) := fun w1 j hb => hb.cell (p := ⟨w.heap.size + 1, j, none⟩) hlt
        go_wp2_with fail
        refine (tenant_any t g r _).mono ?_
        rw [HA.out]
        rintro e w1 ⟨rfl, hb1⟩
        have HB1 := Lib.hid hb1
        have HBB := Lib.hid (hB.trans (hb1.mono hB.size))
        go_wp2_with fail
        exact ⟨⟨1, by omega, rfl, HBB.out, ⟨fun _ => trivial, fun h => absurd h (by omega), fun h => absurd h (by omega)⟩, (KEEP.out _ _ HB1.out).trans c0, (KEEP.out _ _ HB1.out).trans c1, (KEEP.out _ _ HB1.out).trans c2, Nat.lt_of_lt_of_le hlt HB1.out.size⟩, by simp [intOf]⟩
    · cases b
      · go_wp2_with fail
        refine (gen_any t g r _).mono ?_
        rw [HB.out]
        rintro e w1 ⟨rfl, hb1⟩
        have HBB := Lib.hid (hB.trans (hb1.mono hB.size))
        go_wp2_with fail
        go_ret
        exact ⟨ret_bool (by rw [HZ.out]; simp), HBB.out⟩
      · have KEEP : Hid (∀ (w1 : World) (j : Nat), Below wr.heap.size wr w1 → w1.cell? ⟨w.heap.size + 1, j, none⟩ = wr.cell? ⟨w.heap.size + 1, j, none⟩) := fun w1 j hb => hb.cell (p := ⟨w.heap.size + 1, j, none⟩) hlt
        go_wp2_with fail
        refine (gen_any t g r _).mono ?_
        rw [HB.out]
        rintro e w1 ⟨rfl, hb1⟩
        have HB1 := Lib.hid hb1
        have HBB := Lib.hid (hB.trans (hb1.mono hB.size))
        go_wp2_with fail
        exact ⟨⟨2, by omega, rfl, HBB.out, ⟨fun _ => HP.1 (by omega), fun _ => trivial, fun h => absurd h (by omega)⟩, (KEEP.out _ _ HB1.out).trans c0, (KEEP.out _ _ HB1.out).trans c1, (KEEP.out _ _ HB1.out).trans c2, Nat.lt_of_lt_of_le hlt HB1.out.size⟩, by simp [intOf]⟩
    · cases c
      · go_wp2_with fail
        refine (vrights_any t g r _).mono ?_
        rw [HC.out]
        rintro e w1 ⟨rfl, hb1⟩
        have HBB := Lib.hid (hB.trans (hb1.mono hB.size))
        go_wp2_with fail
        go_ret
        exact ⟨ret_bool (by rw [HZ.out]; simp), HBB.out⟩
      · have KEEP : Hid (∀ (w1 : World) (j : Nat), Below wr.heap.size wr w1 → w1.cell? ⟨w.heap.size + 1, j, none⟩ = wr.cell? ⟨w.heap.size + 1, j, none⟩) := fun w1 j hb => hb.cell (p := ⟨w.heap.size + 1, j, none⟩) hlt
        go_wp2_with fail
        refine (vrights_any t g r _).mono ?_
        rw [HC.out]
        rintro e w1 ⟨rfl, hb1⟩
        have HB1 := Lib.hid hb1
        have HBB := Lib.hid (hB.trans (hb1.mono hB.size))
        go_wp2_with fail
        exact ⟨⟨3, by omega, rfl, HBB.out, ⟨fun _ => HP.1 (by omega), fun _ => HP.2.1 (by omega), fun _ => trivial⟩, (KEEP.out _ _ HB1.out).trans c0, (KEEP.out _ _ HB1.out).trans c1, (KEEP.out _ _ HB1.out).trans c2, Nat.lt_of_lt_of_le hlt HB1.out.size⟩, by simp [intOf]⟩
    · have h1 := HP.1 (by omega)
      have h2 := HP.2.1 (by omega)
      have h3 := HP.2.2 (by omega)
      have HT : Hid (rightZ t g r = true) := by show _ = _; rw [HZ.out, h1, h2, h3]; rfl
      clear h1 h2 h3
      go_wp2_with fail
      go_ret
      exact ⟨ret_bool HT.out.symm, hB⟩

end Go.Proofs.YtcfkaginjcgmhaaDoor
