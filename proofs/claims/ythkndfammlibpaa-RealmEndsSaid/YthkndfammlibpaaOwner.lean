/- The walk of Owner. -/
import Derived.Test.YthkndfammlibpaaFirst
import Derived.Test.YthkndfammlibpaaRange
namespace Go.Proofs.Ythkndfammlibpaa
open Go.RowKit
set_option maxRecDepth 100000
set_option maxHeartbeats 2000000

theorem hasPrefix_any (s p : ByteArray) (w : World) :
    Calls Try.prog 32 #[.string s, .string p] w fun e w' => e = .returned (.bool (begins s p)) ∧ w' = w := by
  have q0 : (0 : Int) ≤ (p.size : Int) := Int.natCast_nonneg _
  have q1 : (0 : Int) ≤ (s.size : Int) := Int.natCast_nonneg _
  by_cases h : p.size ≤ s.size
  · have k1 : (p.size : Int) ≤ (s.size : Int) := by omega
    go_enter Try.func32, Try.ntmps32
    go_wp2
    refine bodyPost_ret (v := .bool (begins s p)) (by simp [results, Try.results32, go_sem, begins, h]) rfl ?_
    exact ⟨rfl, rfl⟩
  · have k1 : (s.size : Int) < (p.size : Int) := by omega
    go_enter Try.func32, Try.ntmps32
    go_wp2
    refine bodyPost_ret (v := .bool (begins s p)) (by simp [results, Try.results32, go_sem, begins, h]) rfl ?_
    exact ⟨rfl, rfl⟩
theorem hasPrefixS_any (s p : ByteArray) (w : World) :
    Calls Try.prog 22 #[.string s, .string p] w fun e w' => e = .returned (.bool (begins s p)) ∧ w' = w := by
  have H := Lib.hid (hasPrefix_any s p)
  go_enter Try.func22, Try.ntmps22
  go_wp2_with (go_at_call 32; refine (H.out _).mono ?_; rintro e w1 ⟨rfl, rfl⟩)
  go_ret
  exact ⟨rfl, rfl⟩
theorem owner1_any (k : Nat) (hk : k ≤ 16) (s : ByteArray) (b : Nat) (w : World) (hc : w.cell? ⟨b, 0, none⟩ = some (.string s)) (hb : b < w.heap.size) :
    Calls Try.prog 21 #[.int .i64 (k : Int), .pointer (some ⟨b, 0, none⟩)] w fun e w' => e = .returned (.bool (begins s (pre k))) ∧ Below w.heap.size w w' := by
  have HP := Lib.hid (prefix_any k hk)
  have HH := Lib.hid (hasPrefixS_any s (pre k))
  obtain ⟨x, hx⟩ : ∃ x, begins s (pre k) = x := ⟨_, rfl⟩
  rw [hx] at HH ⊢
  go_enter Try.func21, Try.ntmps21
  go_wp2_with fail
  have hcell : ∀ x : Regrown, (Sort.grow (redrawn w x.d) x.os).cell? ⟨b, 0, none⟩ = some (.string s) := fun x => ((below_regrown w x.d x.os).cell (p := ⟨b, 0, none⟩) hb).trans hc
  refine wp_region_quiet_below (by kernel_rfl) (by kernel_rfl) ?_
  repeat (any_goals (first | go_big_quiet_step ((first | (go_at_call 23; exact Calls.regrown_of (HP.out _)) | (go_at_call 22; exact Calls.regrown_of ((HH.out _).mono fun e w' h => ⟨h.1, by rw [h.2]; exact Below.refl _ _⟩)))) | quiet_step (fail)))
  refine wpQuiet_nil ?_
  intro w3 hw3
  have hb3 : Below w.heap.size w w3 := by obtain ⟨p, rfl⟩ := hw3; exact below_regrown _ _ _
  clear hw3
  go_wp2_with fail
  go_ret
  exact ⟨rfl, hb3⟩

/-- The first tenant in whose realm a text lies. -/
def ownerOf (s : ByteArray) : Option Nat := firstOf (fun k => begins s (pre k))
def ownerV (s : ByteArray) : Value := match ownerOf s with
  | some k => .tuple #[.int .i64 (k : Int), .bool true]
  | none => .tuple #[.int .i64 0, .bool false]
theorem owner_any (s : ByteArray) (w : World) :
    Calls Try.prog 10 #[.string s] w fun e w' => e = .returned (ownerV s) ∧ Below w.heap.size w w' := by
  have hF : ∀ W : World, W.cell? ⟨w.heap.size, 0, none⟩ = some (.string s) → Calls Try.prog 20 #[.func (.func 21) #[] #[.pointer (some ⟨w.heap.size, 0, none⟩)]] W fun e w' => e = .returned (ownerV s) ∧ Below W.heap.size W w' := fun W hW => by
    have hlt : w.heap.size < W.heap.size := by
      rcases Nat.lt_or_ge w.heap.size W.heap.size with h | h
      · exact h
      · simp [World.cell?, Array.getElem?_eq_none h] at hW
    exact (callsIn_wide (n := 4)).1 (first_in 4 (by omega) 21 #[.pointer (some ⟨w.heap.size, 0, none⟩)] (fun k => begins s (pre k)) W (enters_of Try.func21 (by kernel_rfl) rfl)
      (fun k W' _ h2 hb => owner1_any k h2 s _ W' ((hb.cell (p := ⟨w.heap.size, 0, none⟩) hlt).trans hW) (Nat.lt_of_lt_of_le hlt hb.size)))
  have HF := Lib.hid hF
  clear hF
  have hmf := @makeFunc_run Try.prog
  have hc := (Fresh.new w w.heap.size #[.string s] 9 rfl).cell 0
  cases ho : ownerOf s with
  | none =>
    rw [show ownerV s = .tuple #[.int .i64 0, .bool false] from by rw [ownerV, ho]] at HF ⊢
    go_enter Try.func10, Try.ntmps10
    go_wp2_with (go_at_call 20; refine (HF.out _ (hc.trans rfl)).mono ?_; rintro e w1 ⟨rfl, hb1⟩)
    go_ret2
    exact ⟨rfl, Below.step ((Below.refl _ _).alloc (Nat.le_refl _) _) hb1⟩
  | some k =>
    rw [show ownerV s = .tuple #[.int .i64 (k : Int), .bool true] from by rw [ownerV, ho]] at HF ⊢
    go_enter Try.func10, Try.ntmps10
    go_wp2_with (go_at_call 20; refine (HF.out _ (hc.trans rfl)).mono ?_; rintro e w1 ⟨rfl, hb1⟩)
    go_ret2
    exact ⟨rfl, Below.step ((Below.refl _ _).alloc (Nat.le_refl _) _) hb1⟩
end Go.Proofs.Ythkndfammlibpaa
