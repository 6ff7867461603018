/- The law's fits of a deed; Get, pairs over a book of the call's own. -/
import Derived.Test.YtcpmnkihhenbgaaAct
namespace Go.Proofs.Ytcpmnkihhenbgaa
open Go.RowKit
set_option maxRecDepth 1000000
set_option maxHeartbeats 4000000

def Dd.fit (d : Dd) : Bool := decide (d.key.size ≤ 100 ∧ d.value.size ≤ 100 ∧ d.old.size ≤ 100)
theorem fitD_any (d : Dd) (W : World) : Calls Try.prog 11 #[d.v] W fun e' w' => e' = .returned (.bool d.fit) ∧ Below W.heap.size W w' := by
  obtain ⟨W1, hW1⟩ : ∃ W1, W1 = W.alloc (.cells d.cs 33) := ⟨_, rfl⟩
  have B1 : Hid (Below W.heap.size W W1) := by show Below _ _ _; rw [hW1]; exact Below.new (Below.refl _ _) _
  have f1 : Fresh W1 W.heap.size d.cs 33 := by rw [hW1]; exact Fresh.new _ _ _ _ rfl
  have c1 : W1.cell? ⟨W.heap.size, 1, none⟩ = some (.string d.key) := f1.cell 1
  have c2 : W1.cell? ⟨W.heap.size, 2, none⟩ = some (.string d.value) := f1.cell 2
  have c3 : W1.cell? ⟨W.heap.size, 3, none⟩ = some (.string d.old) := f1.cell 3
  unfold Dd.cs at hW1
  have HW1 := Lib.hid hW1
  clear hW1 f1
  obtain ⟨r, hr⟩ : ∃ r, d.fit = r := ⟨_, rfl⟩
  have HR := Lib.hid hr
  rw [hr]
  clear hr
  unfold Dd.v
  by_cases h1 : d.key.size ≤ 100
  · have k1 : (d.key.size : Int) ≤ 100 := by omega
    by_cases h2 : d.value.size ≤ 100
    · have k2 : (d.value.size : Int) ≤ 100 := by omega
      by_cases h3 : d.old.size ≤ 100
      · have k3 : (d.old.size : Int) ≤ 100 := by omega
        go_enter Try.func11, Try.ntmps11
        go_upto_region 1 with fail
        rw [← HW1.out]
        go_wp2_with fail
        go_ret
        refine ⟨?_, B1.out⟩
        rw [← HR.out]
        simp [Dd.fit, h1, h2, h3]
      · have k3 : ¬ (d.old.size : Int) ≤ 100 := by omega
        go_enter Try.func11, Try.ntmps11
        go_upto_region 1 with fail
        rw [← HW1.out]
        go_wp2_with fail
        go_ret
        refine ⟨?_, B1.out⟩
        rw [← HR.out]
        simp [Dd.fit, h1, h2, h3]
    · have k2 : ¬ (d.value.size : Int) ≤ 100 := by omega
      go_enter Try.func11, Try.ntmps11
      go_upto_region 1 with fail
      rw [← HW1.out]
      go_wp2_with fail
      go_ret
      refine ⟨?_, B1.out⟩
      rw [← HR.out]
      simp [Dd.fit, h1, h2]
  · have k1 : ¬ (d.key.size : Int) ≤ 100 := by omega
    go_enter Try.func11, Try.ntmps11
    go_upto_region 1 with fail
    rw [← HW1.out]
    go_wp2_with fail
    go_ret
    refine ⟨?_, B1.out⟩
    rw [← HR.out]
    simp [Dd.fit, h1]
theorem get_here {w W : World} {p q e m : Nat} {l : List Pr} {K B : Nat} (h : Here w W p q e m l K B) (x : ByteArray) :
    Calls Try.prog 28 #[.pointer (some ⟨p, 0, none⟩), .string x] W fun e' w' => e' = .returned (.tuple #[.string (getB x l).1, .int .i64 (getB x l).2]) ∧ Here w w' p q e m l K B :=
  (get_any h.bk x).mono (by rintro e' w' ⟨h1, h2⟩; exact ⟨h1, h.below h2⟩)
theorem pairs_here {w W : World} {p q e m : Nat} {l : List Pr} {K B : Nat} (h : Here w W p q e m l K B) (hn : l.length < 100000) :
    Calls Try.prog 21 #[.pointer (some ⟨p, 0, none⟩)] W fun e' w' => ∃ v, e' = .returned v ∧ Here w w' p q e m l K B ∧ Below W.heap.size W w' ∧ Holds w' v l ∧ ∀ k, v.ownBlock = some k → W.heap.size ≤ k :=
  (pairs_any h.bk hn).mono (by rintro e' w' ⟨v, h1, h2, h3⟩; exact ⟨v, h1, h.below h2, h2, Holds.of_own h3, fun k hk => (h3.lt k hk).1⟩)
end Go.Proofs.Ytcpmnkihhenbgaa
