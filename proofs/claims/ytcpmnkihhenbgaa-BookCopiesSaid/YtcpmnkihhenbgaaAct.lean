/- The law's act: an operation by its number. -/
import Derived.Test.YtcpmnkihhenbgaaScan
import Derived.Test.YtcpmnkihhenbgaaAwakeB
import Derived.Test.YtcpmnkihhenbgaaPick
namespace Go.Proofs.Ytcpmnkihhenbgaa
open Go.RowKit
set_option maxRecDepth 1000000
set_option maxHeartbeats 4000000

/-- A deed. -/
structure Dd where
  what : Int
  key : ByteArray
  value : ByteArray
  old : ByteArray
  n : Int
def Dd.v (d : Dd) : Value := .agg #[.int .i64 d.what, .string d.key, .string d.value, .string d.old, .int .i64 d.n]
def Dd.cs (d : Dd) : Array Value := #[.int .i64 d.what, .string d.key, .string d.value, .string d.old, .int .i64 d.n]
def actS (d : Dd) (l : List Pr) (K B : Nat) : List Pr × Int :=
  if d.what % 6 = 3 then delB d.key l else if d.what % 6 = 4 then swapB d.key d.old d.value l K B else if d.what % 6 = 5 then (l, (scanB d.key d.n l).2) else putB d.key d.value l K B
theorem act_here {w W : World} {p q e m : Nat} {l : List Pr} {K B : Nat} (h : Here w W p q e m l K B) (hn : l.length < 100000) (d : Dd) :
    Calls Try.prog 22 #[.pointer (some ⟨p, 0, none⟩), d.v] W fun e' w' => e' = .returned (.int .i64 (actS d l K B).2) ∧ ∃ e2, Here w w' p q e2 m (actS d l K B).1 K B ∧ Turned [q, e, m] W w' := by
  obtain ⟨W1, hW1⟩ : ∃ W1, W1 = W.alloc (.cells d.cs 33) := ⟨_, rfl⟩
  have B1 : Below W.heap.size W W1 := by rw [hW1]; exact Below.new (Below.refl _ _) _
  have f1 : Fresh W1 W.heap.size d.cs 33 := by rw [hW1]; exact Fresh.new _ _ _ _ rfl
  have HB := Lib.hid (h.below B1)
  have HB1 := Lib.hid B1
  have c0 : W1.cell? ⟨W.heap.size, 0, none⟩ = some (.int .i64 d.what) := f1.cell 0
  have c1 : W1.cell? ⟨W.heap.size, 1, none⟩ = some (.string d.key) := f1.cell 1
  have c2 : W1.cell? ⟨W.heap.size, 2, none⟩ = some (.string d.value) := f1.cell 2
  have c3 : W1.cell? ⟨W.heap.size, 3, none⟩ = some (.string d.old) := f1.cell 3
  have c4 : W1.cell? ⟨W.heap.size, 4, none⟩ = some (.int .i64 d.n) := f1.cell 4
  have HP := Lib.hid (pick_any d.what 6 (by omega) (by omega) W1)
  unfold Dd.cs at hW1
  have HW1 := Lib.hid hW1
  clear h hW1 B1 f1
  unfold actS
  obtain ⟨c, hc⟩ : ∃ c, d.what % 6 = c := ⟨_, rfl⟩
  rw [hc] at HP ⊢
  by_cases h3 : c = 3
  · subst h3
    rw [if_pos rfl]
    clear hc
    go_enter Try.func22, Try.ntmps22
    unfold Dd.v
    go_upto_region 1 with fail
    rw [← HW1.out]
    go_wp2_with (first
      | (go_at_call 27; refine HP.out.mono ?_; rintro e1 w1 ⟨rfl, hw1⟩; replace hw1 := hw1.symm; subst hw1)
      | (go_at_call 29; refine (delete_here HB.out hn d.key).mono ?_; rintro e2 w2 ⟨rfl, g2, h2, t2⟩))
    go_ret
    exact ⟨rfl, g2, h2, (Turned.of_below HB1.out).trans t2⟩
  rw [if_neg h3]
  by_cases h4 : c = 4
  · subst h4
    rw [if_pos rfl]
    clear hc h3
    go_enter Try.func22, Try.ntmps22
    unfold Dd.v
    go_upto_region 1 with fail
    rw [← HW1.out]
    go_wp2_with (first
      | (go_at_call 27; refine HP.out.mono ?_; rintro e1 w1 ⟨rfl, hw1⟩; replace hw1 := hw1.symm; subst hw1)
      | (go_at_call 30; refine (swap_here HB.out hn d.key d.old d.value).mono ?_; rintro e2 w2 ⟨rfl, g2, h2, t2⟩))
    go_ret
    exact ⟨rfl, g2, h2, (Turned.of_below HB1.out).trans t2⟩
  rw [if_neg h4]
  by_cases h5 : c = 5
  · subst h5
    rw [if_pos rfl]
    clear hc h3 h4
    go_enter Try.func22, Try.ntmps22
    unfold Dd.v
    go_upto_region 1 with fail
    rw [← HW1.out]
    go_wp2_with (first
      | (go_at_call 27; refine HP.out.mono ?_; rintro e1 w1 ⟨rfl, hw1⟩; replace hw1 := hw1.symm; subst hw1)
      | (go_at_call 14; refine (scan_any HB.out.bk hn d.key d.n).mono ?_; rintro e2 w2 ⟨v2, rfl, hb2, _⟩))
    go_ret
    exact ⟨rfl, e, HB.out.below hb2, Turned.of_below (Below.step HB1.out hb2)⟩
  · rw [if_neg h5]
    clear hc
    go_enter Try.func22, Try.ntmps22
    unfold Dd.v
    go_upto_region 1 with fail
    rw [← HW1.out]
    go_wp2_with (first
      | (go_at_call 27; refine HP.out.mono ?_; rintro e1 w1 ⟨rfl, hw1⟩; replace hw1 := hw1.symm; subst hw1)
      | (go_at_call 31; refine (put_here HB.out hn d.key d.value).mono ?_; rintro e2 w2 ⟨rfl, g2, h2, t2⟩))
    go_ret
    exact ⟨rfl, g2, h2, (Turned.of_below HB1.out).trans t2⟩
end Go.Proofs.Ytcpmnkihhenbgaa
