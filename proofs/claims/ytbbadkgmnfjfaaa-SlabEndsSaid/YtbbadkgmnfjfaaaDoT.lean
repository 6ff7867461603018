/- Take on the reference, as the slab's own state tells it. -/
import Derived.Test.YtbbadkgmnfjfaaaRefN
import Derived.Test.YtbbadkgmnfjfaaaWf
namespace Go.Proofs.Ytbbadkgmnfjfaaa
open Go.RowKit

theorem first_none {l : List Ce} {lo : Nat} (h : firstUs l lo = none) (hl : ∀ j : Nat, j < lo → ∀ t, l[j]? = some t → t.t = true) (j : Nat) (t : Ce) (ht : l[j]? = some t) : (!t.t && decide (t.u < 4294967295)) = false := by
  by_cases hj : j < lo
  · rw [hl j hj t ht]; rfl
  · cases hu : (!t.t && decide (t.u < 4294967295)) with
    | false => rfl
    | true =>
      have hm := us_all (l := l) (lo := lo) (k := l.length) (j := j) (by omega) (List.getElem?_eq_some_iff.1 ht).1 (by rw [ht]; exact hu)
      unfold firstUs at h
      rw [List.head?_eq_none_iff] at h
      rw [h] at hm
      simp at hm
theorem first_some {l : List Ce} {lo i : Nat} (h : firstUs l lo = some i) (hl : ∀ j : Nat, j < lo → ∀ t, l[j]? = some t → t.t = true) :
    ((l[i]?).map Ce.usable).getD false = true ∧ ∀ (j : Nat) (t : Ce), j < i → l[j]? = some t → (!t.t && decide (t.u < 4294967295)) = false := by
  unfold firstUs at h
  have hmem : i ∈ us l lo l.length := List.mem_of_mem_head? (by rw [h]; rfl)
  refine ⟨(us_lt l lo l.length i hmem).2.2, fun j t hji ht => ?_⟩
  by_cases hj : j < lo
  · rw [hl j hj t ht]; rfl
  · cases hu : (!t.t && decide (t.u < 4294967295)) with
    | false => rfl
    | true =>
      have hm := us_all (l := l) (lo := lo) (k := l.length) (j := j) (by omega) (List.getElem?_eq_some_iff.1 ht).1 (by rw [ht]; exact hu)
      have hs := us_sorted l lo l.length
      cases hq : us l lo l.length with
      | nil => rw [hq] at hm; simp at hm
      | cons x q =>
        rw [hq] at h hm hs
        simp only [List.head?_cons, Option.some.injEq] at h
        subst h
        rcases List.mem_cons.1 hm with rfl | hm
        · omega
        · have := (List.pairwise_cons.1 hs).1 j hm
          omega
theorem rtake_any {W : World} {r gr : Nat} {s : Sb} {N b : Nat} (h : RAt W r gr s.l) (hW : Wf s N b) (hN : N ≤ 4096) (hx : ∀ (j : Nat) (t : Ce), s.l[j]? = some t → ∃ v : Int, t.x = .int .i64 v) (y : Int) :
    Calls Try.prog 30 #[.pointer (some ⟨r, 0, none⟩), .int .i64 y] W fun e w' =>
      (takeSb s s.low.toNat (.int .i64 y) = (s, none) ∧ e = .returned (.tuple #[refV 0 0, .int .i64 14]) ∧ Below W.heap.size W w') ∨
      (∃ (i : Nat) (u : Int) (s' : Sb), takeSb s s.low.toNat (.int .i64 y) = (s', some (i, u)) ∧ e = .returned (.tuple #[refV i u, .int .i64 0]) ∧ Turned [gr] W w' ∧ RAt w' r gr s'.l) := by
  have hl : s.l.length ≤ 5000 := by have := hW.len; omega
  have hlow : ∀ j : Nat, j < s.low.toNat → ∀ t, s.l[j]? = some t → t.t = true := fun j hj t ht => hW.low j (by have := hW.lo; omega) t ht
  have hxu : ∀ (j : Nat) (t : Ce), s.l[j]? = some t → (∃ v : Int, t.x = .int .i64 v) ∧ 0 ≤ t.u := fun j t ht => ⟨hx j t ht, (hW.u t (List.mem_iff_getElem?.2 ⟨j, ht⟩)).1⟩
  cases hf : firstUs s.l s.low.toNat with
  | none =>
    have e : takeSb s s.low.toNat (.int .i64 y) = (s, none) := by unfold takeSb; rw [hf]
    exact (rtake_no h y hl hxu (first_none hf hlow)).mono fun _ _ k => .inl ⟨e, k⟩
  | some i =>
    obtain ⟨h1, h2⟩ := first_some hf hlow
    cases ht : s.l[i]? with
    | none => rw [ht] at h1; simp at h1
    | some t =>
      rw [ht] at h1
      have e : takeSb s s.low.toNat (.int .i64 y) = ({ s with l := s.l.set i ⟨.int .i64 y, t.u + 1, true⟩, len := s.len + 1, left := s.left - 1, low := (i : Int) + 1 }, some (i, t.u + 1)) := by
        unfold takeSb
        rw [hf]
        dsimp only
        rw [ht]
      exact (rtake_yes h y hl hxu i t ht h1 h2).mono fun _ _ ⟨k1, k2, k3⟩ => .inr ⟨i, t.u + 1, _, e, k1, k2, k3⟩
end Go.Proofs.Ytbbadkgmnfjfaaa
