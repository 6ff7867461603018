/- A slab that is whole: how many places are taken, none of them below 'low' is usable. Plain mathematics. -/
import Derived.Test.YtbbadkgmnfjfaaaTakeM
import Derived.Test.YtbbadkgmnfjfaaaRow
namespace Go.Proofs.Ytbbadkgmnfjfaaa
open Go.RowKit

def cnt (l : List Ce) : Nat := l.countP (·.t)
structure Wf (s : Sb) (N b : Nat) : Prop where
  len : s.l.length = N
  u : ∀ t ∈ s.l, 0 ≤ t.u ∧ t.u ≤ b
  n : s.len = cnt s.l
  f : s.left = (N : Int) - cnt s.l
  lo : 0 ≤ s.low ∧ s.low ≤ N
  low : ∀ j : Nat, (j : Int) < s.low → ∀ t, s.l[j]? = some t → t.t = true
theorem Wf.more {s : Sb} {N b c : Nat} (h : Wf s N b) (hb : b ≤ c) : Wf s N c := ⟨h.len, fun t ht => ⟨(h.u t ht).1, by have := (h.u t ht).2; omega⟩, h.n, h.f, h.lo, h.low⟩
theorem cnt_le (l : List Ce) : cnt l ≤ l.length := List.countP_le_length
theorem cnt_set (l : List Ce) (i : Nat) (t t' : Ce) (h : l[i]? = some t) : cnt (l.set i t') + (if t.t then 1 else 0) = cnt l + (if t'.t then 1 else 0) := by
  induction l generalizing i with
  | nil => simp at h
  | cons a l ih =>
    cases i with
    | zero =>
      simp at h
      subst h
      simp only [cnt, List.set_cons_zero, List.countP_cons]
      omega
    | succ i =>
      have := ih i (by simpa using h)
      simp only [cnt, List.set_cons_succ, List.countP_cons] at *
      omega
theorem cnt_all {l : List Ce} (h : cnt l = l.length) : ∀ t ∈ l, t.t = true := List.countP_eq_length.1 h
theorem us_all {l : List Ce} {lo k j : Nat} (h1 : lo ≤ j) (h2 : j < k) (hu : ((l[j]?).map Ce.usable).getD false = true) : j ∈ us l lo k := by
  induction k with
  | zero => omega
  | succ k ih =>
    rw [us, List.mem_append]
    by_cases e : j = k
    · subst e
      right
      rw [if_pos ⟨h1, hu⟩]
      simp
    · exact .inl (ih (by omega))
theorem us_sorted (l : List Ce) (lo : Nat) : ∀ k, (us l lo k).Pairwise (· < ·)
  | 0 => List.Pairwise.nil
  | k + 1 => by
    rw [us, List.pairwise_append]
    refine ⟨us_sorted l lo k, ?_, ?_⟩
    · split <;> simp
    · intro a ha b hb
      have := (us_lt l lo k a ha).2.1
      split at hb
      · simp at hb; omega
      · simp at hb
/-- What Take does: the least free place, or none is left. -/
theorem take_cases {s : Sb} {N b : Nat} (h : Wf s N b) (hb : b < 4294967295) (v : Value) :
    (cnt s.l = N ∧ takeSb s s.low.toNat v = (s, none)) ∨
    (∃ (i : Nat) (t : Ce), s.l[i]? = some t ∧ t.t = false ∧ cnt s.l < N ∧ takeSb s s.low.toNat v = ({ s with l := s.l.set i ⟨v, t.u + 1, true⟩, len := s.len + 1, left := s.left - 1, low := (i : Int) + 1 }, some (i, t.u + 1)) ∧
      Wf { s with l := s.l.set i ⟨v, t.u + 1, true⟩, len := s.len + 1, left := s.left - 1, low := (i : Int) + 1 } N (b + 1)) := by
  have hsort := us_sorted s.l s.low.toNat s.l.length
  have hall : ∀ j, s.low.toNat ≤ j → j < s.l.length → ((s.l[j]?).map Ce.usable).getD false = true → j ∈ us s.l s.low.toNat s.l.length := fun j h1 h2 h3 => us_all h1 h2 h3
  have hlt := us_lt s.l s.low.toNat s.l.length
  -- a place that is not usable is taken
  have htak : ∀ (j : Nat) (t : Ce), s.l[j]? = some t → ((s.l[j]?).map Ce.usable).getD false = false → t.t = true := by
    intro j t ht hu
    rw [ht] at hu
    simp [Ce.usable] at hu
    cases e : t.t with
    | true => rfl
    | false =>
      have h1 := hu e
      have := (h.u t (List.mem_of_getElem? ht)).2
      omega
  cases hus : us s.l s.low.toNat s.l.length with
  | nil =>
    left
    have hf : firstUs s.l s.low.toNat = none := by unfold firstUs; rw [hus]; rfl
    refine ⟨?_, by unfold takeSb; rw [hf]⟩
    rw [← h.len]
    refine List.countP_eq_length.2 fun t ht => ?_
    obtain ⟨j, hj⟩ := List.mem_iff_getElem?.1 ht
    by_cases hjl : (j : Int) < s.low
    · exact h.low j hjl t hj
    · have hjs := (List.getElem?_eq_some_iff.1 hj).1
      refine htak j t hj ?_
      cases e : ((s.l[j]?).map Ce.usable).getD false with
      | false => rfl
      | true =>
        have := hall j (by omega) hjs e
        rw [hus] at this
        cases this
  | cons i r =>
    right
    have hi : i ∈ us s.l s.low.toNat s.l.length := by rw [hus]; simp
    obtain ⟨h1, h2, h3⟩ := hlt i hi
    obtain ⟨t, ht⟩ : ∃ t, s.l[i]? = some t := ⟨s.l[i], List.getElem?_eq_getElem h2⟩
    rw [ht] at h3
    simp [Ce.usable] at h3
    have hf : firstUs s.l s.low.toNat = some i := by unfold firstUs; rw [hus]; rfl
    have hc := cnt_set s.l i t ⟨v, t.u + 1, true⟩ ht
    rw [h3.1] at hc
    simp at hc
    have hle := cnt_le (s.l.set i ⟨v, t.u + 1, true⟩)
    rw [List.length_set, h.len] at hle
    refine ⟨i, t, ht, h3.1, by omega, by unfold takeSb; rw [hf]; dsimp only; rw [ht], ?_⟩
    refine ⟨by show (s.l.set i _).length = N; rw [List.length_set]; exact h.len, ?_, ?_, ?_, ?_, ?_⟩
    · intro x hx
      rcases List.mem_or_eq_of_mem_set hx with hx | rfl
      · have := h.u x hx
        exact ⟨this.1, by omega⟩
      · have := h.u t (List.mem_of_getElem? ht)
        exact ⟨by show 0 ≤ t.u + 1; omega, by show t.u + 1 ≤ _; omega⟩
    · show s.len + 1 = _
      rw [h.n, hc]
      rfl
    · show s.left - 1 = _
      rw [h.f]
      show (N : Int) - cnt s.l - 1 = (N : Int) - (cnt (s.l.set i _) : Int)
      omega
    · show 0 ≤ (i : Int) + 1 ∧ (i : Int) + 1 ≤ N
      have := h.len
      omega
    · intro j hj x hx
      have hj : (j : Int) < (i : Int) + 1 := hj
      have hx : (s.l.set i ⟨v, t.u + 1, true⟩)[j]? = some x := hx
      by_cases e : i = j
      · subst e
        rw [List.getElem?_set_self h2] at hx
        cases hx
        rfl
      · rw [List.getElem?_set_ne e] at hx
        by_cases hjl : (j : Int) < s.low
        · exact h.low j hjl x hx
        · refine htak j x hx ?_
          cases e2 : ((s.l[j]?).map Ce.usable).getD false with
          | false => rfl
          | true =>
            have hm := hall j (by omega) (List.getElem?_eq_some_iff.1 hx).1 e2
            rw [hus] at hm hsort
            rcases List.mem_cons.1 hm with rfl | hm
            · omega
            · have := (List.pairwise_cons.1 hsort).1 j hm
              omega
theorem Wf.rel {s : Sb} {N b i : Nat} {t : Ce} (h : Wf s N b) (hb : b < 4294967295) (z : Value) (ht : s.l[i]? = some t) (htt : t.t = true) : Wf (relSb z s i t.u) N b := by
  have hu := h.u t (List.mem_of_getElem? ht)
  have hi := (List.getElem?_eq_some_iff.1 ht).1
  have hlt : t.u < 4294967295 := by omega
  have hc := cnt_set s.l i t ⟨z, t.u, false⟩ ht
  rw [htt] at hc
  simp at hc
  have e : relSb z s i t.u = { s with l := s.l.set i ⟨z, t.u, false⟩, len := s.len - 1, left := s.left + 1, low := min s.low i } := by unfold relSb; rw [if_pos hlt, if_pos hlt]
  rw [e]
  refine ⟨by show (s.l.set i _).length = N; rw [List.length_set]; exact h.len, ?_, ?_, ?_, ?_, ?_⟩
  · intro x hx
    rcases List.mem_or_eq_of_mem_set hx with hx | rfl
    · exact h.u x hx
    · exact hu
  · show s.len - 1 = (cnt (s.l.set i _) : Int)
    rw [h.n]
    omega
  · show s.left + 1 = (N : Int) - (cnt (s.l.set i _) : Int)
    rw [h.f]
    omega
  · have := h.lo
    show 0 ≤ min s.low (i : Int) ∧ min s.low (i : Int) ≤ N
    omega
  · intro j hj x hx
    have hj : (j : Int) < min s.low (i : Int) := hj
    have hx : (s.l.set i ⟨z, t.u, false⟩)[j]? = some x := hx
    rw [List.getElem?_set_ne (by omega)] at hx
    exact h.low j (by omega) x hx
theorem Wf.setx {s : Sb} {N b i : Nat} {t : Ce} (h : Wf s N b) (v : Value) (ht : s.l[i]? = some t) : Wf { s with l := s.l.set i { t with x := v } } N b := by
  have hc := cnt_set s.l i t { t with x := v } ht
  have hc : cnt (s.l.set i { t with x := v }) = cnt s.l := by
    dsimp only at hc
    omega
  refine ⟨by show (s.l.set i _).length = N; rw [List.length_set]; exact h.len, ?_, by show s.len = _; rw [hc]; exact h.n, by show s.left = _; rw [hc]; exact h.f, h.lo, ?_⟩
  · intro x hx
    rcases List.mem_or_eq_of_mem_set hx with hx | rfl
    · exact h.u x hx
    · exact h.u t (List.mem_of_getElem? ht)
  · intro j hj x hx
    have hx : (s.l.set i { t with x := v })[j]? = some x := hx
    by_cases e : i = j
    · subst e
      rw [List.getElem?_set_self (List.getElem?_eq_some_iff.1 ht).1] at hx
      cases hx
      exact h.low i hj t ht
    · rw [List.getElem?_set_ne e] at hx
      exact h.low j hj x hx
theorem new_wf (z : Value) (N : Nat) : Wf (newSb z N) N 0 := by
  have hc : cnt (List.replicate N (⟨z, 0, false⟩ : Ce)) = 0 := by
    refine List.countP_eq_zero.2 fun t ht => ?_
    rw [(List.mem_replicate.1 ht).2]
    simp
  refine ⟨by simp [newSb], ?_, ?_, ?_, by show (0 : Int) ≤ 0 ∧ (0 : Int) ≤ N; omega, ?_⟩
  · intro t ht
    rw [(List.mem_replicate.1 ht).2]
    exact ⟨by show (0 : Int) ≤ 0; omega, by show (0 : Int) ≤ _; omega⟩
  · show (0 : Int) = _
    rw [show (newSb z N).l = List.replicate N ⟨z, 0, false⟩ from rfl, hc]
    rfl
  · show (N : Int) = (N : Int) - _
    rw [show (newSb z N).l = List.replicate N ⟨z, 0, false⟩ from rfl, hc]
    simp
  · intro j hj
    have hj : (j : Int) < 0 := hj
    omega
end Go.Proofs.Ytbbadkgmnfjfaaa
