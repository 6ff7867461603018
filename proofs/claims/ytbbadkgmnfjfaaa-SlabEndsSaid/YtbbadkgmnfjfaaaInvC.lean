/- The methods of a slab, over what was told of its references. -/
import Derived.Test.YtbbadkgmnfjfaaaInv
import Derived.Test.YtbbadkgmnfjfaaaTaken
namespace Go.Proofs.Ytbbadkgmnfjfaaa
open Go.RowKit
set_option maxRecDepth 100000
set_option maxHeartbeats 4000000

theorem Wf.bounds {s : Sb} {N b : Nat} (h : Wf s N b) (hN : N ≤ 4096) : (-10000 ≤ s.len ∧ s.len ≤ 10000) ∧ (-10000 ≤ s.left ∧ s.left ≤ 10000) ∧ s.l.length ≤ 5000 ∧ (∀ t ∈ s.l, 0 ≤ t.u) ∧ s.low.toNat ≤ s.l.length ∧ s.low = (s.low.toNat : Int) := by
  have h1 := cnt_le s.l
  have h2 := h.len
  have h3 := h.n
  have h4 := h.f
  have h5 := h.lo
  exact ⟨by omega, by omega, by omega, fun t ht => (h.u t ht).1, by omega, by omega⟩

theorem take_inv {w : World} {p a g : Nat} {s : Sb} {N b : Nat} {T : List Rf} {L : List Bool} {H : List Int} (hA : Si.At w p a g s) (hI : Inv s N b T L H) (hN : N ≤ 4096) (hb : b < 4294967295) (y : Int) :
    Calls Try.prog 12 #[.pointer (some ⟨p, 0, none⟩), .int .i64 y] w fun e w' =>
      (e = .returned (.tuple #[refV 0 0, .int .i64 14]) ∧ Turned [a, g] w w' ∧ Si.At w' p a g s ∧ L.countP id = N) ∨
      (∃ (i : Nat) (u : Int) (s' : Sb), e = .returned (.tuple #[refV i u, .int .i64 0]) ∧ Turned [a, g] w w' ∧ Si.At w' p a g s' ∧ Inv s' N (b + 1) (T ++ [⟨i, u⟩]) (L ++ [true]) (H ++ [y]) ∧ L.countP id < N ∧ ∀ (k : Nat) (r : Rf), T[k]? = some r → ¬ (r.s = i ∧ r.g = u)) := by
  obtain ⟨b1, b2, b3, b4, b5, b6⟩ := hI.wf.bounds hN
  rcases take_cases hI.wf hb (.int .i64 y) with ⟨h1, h2⟩ | ⟨i, t, h1, h2, h3, h4, h5⟩
  · exact (Si.Take_no hA y _ b5 b6 b3 b4 b1 b2 h2).mono fun e w' ⟨he, ht, ha⟩ => .inl ⟨he, ht, ha, by rw [hI.cnt]; exact h1⟩
  · obtain ⟨h6, h7⟩ := hI.take hb y h1 h2 h5
    exact (Si.Take_ok hA y _ b5 b6 b3 b4 b1 b2 h4).mono fun e w' ⟨he, ht, ha⟩ => .inr ⟨i, _, _, he, ht, ha, h6, by rw [hI.cnt]; exact h3, h7⟩
theorem free_inv {w : World} {p a g : Nat} {s : Sb} {N b : Nat} {T : List Rf} {L : List Bool} {H : List Int} (hA : Si.At w p a g s) (hI : Inv s N b T L H) (hN : N ≤ 4096) (hb : b < 4294967295) {n : Nat} {r : Rf} {c : Bool} (hr : T[n]? = some r) (hc : L[n]? = some c) :
    Calls Try.prog 14 #[.pointer (some ⟨p, 0, none⟩), refV r.s r.g] w fun e w' => ∃ s', e = .returned (.int .i64 (if c = true then 0 else 5)) ∧ Turned [a, g] w w' ∧ Si.At w' p a g s' ∧ Inv s' N b T (L.set n false) H := by
  obtain ⟨b1, b2, b3, b4, b5, b6⟩ := hI.wf.bounds hN
  obtain ⟨x, t, h1, h2, h3, h4⟩ := hI.live hr
  rw [hc] at h3
  injection h3 with h3
  rw [← h3] at h4
  cases c with
  | true =>
    have h5 : (t.t && t.u == r.g) = true := h3.symm
    simp only [Bool.and_eq_true, beq_iff_eq] at h5
    exact (Si.free_some hA r.s r.g b3 b1 b2 x t h4 h2).mono fun e w' ⟨he, ht, ha⟩ => ⟨_, he, ht, ha, hI.free hb _ hr h1 h2 h5.1 h5.2⟩
  | false =>
    exact (Si.free_none hA r.s r.g b3 h4).mono fun e w' ⟨he, hb'⟩ => ⟨s, he, Turned.of_below hb', hA.below hb', hI.freed hc⟩
theorem set_inv {w : World} {p a g : Nat} {s : Sb} {N b : Nat} {T : List Rf} {L : List Bool} {H : List Int} (hA : Si.At w p a g s) (hI : Inv s N b T L H) (hN : N ≤ 4096) (y : Int) {n : Nat} {r : Rf} {c : Bool} (hr : T[n]? = some r) (hc : L[n]? = some c) :
    Calls Try.prog 19 #[.pointer (some ⟨p, 0, none⟩), refV r.s r.g, .int .i64 y] w fun e w' => ∃ s', e = .returned (.int .i64 (if c = true then 0 else 5)) ∧ Turned [a, g] w w' ∧ Si.At w' p a g s' ∧ Inv s' N b T L (H.set n y) := by
  obtain ⟨b1, b2, b3, b4, b5, b6⟩ := hI.wf.bounds hN
  obtain ⟨x, t, h1, h2, h3, h4⟩ := hI.live hr
  rw [hc] at h3
  injection h3 with h3
  rw [← h3] at h4
  cases c with
  | true =>
    have h5 : (t.t && t.u == r.g) = true := h3.symm
    simp only [Bool.and_eq_true, beq_iff_eq] at h5
    exact (Si.set_some hA r.s r.g y b3 x t h4 h2).mono fun e w' ⟨he, ht, ha⟩ => ⟨_, he, ht, ha, hI.set y hr h1 h2 h5.1 h5.2⟩
  | false =>
    exact (Si.set_none hA r.s r.g y b3 h4).mono fun e w' ⟨he, hb'⟩ => ⟨s, he, Turned.of_below hb', hA.below hb', hI.unset y hc⟩
theorem get_inv {w : World} {p a g : Nat} {s : Sb} {N b : Nat} {T : List Rf} {L : List Bool} {H : List Int} (hA : Si.At w p a g s) (hI : Inv s N b T L H) (hN : N ≤ 4096) {n : Nat} {r : Rf} {c : Bool} {h : Int} (hr : T[n]? = some r) (hc : L[n]? = some c) (hh : H[n]? = some h) :
    Calls Try.prog 20 #[.pointer (some ⟨p, 0, none⟩), refV r.s r.g] w fun e w' => e = .returned (.tuple #[.int .i64 (if c = true then h else 0), .bool c]) ∧ Below w.heap.size w w' := by
  obtain ⟨b1, b2, b3, b4, b5, b6⟩ := hI.wf.bounds hN
  obtain ⟨x, t, h1, h2, h3, h4⟩ := hI.live hr
  obtain ⟨x', t', k1, k2, k3, k4, k5, k6⟩ := hI.ref n r hr
  have : x' = x := by omega
  subst this
  rw [h2] at k2
  cases k2
  rw [hc] at h3
  injection h3 with h3
  rw [← h3] at h4
  cases c with
  | true =>
    have h5 : (t.t && t.u == r.g) = true := h3.symm
    simp only [Bool.and_eq_true, beq_iff_eq] at h5
    obtain ⟨h', e1, e2⟩ := k6 h5.1 h5.2
    rw [hh] at e1
    cases e1
    have := Si.get_some hA r.s r.g b3 x' t h4 h2
    rw [e2] at this
    exact this
  | false => exact Si.get_none hA r.s r.g b3 h4
end Go.Proofs.Ytbbadkgmnfjfaaa
