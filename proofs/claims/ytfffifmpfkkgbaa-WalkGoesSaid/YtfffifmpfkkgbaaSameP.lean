/- Whether two slices of pairs hold the same. -/
import Derived.Test.YtfffifmpfkkgbaaPairs
import Derived.IntWalk
namespace Go.Proofs.Ytfffifmpfkkgbaa
open Go.RowKit
set_option maxRecDepth 1000000
set_option maxHeartbeats 4000000

/-- A slice that holds pairs. -/
def Holds (W : World) (v : Value) (l : List Pr) : Prop := ∃ a cap, v = .slice a l.length cap ∧ ∀ (j : Nat) (x : Pr), l[j]? = some x → ∃ b o, a = some ⟨b, o, none⟩ ∧ b < W.heap.size ∧ W.cell? ⟨b, o + j * 2, none⟩ = some (.string x.1) ∧ W.cell? ⟨b, o + j * 2 + 1, none⟩ = some (.string x.2)
theorem flatP_at : ∀ (l : List Pr) (j : Nat) (x : Pr), l[j]? = some x → (flatP l)[j * 2]? = some (.string x.1) ∧ (flatP l)[j * 2 + 1]? = some (.string x.2)
  | [], j, x, h => by simp at h
  | y :: l, 0, x, h => by
    obtain rfl : y = x := by simpa using h
    exact ⟨rfl, rfl⟩
  | y :: l, j + 1, x, h => by
    have h' : l[j]? = some x := by simpa using h
    obtain ⟨h1, h2⟩ := flatP_at l j x h'
    have e : flatP (y :: l) = [.string y.1, .string y.2] ++ flatP l := rfl
    refine ⟨?_, ?_⟩
    · rw [e, show (j + 1) * 2 = j * 2 + 2 from by omega, List.getElem?_append_right (by simp)]; exact h1
    · rw [e, show (j + 1) * 2 + 1 = j * 2 + 1 + 2 from by omega, List.getElem?_append_right (by simp)]; exact h2
theorem Holds.of_own {W : World} {B : Nat} {v : Value} {l : List Pr} (h : W.ownsRow B 34 2 v l.length (flatP l)) : Holds W v l := by
  rcases h.2 with ⟨h1, h2⟩ | ⟨g, cap, cur, h1, _, h4, h5, h6, h7, h8⟩
  · refine ⟨none, 0, by rw [h1, h2], fun j x hj => ?_⟩
    rw [List.length_eq_zero_iff.1 h2] at hj
    simp at hj
  · refine ⟨_, cap, h1, fun j x hj => ⟨g, 0, rfl, (Array.getElem?_eq_some_iff.1 h4).1, ?_⟩⟩
    obtain ⟨a1, a2⟩ := flatP_at l j x hj
    have key : ∀ (i : Nat) u, (flatP l)[i]? = some u → W.cell? ⟨g, 0 + i, none⟩ = some u := by
      intro i u hi
      have hil : i < l.length * 2 := by rw [← flatP_length]; exact (List.getElem?_eq_some_iff.1 hi).1
      rw [← h8, List.getElem?_take_of_lt hil, Array.getElem?_toList] at hi
      rw [Fresh.cell (p := g) h4, Nat.zero_add]
      exact hi
    exact ⟨key _ _ a1, key _ _ a2⟩
theorem Holds.below {W W' : World} {v : Value} {l : List Pr} (h : Holds W v l) (hb : Below W.heap.size W W') : Holds W' v l := by
  obtain ⟨a, cap, h1, h2⟩ := h
  refine ⟨a, cap, h1, fun j x hj => ?_⟩
  obtain ⟨b, o, h3, h4, h5, h6⟩ := h2 j x hj
  exact ⟨b, o, h3, Nat.lt_of_lt_of_le h4 hb.size, (hb.cell (p := ⟨b, _, none⟩) h4).trans h5, (hb.cell (p := ⟨b, _, none⟩) h4).trans h6⟩
def sameP (a b : List Pr) : Bool := decide (a = b)
theorem same_any {W : World} {va vb : Value} {la lb : List Pr} (ha : Holds W va la) (hb : Holds W vb lb) (hn : la.length < 1000000) (hn2 : lb.length < 1000000) :
    Calls Try.prog 14 #[va, vb] W fun e' w' => e' = .returned (.bool (sameP la lb)) ∧ Below W.heap.size W w' := by
  obtain ⟨a, ca, hva, hca⟩ := ha
  obtain ⟨b, cb, hvb, hcb⟩ := hb
  have HA : Hid (∀ (j : Nat) (x : Pr), la[j]? = some x → ∃ b o, a = some ⟨b, o, none⟩ ∧ b < W.heap.size ∧ W.cell? ⟨b, o + j * 2, none⟩ = some (.string x.1) ∧ W.cell? ⟨b, o + j * 2 + 1, none⟩ = some (.string x.2)) := hca
  have HB : Hid (∀ (j : Nat) (x : Pr), lb[j]? = some x → ∃ b' o, b = some ⟨b', o, none⟩ ∧ b' < W.heap.size ∧ W.cell? ⟨b', o + j * 2, none⟩ = some (.string x.1) ∧ W.cell? ⟨b', o + j * 2 + 1, none⟩ = some (.string x.2)) := hcb
  obtain ⟨n, hna⟩ : ∃ n, la.length = n := ⟨_, rfl⟩
  obtain ⟨m, hnb⟩ : ∃ m, lb.length = m := ⟨_, rfl⟩
  have HNA := Lib.hid hna
  have HNB := Lib.hid hnb
  obtain ⟨r, hr⟩ : ∃ r, sameP la lb = r := ⟨_, rfl⟩
  have HR := Lib.hid hr
  rw [hva, hvb, hr, hna, hnb]
  rw [hna] at hn
  rw [hnb] at hn2
  clear hva hvb hca hcb hna hnb hr
  by_cases hnm : n = m
  · subst hnm
    go_enter Try.func14, Try.ntmps14
    go_wp2_with fail
    go_loopw [5] (fun iv wr => ∃ i : Nat, i ≤ n ∧ iv = .int .i64 i ∧ Below W.heap.size W wr ∧ la.take i = lb.take i) (fun iv _ => n - (intOf iv).toNat)
    case atStart => exact ⟨0, Nat.zero_le _, rfl, Below.refl _ _, rfl⟩
    case round =>
      obtain ⟨i, hi, rfl, hbw, hsame⟩ := hrel
      by_cases hlt : i < n
      · obtain ⟨x, hx⟩ : ∃ x, la[i]? = some x := ⟨_, List.getElem?_eq_getElem (by have := HNA.out; omega)⟩
        obtain ⟨y, hy⟩ : ∃ y, lb[i]? = some y := ⟨_, List.getElem?_eq_getElem (by have := HNB.out; omega)⟩
        obtain ⟨ga, oa, rfl, hga, ka1, ka2⟩ := HA.out i x hx
        obtain ⟨gb, ob, rfl, hgb, kb1, kb2⟩ := HB.out i y hy
        have ka1 := (hbw.cell (p := ⟨ga, oa + i * 2, none⟩) hga).trans ka1
        have ka2 := (hbw.cell (p := ⟨ga, oa + i * 2 + 1, none⟩) hga).trans ka2
        have kb1 := (hbw.cell (p := ⟨gb, ob + i * 2, none⟩) hgb).trans kb1
        have kb2 := (hbw.cell (p := ⟨gb, ob + i * 2 + 1, none⟩) hgb).trans kb2
        obtain ⟨x1, x2⟩ := x
        obtain ⟨y1, y2⟩ := y
        dsimp only at ka1 ka2 kb1 kb2
        have HX := Lib.hid (And.intro hx (And.intro hy (And.intro hsame hbw)))
        clear hx hy hsame hbw hga hgb
        by_cases h1 : x1 = y1
        · subst h1
          by_cases h2 : x2 = y2
          · subst h2
            go_wp2_with fail
            go_region
            go_wp2_with fail
            go_roundw
            case rel => exact ⟨i + 1, by omega, by simp, HX.out.2.2.2.drew, by rw [List.take_add_one, List.take_add_one, HX.out.1, HX.out.2.1, HX.out.2.2.1]⟩
            case measure => simp [intOf]; omega
          · have hne : (x2.toList == y2.toList) = false := by rw [kl_beq]; exact decide_eq_false h2
            go_wp2_with fail
            go_region
            go_wp2_with fail
            go_ret
            refine ⟨?_, HX.out.2.2.2.drew⟩
            rw [← HR.out]
            unfold sameP
            rw [decide_eq_false (fun e => by have h3 := HX.out.1; rw [e, HX.out.2.1] at h3; simp at h3; exact h2 h3.symm)]
            rfl
        · have hne : (x1.toList == y1.toList) = false := by rw [kl_beq]; exact decide_eq_false h1
          go_wp2_with fail
          go_region
          go_wp2_with fail
          go_ret
          refine ⟨?_, HX.out.2.2.2.drew⟩
          rw [← HR.out]
          unfold sameP
          rw [decide_eq_false (fun e => by have h3 := HX.out.1; rw [e, HX.out.2.1] at h3; simp at h3; exact h1 h3.1.symm)]
          rfl
      · have HE : Hid (la = lb ∧ Below W.heap.size W wr) := by
          have := hsame
          rw [List.take_of_length_le (by have := HNA.out; omega), List.take_of_length_le (by have := HNB.out; omega)] at this
          exact ⟨this, hbw⟩
        clear hsame hbw
        go_wp2_with fail
        go_ret
        refine ⟨?_, HE.out.2⟩
        rw [← HR.out]
        unfold sameP
        rw [decide_eq_true HE.out.1]
        rfl
  · have h1 : ¬ ((n : Int) = (m : Int)) := by omega
    go_enter Try.func14, Try.ntmps14
    go_wp2_with fail
    go_ret
    refine ⟨?_, Below.refl _ _⟩
    rw [← HR.out]
    unfold sameP
    rw [decide_eq_false (fun e => hnm (by rw [← HNA.out, ← HNB.out, e]))]
    rfl
end Go.Proofs.Ytfffifmpfkkgbaa
