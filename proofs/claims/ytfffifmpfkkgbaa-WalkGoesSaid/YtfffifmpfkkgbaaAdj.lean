/- built; what WalkAdjacent compares. -/
import Derived.Test.YtfffifmpfkkgbaaBoth
import Derived.Test.YtfffifmpfkkgbaaPairs
namespace Go.Proofs.Ytfffifmpfkkgbaa
open Go.RowKit Go.Shelf
set_option maxRecDepth 1000000
set_option maxHeartbeats 4000000

theorem built_any {w0 W : World} (hb : Below w0.heap.size w0 W) (ao : Option Addr) (len cap : Nat) (hlen : len ≤ 9223372036854775807) (ds : Nat → Dd) (hD : HasD w0 ao len ds) :
    Calls Try.prog 12 #[.slice ao len cap] W fun e' w' => ∃ p q e m, e' = .returned (.pointer (some ⟨p, 0, none⟩)) ∧ Below W.heap.size W w' ∧ Below w0.heap.size w0 w' ∧ (w0.heap.size ≤ p ∧ w0.heap.size ≤ q ∧ w0.heap.size ≤ e ∧ w0.heap.size ≤ m) ∧ ArtAt w' p q e m (runD ds (min len 50) []) := by
  have HB := Lib.hid (And.intro hb (And.intro hlen hD))
  clear hb hlen hD
  go_enter Try.func12, Try.ntmps12
  go_wp2_with (first
    | (go_at_call 8; refine (new_any _).mono ?_; rintro e1 w1 ⟨p, q, m, hp, hq, hm, rfl, hb1, ha1⟩; have H1 := Lib.hid (And.intro hp (And.intro hq (And.intro hm (And.intro hb1 ha1)))); clear hp hq hm hb1 ha1)
    | (go_at_call 9; refine (both_any (w0 := w0) (v := .slice none 0 0) (l := []) ⟨Below.step HB.out.1 H1.out.2.2.2.1, Nat.le_trans HB.out.1.size H1.out.2.1, Nat.le_trans HB.out.1.size H1.out.2.1, Nat.le_trans HB.out.1.size H1.out.2.2.1, H1.out.2.2.2.2, Seg.nil _⟩ (by decide) ao len cap HB.out.2.1 ds HB.out.2.2).mono ?_; rintro e2 w2 ⟨v2, e3, rfl, h2, he3, ht2⟩; have H2 := Lib.hid (And.intro h2 (And.intro he3 ht2)); clear h2 he3 ht2))
  go_ret
  obtain ⟨a1, a2, a3, a4, a5⟩ := H1.out
  obtain ⟨c1, c2, c3⟩ := H2.out
  have hs := HB.out.1.size
  refine ⟨p, q, e3, m, rfl, Turned.below (S := [q, q, m]) a4 c3 (by simp; omega) a4.size, c1.low, ⟨by omega, by omega, c1.he, by omega⟩, c1.art⟩
/-! ### Ranges beside one another -/
theorem tw_below {l : List Pr} (hs : SrtP l) (t : ByteArray) : l.takeWhile (fun z => kl z.1 t) = l.take (atK t (keys l)) := by
  induction l with
  | nil => rfl
  | cons z l ih =>
    have hs' := List.pairwise_cons.1 (show SrtK (z.1 :: keys l) from hs)
    rw [show keys (z :: l) = z.1 :: keys l from rfl, atK_cons, List.takeWhile_cons]
    cases kl z.1 t
    · simp
    · rw [if_pos rfl, if_pos rfl, List.take_succ_cons, ih hs'.2]
theorem from_take {l : List Pr} (hs : SrtP l) (s t : ByteArray) : atK t (keys (fromP s l)) = atK t (keys l) - atK s (keys l) := by
  induction l with
  | nil => rfl
  | cons z l ih =>
    have hs' := List.pairwise_cons.1 (show SrtK (z.1 :: keys l) from hs)
    have hk : keys (z :: l) = z.1 :: keys l := rfl
    unfold fromP
    rw [hk, atK_cons, atK_cons]
    cases h1 : kl z.1 s
    · rw [if_neg (by simp), List.drop_zero, hk, atK_cons, Nat.sub_zero]
    · rw [if_pos rfl, List.drop_succ_cons]
      have ih2 := ih hs'.2
      unfold fromP at ih2
      rw [ih2]
      cases h2 : kl z.1 t
      · rw [if_neg (by simp), Nat.zero_sub]
        have : atK t (keys l) = 0 := by
          cases l with
          | nil => rfl
          | cons y l =>
            rw [show keys (y :: l) = y.1 :: keys l from rfl, atK_cons, if_neg]
            intro h3
            have h4 := hs'.1 y.1 (by simp [keys])
            rw [kl_trans h4 h3] at h2
            cases h2
        rw [this, Nat.zero_sub]
      · rw [if_pos rfl]; omega
theorem within_kl {t : ByteArray} (ht : t.size ≠ 0) : (withinP t) = fun z => kl z.1 t := by
  funext z
  unfold withinP
  rw [decide_eq_false ht, Bool.false_or]
theorem bet_take {l : List Pr} (hs : SrtP l) (s : ByteArray) {t : ByteArray} (ht : t.size ≠ 0) : betP s t l = (fromP s l).take (atK t (keys l) - atK s (keys l)) := by
  unfold betP
  rw [within_kl ht, tw_below (fromP_srt hs s), from_take hs]
theorem tw_true (p : Pr → Bool) : ∀ l : List Pr, (∀ z ∈ l, p z = true) → l.takeWhile p = l
  | [], _ => rfl
  | z :: l, h => by rw [List.takeWhile_cons, if_pos (h z (by simp)), tw_true p l (fun y hy => h y (by simp [hy]))]
theorem bet_all (s : ByteArray) (l : List Pr) : betP s ⟨#[]⟩ l = fromP s l := by
  unfold betP
  exact tw_true _ _ (fun z _ => rfl)
theorem atK_mono {ks : List ByteArray} (s t : ByteArray) (h : kl t s = false) : atK s ks ≤ atK t ks := by
  induction ks with
  | nil => exact Nat.le_refl _
  | cons k ks ih =>
    rw [atK_cons, atK_cons]
    by_cases h1 : kl k s = true
    · have h2 : kl k t = true := by
        cases h3 : kl s t
        · have := kl_tri h3 h; subst this; exact h1
        · exact kl_trans h1 h3
      rw [if_pos h1, if_pos h2]; omega
    · rw [if_neg h1]; exact Nat.zero_le _
/-- Before, between, behind. -/
theorem three {l : List Pr} (hs : SrtP l) {s t : ByteArray} (h1 : s.size ≠ 0) (h2 : t.size ≠ 0) (h : kl t s = false) : betP ⟨#[]⟩ s l ++ betP s t l ++ betP t ⟨#[]⟩ l = l := by
  have e0 : atK ⟨#[]⟩ (keys l) = 0 := by
    have := from_empty l
    cases l with
    | nil => rfl
    | cons z l =>
      rw [show keys (z :: l) = z.1 :: keys l from rfl, atK_cons, if_neg]
      cases h : z.1.data.toList <;> simp [kl, bl, Op.bytesLess, h]
  rw [bet_take hs _ h1, bet_take hs _ h2, bet_all, from_empty, e0, Nat.sub_zero]
  have hm := atK_mono (ks := keys l) s t h
  unfold fromP
  have e1 : l.take (atK s (keys l)) ++ (l.drop (atK s (keys l))).take (atK t (keys l) - atK s (keys l)) = l.take (atK t (keys l)) := by
    rw [← List.take_add]
    congr 1
    omega
  rw [e1, List.take_append_drop]
/-- What holds of each pair of a range. -/
theorem bet_facts {l : List Pr} (hs : SrtP l) {s t : ByteArray} (ht : t.size ≠ 0) {j : Nat} {z : Pr} (hz : (betP s t l)[j]? = some z) :
    kl z.1 s = false ∧ kl z.1 t = true ∧ getT l z.1 = some z ∧ ∀ y, (betP s t l)[j + 1]? = some y → kl z.1 y.1 = true := by
  have hm := List.mem_of_getElem? hz
  rw [← bet_filter hs s t] at hm
  obtain ⟨h1, h2⟩ := List.mem_filter.1 hm
  simp only [Bool.and_eq_true, Bool.not_eq_true'] at h2
  have h3 := h2.2
  rw [within_kl ht] at h3
  obtain ⟨zk, zv⟩ := z
  refine ⟨h2.1, h3, get_of_mem (srt_uniq hs) h1, fun y hy => ?_⟩
  have hsub : SrtP (betP s t l) := by
    unfold SrtP keys SrtK betP
    exact List.Pairwise.sublist ((List.takeWhile_prefix _).sublist.map _) (fromP_srt hs s)
  exact srt_lt hsub (Nat.lt_succ_self j) hz hy
end Go.Proofs.Ytfffifmpfkkgbaa
