/- What an operation that succeeded leaves; a second one; what All says of the quota; scans in two parts. -/
import Derived.Test.YtcpmnkihhenbgaaFacts
namespace Go.Proofs.Ytcpmnkihhenbgaa
open Go.RowKit
set_option maxRecDepth 100000

theorem drop_of_not {x : ByteArray} {l : List Pr} (h : x ∉ keys l) : dropP x l = l := drop_none (get_none_iff.2 h)
theorem drop_put (x y : ByteArray) (l : List Pr) : dropP x (putP x y l) = dropP x l := by
  obtain ⟨m, hm⟩ : ∃ m, dropP x l = m := ⟨_, rfl⟩
  have hn : x ∉ keys m := hm ▸ not_mem_drop x l
  have hf : dropP x m = m := drop_of_not hn
  unfold putP insP
  rw [hm]
  unfold dropP delT at hf ⊢
  rw [List.filter_append, List.filter_cons_of_neg (by simp), ← List.filter_append, List.take_append_drop]
  exact hf
theorem put_put (x y : ByteArray) (l : List Pr) : putP x y (putP x y l) = putP x y l := by
  show insP x y (dropP x (putP x y l)) = insP x y (dropP x l)
  rw [drop_put]
theorem act_ok {d : Dd} {l : List Pr} {K B : Nat} (h : (actS d l K B).2 = 0) (h5 : ¬ d.what % 6 = 5) :
    (d.what % 6 = 3 ∧ (actS d l K B).1 = dropP d.key l ∧ (getB d.key l).2 = 0) ∨ (¬ d.what % 6 = 3 ∧ (actS d l K B).1 = putP d.key d.value l ∧ d.key.size ≤ 16 ∧ d.value.size ≤ 32 ∧ (putP d.key d.value l).length ≤ K ∧ lenP (putP d.key d.value l) ≤ B) := by
  have hp : (putB d.key d.value l K B).2 = 0 → (putB d.key d.value l K B).1 = putP d.key d.value l ∧ d.key.size ≤ 16 ∧ d.value.size ≤ 32 ∧ (putP d.key d.value l).length ≤ K ∧ lenP (putP d.key d.value l) ≤ B := by
    intro h
    rcases putB_cases d.key d.value l K B with ⟨e, h1, h2, h3, h4⟩ | ⟨e, _⟩ | e
    · rw [e]; exact ⟨rfl, h3, h4, h1, h2⟩
    · rw [e] at h; exact absurd h (by simp)
    · rw [e] at h; exact absurd h (by simp)
  unfold actS at h ⊢
  by_cases h3 : d.what % 6 = 3
  · rw [if_pos h3] at h ⊢
    refine .inl ⟨h3, ?_⟩
    unfold delB at h ⊢
    by_cases hg : (getB d.key l).2 = 0
    · rw [if_pos hg]; exact ⟨rfl, hg⟩
    · rw [if_neg hg] at h; exact absurd h hg
  · rw [if_neg h3] at h ⊢
    refine .inr ⟨h3, ?_⟩
    by_cases h4 : d.what % 6 = 4
    · rw [if_pos h4] at h ⊢
      unfold swapB at h ⊢
      split at h
      · rename_i ha
        rw [if_pos ha]
        split at h
        · rename_i hb
          rw [if_pos hb]
          split at h
          · rename_i hc
            rw [if_pos hc]; exact hp h
          · exact absurd h (by simp)
        · rename_i hb; exact absurd h hb
      · exact absurd h (by simp)
    · rw [if_neg h4, if_neg h5] at h ⊢
      exact hp h
theorem getB_gone {x : ByteArray} {l : List Pr} (h : (getB x l).2 = 0) : getB x (dropP x l) = (⟨#[]⟩, 5) := by
  unfold getB at h ⊢
  split at h
  · rename_i h1; rw [if_pos h1, get_drop_self]
  · exact absurd h (by simp)
theorem delB_gone {x : ByteArray} {l : List Pr} (h : (getB x l).2 = 0) : delB x (dropP x l) = (dropP x l, 5) := by
  unfold delB
  rw [getB_gone h]
  rfl
theorem swapB_gone {x : ByteArray} {l : List Pr} {K B : Nat} (h : (getB x l).2 = 0) : swapB x ⟨#[]⟩ ⟨#[]⟩ (dropP x l) K B = (dropP x l, 5) := by
  have hx : x.size ≤ 16 := by
    unfold getB at h
    split at h
    · assumption
    · exact absurd h (by simp)
  unfold swapB
  rw [if_pos ⟨hx, by decide, by decide⟩, getB_gone h]
  rfl
theorem len_gone {x : ByteArray} {l : List Pr} (hu : Uniq l) (h : (getB x l).2 = 0) : l.length = (dropP x l).length + 1 := by
  unfold getB at h
  split at h
  · cases hg : getT l x with
    | none => rw [hg] at h; exact absurd h (by simp)
    | some t =>
      obtain ⟨a, b⟩ := t
      obtain ⟨_, h2⟩ := get_mem hg
      obtain rfl : a = x := h2
      exact (lenP_drop hu hg).2
  · exact absurd h (by simp)
theorem getB_put {x y : ByteArray} {l : List Pr} (hs : SrtP l) (hx : x.size ≤ 16) : getB x (putP x y l) = (y, 0) := by
  unfold getB
  rw [if_pos hx, get_put_self hs]
theorem putB_again {x y : ByteArray} {l : List Pr} {K B : Nat} (hx : x.size ≤ 16) (hy : y.size ≤ 32) (h1 : (putP x y l).length ≤ K) (h2 : lenP (putP x y l) ≤ B) : putB x y (putP x y l) K B = (putP x y l, 0) := by
  unfold putB
  rw [if_pos ⟨hx, hy⟩, put_put, if_pos ⟨h1, h2⟩]
theorem swapB_again {x y : ByteArray} {l : List Pr} {K B : Nat} (hs : SrtP l) (hx : x.size ≤ 16) (hy : y.size ≤ 32) (h1 : (putP x y l).length ≤ K) (h2 : lenP (putP x y l) ≤ B) : swapB x y y (putP x y l) K B = (putP x y l, 0) := by
  unfold swapB
  rw [if_pos ⟨hx, hy, hy⟩, getB_put hs hx]
  rw [if_pos rfl, if_pos rfl]
  exact putB_again hx hy h1 h2
theorem cell_lt {W : World} {p : Addr} {v : Value} (h : W.cell? p = some v) : p.block < W.heap.size := by
  rcases Nat.lt_or_ge p.block W.heap.size with h1 | h1
  · exact h1
  · simp [World.cell?, Array.getElem?_eq_none h1] at h
theorem Holds.turned {S : List Nat} {W W' : World} {v : Value} {l : List Pr} (h : Holds W v l) (t : Turned S W W') (hn : ∀ k, v.ownBlock = some k → k ∉ S) : Holds W' v l := by
  obtain ⟨a, cap, rfl, h2⟩ := h
  refine ⟨a, cap, rfl, fun j x hj => ?_⟩
  obtain ⟨b, o, rfl, h4, h5, h6⟩ := h2 j x hj
  have hb := t.block b h4 (hn b rfl)
  have hc : ∀ i, W'.cell? ⟨b, i, none⟩ = W.cell? ⟨b, i, none⟩ := fun i => by unfold World.cell?; simp only [hb]
  exact ⟨b, o, rfl, Nat.lt_of_lt_of_le h4 t.size, (hc _).trans h5, (hc _).trans h6⟩
theorem act_over {d : Dd} {l : List Pr} {K B : Nat} (h : (actS d l K B).2 = 10) : decide (K < (putP d.key d.value l).length ∨ B < lenP (putP d.key d.value l)) = true := by
  have hp : (putB d.key d.value l K B).2 = 10 → decide (K < (putP d.key d.value l).length ∨ B < lenP (putP d.key d.value l)) = true := by
    intro h
    rcases putB_cases d.key d.value l K B with ⟨e, _⟩ | ⟨e, h1⟩ | e
    · rw [e] at h; simp at h
    · refine decide_eq_true ?_
      rcases Nat.lt_or_ge K (putP d.key d.value l).length with h2 | h2
      · exact .inl h2
      · rcases Nat.lt_or_ge B (lenP (putP d.key d.value l)) with h3 | h3
        · exact .inr h3
        · exact absurd ⟨h2, h3⟩ h1
    · rw [e] at h; simp at h
  have hg : (getB d.key l).2 = 10 → False := by
    unfold getB
    intro h
    split at h
    · split at h <;> simp at h
    · simp at h
  have hs : (scanB d.key d.n l).2 = 10 → False := by
    unfold scanB
    intro h
    split at h
    · split at h <;> simp at h
    · simp at h
  unfold actS at h
  split at h
  · unfold delB at h
    split at h
    · simp at h
    · exact (hg h).elim
  · split at h
    · unfold swapB at h
      split at h
      · split at h
        · split at h
          · exact hp h
          · simp at h
        · exact (hg h).elim
      · simp at h
    · split at h
      · exact (hs h).elim
      · exact hp h
end Go.Proofs.Ytcpmnkihhenbgaa
