/- What the operations leave of the pairs: facts for the laws. -/
import Derived.Test.YtcpmnkihhenbgaaFitsD
namespace Go.Proofs.Ytcpmnkihhenbgaa
open Go.RowKit
set_option maxRecDepth 100000

theorem get_put_self {x y : ByteArray} {l : List Pr} (h : SrtP l) : getT (putP x y l) x = some (x, y) := get_of_mem (srt_uniq (put_srt h)) (mem_put.2 (.inl rfl))
theorem get_iff {l : List Pr} (h : SrtP l) {z y : ByteArray} : getT l z = some (z, y) ↔ (z, y) ∈ l := by
  constructor
  · intro hg; exact (get_mem hg).1
  · exact get_of_mem (srt_uniq h)
theorem get_eq {l l2 : List Pr} (h : SrtP l) (h2 : SrtP l2) {z : ByteArray} (hm : ∀ y, (z, y) ∈ l ↔ (z, y) ∈ l2) : getT l z = getT l2 z := by
  cases hg : getT l2 z with
  | none =>
    rw [get_none_iff] at hg ⊢
    intro hx
    obtain ⟨⟨a, b⟩, ht, rfl⟩ := List.mem_map.1 hx
    exact hg (List.mem_map_of_mem (f := Prod.fst) ((hm b).1 ht))
  | some t =>
    obtain ⟨h3, h4⟩ := get_mem hg
    obtain ⟨a, b⟩ := t
    obtain rfl : a = z := h4
    exact (get_iff h).2 ((hm b).2 h3)
theorem get_put_other {x y z : ByteArray} {l : List Pr} (h : SrtP l) (hz : z ≠ x) : getT (putP x y l) z = getT l z := by
  refine get_eq (put_srt h) h (fun c => ?_)
  rw [mem_put]
  constructor
  · rintro (h1 | ⟨h1, _⟩)
    · exact absurd (congrArg Prod.fst h1) hz
    · exact h1
  · intro h1; exact .inr ⟨h1, hz⟩
theorem get_drop_self {x : ByteArray} {l : List Pr} : getT (dropP x l) x = none := get_none_iff.2 (not_mem_drop x l)
theorem get_drop_other {x z : ByteArray} {l : List Pr} (h : SrtP l) (hz : z ≠ x) : getT (dropP x l) z = getT l z := by
  refine get_eq (drop_srt h) h (fun c => ?_)
  rw [mem_drop]
  exact ⟨fun h1 => h1.1, fun h1 => ⟨h1, hz⟩⟩
theorem putB_cases (x y : ByteArray) (l : List Pr) (K B : Nat) :
    (putB x y l K B = (putP x y l, 0) ∧ (putP x y l).length ≤ K ∧ lenP (putP x y l) ≤ B ∧ x.size ≤ 16 ∧ y.size ≤ 32) ∨ (putB x y l K B = (l, 10) ∧ ¬ ((putP x y l).length ≤ K ∧ lenP (putP x y l) ≤ B)) ∨ putB x y l K B = (l, 2) := by
  unfold putB
  by_cases h : x.size ≤ 16 ∧ y.size ≤ 32
  · rw [if_pos h]
    by_cases h2 : (putP x y l).length ≤ K ∧ lenP (putP x y l) ≤ B
    · rw [if_pos h2]; exact .inl ⟨rfl, h2.1, h2.2, h.1, h.2⟩
    · rw [if_neg h2]; exact .inr (.inl ⟨rfl, h2⟩)
  · rw [if_neg h]; exact .inr (.inr rfl)
/-- The quota is kept. -/
def InQ (l : List Pr) (K B : Nat) : Prop := l.length ≤ K ∧ lenP l ≤ B
theorem InQ.put {x y : ByteArray} {l : List Pr} {K B : Nat} (h : InQ l K B) : InQ (putB x y l K B).1 K B := by
  rcases putB_cases x y l K B with ⟨e, h1, h2, _⟩ | ⟨e, _⟩ | e
  · rw [e]; exact ⟨h1, h2⟩
  · rw [e]; exact h
  · rw [e]; exact h
theorem InQ.drop {x : ByteArray} {l : List Pr} {K B : Nat} (h : InQ l K B) (hu : Uniq l) : InQ (dropP x l) K B := by
  cases hg : getT l x with
  | none => rw [drop_none hg]; exact h
  | some t =>
    obtain ⟨_, h2⟩ := get_mem hg
    obtain ⟨a, b⟩ := t
    obtain rfl : a = x := h2
    obtain ⟨h3, h4⟩ := lenP_drop hu hg
    have := h.1
    have := h.2
    exact ⟨by omega, by omega⟩
theorem InQ.del {x : ByteArray} {l : List Pr} {K B : Nat} (h : InQ l K B) (hu : Uniq l) : InQ (delB x l).1 K B := by
  unfold delB
  split
  · exact h.drop hu
  · exact h
theorem InQ.swap {x o y : ByteArray} {l : List Pr} {K B : Nat} (h : InQ l K B) : InQ (swapB x o y l K B).1 K B := by
  unfold swapB
  split
  · split
    · split
      · exact h.put
      · exact h
    · exact h
  · exact h
theorem InQ.act {d : Dd} {l : List Pr} {K B : Nat} (h : InQ l K B) (hu : Uniq l) : InQ (actS d l K B).1 K B := by
  unfold actS
  split
  · exact h.del hu
  · split
    · exact h.swap
    · split
      · exact h
      · exact h.put
theorem InQ.nil (K B : Nat) : InQ [] K B := ⟨Nat.zero_le _, Nat.zero_le _⟩
theorem put_len_le (x y : ByteArray) (l : List Pr) : (putP x y l).length ≤ l.length + 1 := by
  have h1 := (lenP_ins x y (dropP x l)).2
  have h2 := drop_len x l
  unfold putP
  omega
theorem act_len (d : Dd) (l : List Pr) (K B : Nat) : (actS d l K B).1.length ≤ l.length + 1 := by
  have hp : (putB d.key d.value l K B).1.length ≤ l.length + 1 := by
    rcases putB_cases d.key d.value l K B with ⟨e, _⟩ | ⟨e, _⟩ | e
    · rw [e]; exact put_len_le _ _ _
    · rw [e]; exact Nat.le_succ _
    · rw [e]; exact Nat.le_succ _
  unfold actS delB swapB
  repeat' split
  all_goals first | exact hp | exact Nat.le_succ _ | exact Nat.le_trans (drop_len _ _) (Nat.le_succ _)
/-- An operation that fails changes nothing. -/
theorem act_fail {d : Dd} {l : List Pr} {K B : Nat} (h : (actS d l K B).2 ≠ 0 ∨ d.what % 6 = 5) : (actS d l K B).1 = l := by
  have hp : (putB d.key d.value l K B).2 ≠ 0 → (putB d.key d.value l K B).1 = l := by
    intro h
    rcases putB_cases d.key d.value l K B with ⟨e, _⟩ | ⟨e, _⟩ | e
    · rw [e] at h; exact absurd rfl h
    · rw [e]
    · rw [e]
  revert h
  unfold actS delB swapB
  repeat' split
  all_goals first
    | (intro _; rfl)
    | (rintro (h | h); exact hp h; omega)
    | (rintro (h | h); exact absurd rfl h; omega)
theorem act_other {d : Dd} {l : List Pr} {K B : Nat} (h : SrtP l) {z : ByteArray} (hz : z ≠ d.key) : getT (actS d l K B).1 z = getT l z := by
  have hp : getT (putB d.key d.value l K B).1 z = getT l z := by
    rcases putB_cases d.key d.value l K B with ⟨e, _⟩ | ⟨e, _⟩ | e
    · rw [e]; exact get_put_other h hz
    · rw [e]
    · rw [e]
  unfold actS delB swapB
  repeat' split
  all_goals first | exact hp | rfl | exact get_drop_other h hz
theorem getB_of {l : List Pr} (h : SrtP l) (ht : TxtP l) {x y : ByteArray} (hm : (x, y) ∈ l) : getB x l = (y, 0) := by
  unfold getB
  rw [if_pos (ht _ hm).1, (get_iff h).2 hm]
/-- Behind an operation the pairs of other keys are as they were. -/
theorem act_keeps {d : Dd} {l : List Pr} {K B : Nat} (h : SrtP l) (ht : TxtP l) {x y : ByteArray} (hm : (x, y) ∈ l) (hx : x ≠ d.key) : getB x (actS d l K B).1 = (y, 0) := by
  unfold getB
  rw [if_pos (ht _ hm).1, act_other h hx, (get_iff h).2 hm]
end Go.Proofs.Ytcpmnkihhenbgaa
