/- WalkGoes: the list that turns while it is walked. -/
import Derived.Test.YtfffifmpfkkgbaaBoth
import Derived.Test.YtfffifmpfkkgbaaFrameR
import Derived.Test.YtfffifmpfkkgbaaNth
namespace Go.Proofs.Ytfffifmpfkkgbaa
open Go.RowKit Go.Shelf
set_option maxRecDepth 1000000
set_option maxHeartbeats 4000000

theorem step_cases (d : Dd) (l : List Pr) : stepD d l = l ∨ stepD d l = putP d.code d.val l ∨ stepD d l = dropP d.code l := by
  unfold stepD putA delA
  split
  · split
    · split
      · split
        · exact .inr (.inl rfl)
        · exact .inl rfl
      · exact .inl rfl
    · split
      · exact .inr (.inr rfl)
      · exact .inl rfl
  · exact .inl rfl
theorem step_srt (d : Dd) {l : List Pr} (h : SrtP l) : SrtP (stepD d l) := by
  rcases step_cases d l with e | e | e
  · rw [e]; exact h
  · rw [e]; exact put_srt h
  · rw [e]; exact drop_srt h
theorem rest_filter {l : List Pr} (h : SrtP l) (b : ByteArray) : restN l b = (l.filter (fun z => !kl z.1 b)).length := by
  rw [filter_from h b]
  unfold restN fromP
  simp
theorem step_rest (d : Dd) {l : List Pr} (h : SrtP l) (b : ByteArray) : restN (stepD d l) b ≤ restN l b + 1 := by
  rw [rest_filter (step_srt d h), rest_filter h]
  rcases step_cases d l with e | e | e
  · rw [e]; omega
  · rw [e, put_place h]
    generalize (if hasK d.code (keys l) = true then 1 else 0) = c
    generalize atK d.code (keys l) = A
    rw [List.filter_append, List.length_append]
    have h1 : (((d.code, d.val) :: l.drop (A + c)).filter (fun z => !kl z.1 b)).length ≤ ((l.drop (A + c)).filter (fun z => !kl z.1 b)).length + 1 := by
      rw [List.filter_cons]
      split <;> simp
    have h2 : ((l.drop (A + c)).filter (fun z => !kl z.1 b)).length ≤ ((l.drop A).filter (fun z => !kl z.1 b)).length := by
      rw [← List.drop_drop]
      exact ((List.drop_sublist _ _).filter _).length_le
    have h3 : (l.filter (fun z => !kl z.1 b)).length = ((l.take A).filter (fun z => !kl z.1 b)).length + ((l.drop A).filter (fun z => !kl z.1 b)).length := by
      rw [← List.length_append, ← List.filter_append, List.take_append_drop]
    refine Nat.le_trans (Nat.add_le_add_left h1 _) ?_
    omega
  · rw [e]
    have : (dropP d.code l).Sublist l := by unfold dropP; exact List.filter_sublist
    have := (this.filter (fun z => !kl z.1 b)).length_le
    omega
theorem run_srt (ds : Nat → Dd) {l : List Pr} (h : SrtP l) : ∀ k, SrtP (runD ds k l)
  | 0 => h
  | k + 1 => step_srt _ (run_srt ds h k)
/-- The list after i yields. -/
def LL (ds : Nat → Dd) (N : Nat) (l0 : List Pr) (i : Nat) : List Pr := runD ds (min i N) l0
def gMu (ds : Nat → Dd) (N : Nat) (l0 : List Pr) (i : Nat) (b : ByteArray) : Nat := restN (LL ds N l0 i) b + (N - min i N)
theorem LL_next (ds : Nat → Dd) {N : Nat} (l0 : List Pr) {i : Nat} (h : i < N) : LL ds N l0 (i + 1) = stepD (ds i) (LL ds N l0 i) := by
  unfold LL
  rw [show min (i + 1) N = i + 1 from by omega, show min i N = i from by omega]
  rfl
theorem LL_stay (ds : Nat → Dd) {N : Nat} (l0 : List Pr) {i : Nat} (h : N ≤ i) : LL ds N l0 (i + 1) = LL ds N l0 i := by
  unfold LL
  rw [show min (i + 1) N = N from by omega, show min i N = N from by omega]
theorem LL_len (ds : Nat → Dd) (N : Nat) (l0 : List Pr) (i : Nat) : (LL ds N l0 i).length ≤ l0.length + N := by
  have := run_length ds (min i N) l0
  unfold LL
  omega
theorem gMu_lt (ds : Nat → Dd) {N : Nat} {l0 : List Pr} (hs : SrtP l0) {i : Nat} {b : ByteArray} {z : Pr} (h : nextP b (LL ds N l0 i) = some z) : gMu ds N l0 (i + 1) (zup z.1) < gMu ds N l0 i b := by
  have hL : SrtP (LL ds N l0 i) := run_srt ds hs _
  have h1 := restN_lt hL h
  unfold gMu
  by_cases hi : i < N
  · rw [LL_next ds l0 hi]
    have h2 := step_rest (ds i) hL (zup z.1)
    omega
  · rw [LL_stay ds l0 (by omega)]
    omega
/-- A frame in which rows of strings may turn. -/
structure KT (S : List Nat) (A B : World) : Prop where
  size : A.heap.size ≤ B.heap.size
  block : ∀ k, k < A.heap.size → k ∉ S → B.heap[k]? = A.heap[k]? ∨ ∃ cs, Fresh A k cs 9
theorem KT.trans {S : List Nat} {A B C : World} (h : KT S A B) (k : KT S B C) : KT S A C := by
  refine ⟨Nat.le_trans h.size k.size, fun j hj hn => ?_⟩
  rcases h.block j hj hn with h1 | h1
  · rcases k.block j (Nat.lt_of_lt_of_le hj h.size) hn with h2 | ⟨cs, h2⟩
    · exact .inl (h2.trans h1)
    · exact .inr ⟨cs, by unfold Fresh at h2 ⊢; rw [← h1]; exact h2⟩
  · exact .inr h1
theorem KT.of_turned {S : List Nat} {A B : World} (h : Turned S A B) : KT S A B := ⟨h.size, fun k hk hn => .inl (h.block k hk hn)⟩
theorem KT.wide {S S' : List Nat} {A B : World} (h : KT S A B) (hs : ∀ k ∈ S, k ∈ S') : KT S' A B := ⟨h.size, fun k hk hn => h.block k hk (fun e => hn (hs k e))⟩
theorem KT.fresh {S : List Nat} {A B : World} (h : KT S A B) {p : Nat} {cs : Array Value} {t : TypeId} (hf : Fresh A p cs t) (hn : p ∉ S) (ht : t ≠ 9) : Fresh B p cs t := by
  rcases h.block p hf.lt hn with h1 | ⟨cs', h2⟩
  · exact h1.trans hf
  · exact absurd (fresh_ty hf h2) ht
theorem KT.keeps {S : List Nat} {A B : World} {C : Nat} (h : KT S A B) (hs : ∀ k ∈ S, k < C) : KeepsFrom C A B := by
  refine ⟨h.size, fun k o hB ho hc => ?_⟩
  rcases h.block k (Array.getElem?_eq_some_iff.1 ho).1 (fun e => by have := hs _ e; omega) with h1 | ⟨cs', h2⟩
  · exact h1.trans ho
  · unfold Fresh at h2
    rw [ho] at h2
    cases h2
    cases hc
/-- What both leaves. -/
theorem KT.of_both {A B : World} {p q e m : Nat} {l : List Pr} (h : Turned [q, e, m] A B) (hA : ArtAt A p q e m l) : KT [q, m] A B := by
  refine ⟨h.size, fun k hk hn => ?_⟩
  obtain ⟨v, hs⟩ := hA.st
  by_cases he : k = e
  · rcases hs.key.ety with h1 | ⟨cur, h1⟩
    · exact absurd (by simp [he, h1]) hn
    · exact .inr ⟨cur, he ▸ h1⟩
  · refine .inl (h.block k hk ?_)
    simp only [List.mem_cons, List.not_mem_nil, or_false, not_or] at hn ⊢
    exact ⟨hn.1, he, hn.2⟩
end Go.Proofs.Ytfffifmpfkkgbaa
