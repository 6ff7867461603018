/- Of the law on orders: rows of the same bytes in another order. -/
import Derived.Test.YtiifogbdoajnoaaNextWm
import Derived.Test.YtiifogbdoajnoaaPick
namespace Go.Proofs.Ytiifogbdoajnoaa
open Go.RowKit
set_option maxRecDepth 100000
set_option maxHeartbeats 2000000

theorem srt_ext : ∀ a b : List En, Srt a → Srt b → (∀ x, x ∈ a ↔ x ∈ b) → a = b
  | [], [], _, _, _ => rfl
  | [], y :: b, _, _, h => by have := (h y).2 (by simp); simp at this
  | x :: a, [], _, _, h => by have := (h x).1 (by simp); simp at this
  | x :: a, y :: b, ha, hb, h => by
    rw [Srt, List.pairwise_cons] at ha hb
    have hxy : x = y := by
      have h1 := (h x).1 (by simp)
      have h2 := (h y).2 (by simp)
      rw [List.mem_cons] at h1 h2
      rcases h1 with h1 | h1
      · exact h1
      · rcases h2 with h2 | h2
        · exact h2.symm
        · have a1 := hb.1 x h1
          have a2 := ha.1 y h2
          omega
    subst hxy
    congr 1
    refine srt_ext a b ha.2 hb.2 fun z => ?_
    constructor
    · intro hz
      have h1 := (h z).1 (List.mem_cons_of_mem _ hz)
      rw [List.mem_cons] at h1
      rcases h1 with rfl | h1
      · exact absurd (ha.1 z hz) (Nat.lt_irrefl _)
      · exact h1
    · intro hz
      have h1 := (h z).2 (List.mem_cons_of_mem _ hz)
      rw [List.mem_cons] at h1
      rcases h1 with rfl | h1
      · exact absurd (hb.1 z hz) (Nat.lt_irrefl _)
      · exact h1
/-- The bytes, begun at another place. -/
def rot (l : List UInt8) (t : Nat) : List UInt8 := (List.range l.length).map fun i => l.getD ((i + t) % l.length) 0
theorem rot_length (l : List UInt8) (t : Nat) : (rot l t).length = l.length := by simp [rot]
theorem rot_at (l : List UInt8) (t i : Nat) (h : i < l.length) : (rot l t)[i]'(by rw [rot_length]; exact h) = l[(i + t) % l.length]'(Nat.mod_lt _ (by omega)) := by
  have hm : (i + t) % l.length < l.length := Nat.mod_lt _ (by omega)
  simp [rot, List.getD_eq_getElem?_getD, List.getElem?_eq_getElem hm]
theorem rot_mem (l : List UInt8) (t : Nat) (b : UInt8) : b ∈ rot l t ↔ b ∈ l := by
  constructor
  · intro h
    obtain ⟨i, hi, rfl⟩ := List.getElem_of_mem h
    rw [rot_length] at hi
    rw [rot_at l t i hi]
    exact List.getElem_mem _
  · intro h
    obtain ⟨j, hj, rfl⟩ := List.getElem_of_mem h
    -- i with (i + t) % n = j
    obtain ⟨n, hn⟩ : ∃ n, l.length = n := ⟨_, rfl⟩
    have hn0 : 0 < n := by omega
    have hi : (j + (n - t % n)) % n < l.length := by rw [hn]; exact Nat.mod_lt _ hn0
    have e : ((j + (n - t % n)) % n + t) % l.length = j := by
      rw [hn, Nat.mod_add_mod]
      have ht := Nat.mod_lt t hn0
      have hd := Nat.div_add_mod t n
      have : j + (n - t % n) + t = j + n * (1 + t / n) := by rw [Nat.mul_add, Nat.mul_one]; omega
      rw [this, Nat.add_mul_mod_self_left, Nat.mod_eq_of_lt (by omega)]
    have := rot_at l t _ hi
    simp only [e] at this
    rw [← this]
    exact List.getElem_mem _
theorem rowOf_rot (l : List UInt8) (t : Nat) : rowOf (rot l t) = rowOf l :=
  srt_ext _ _ (rowOf_srt _) (rowOf_srt _) (fun x => by rw [rowOf_mem, rowOf_mem, rot_mem])
/-- What stands while the law runs. -/
structure MidO (w W : World) (pa qa ea pb qb eb : Nat) (La Lb : List En) : Prop where
  fa : ManyAt W pa qa ea La 256
  fb : ManyAt W pb qb eb Lb 256
  r0 : Fresh W w.heap.size #[.bool false] 4
  low : Below w.heap.size w W
  h1 : (w.heap.size < qa ∧ w.heap.size < pa ∧ w.heap.size < ea) ∧ (qa < qb ∧ pa < qb ∧ ea < qb) ∧ (qa < pb ∧ pa < pb ∧ ea < pb) ∧ (qa < eb ∧ pa < eb ∧ ea < eb)
theorem MidO.below {w W W' : World} {pa qa ea pb qb eb : Nat} {La Lb : List En} (h : MidO w W pa qa ea pb qb eb La Lb) (hb : Below W.heap.size W W') : MidO w W' pa qa ea pb qb eb La Lb :=
  ⟨h.fa.below hb, h.fb.below hb, h.r0.below hb, Below.step h.low hb, h.h1⟩
theorem MidO.kept {w W W' : World} {row : Option Nat} {pa qa ea pb qb eb : Nat} {La Lb : List En} (h : MidO w W pa qa ea pb qb eb La Lb) (hg : W.grownBy W' row) (hr : ∀ r, row = some r → w.heap.size ≤ r ∧ ∃ o : Obj, W.heap[r]? = some o ∧ o.isCells = false) : MidO w W' pa qa ea pb qb eb La Lb :=
  ⟨h.fa.kept hg (fun r e => (hr r e).2), h.fb.kept hg (fun r e => (hr r e).2), h.r0.kept hg (fun r e => (hr r e).2), h.low.grown hg h.low.size (fun r e => (hr r e).1), h.h1⟩
theorem MidO.turned {S : List Nat} {w W W' : World} {pa qa ea pb qb eb : Nat} {La Lb : List En} (h : MidO w W pa qa ea pb qb eb La Lb) (ht : Turned S W W') (hS : ∀ k ∈ S, w.heap.size ≤ k) (h0 : w.heap.size ∉ S) (h1 : pa ∉ S) (h2 : qa ∉ S) (h3 : pb ∉ S) (h4 : qb ∉ S) (h5 : ea ∉ S) (h6 : eb ∉ S) : MidO w W' pa qa ea pb qb eb La Lb :=
  ⟨h.fa.turned ht h1 h2 h5, h.fb.turned ht h3 h4 h6, ht.other h.r0 h0, ht.below h.low hS h.low.size, h.h1⟩
theorem MidO.moved {w W W' : World} {pa qa ea pb qb eb eb2 : Nat} {La Lb Lb' : List En} (h : MidO w W pa qa ea pb qb eb La Lb) (ht : Turned [qb, eb] W W') (he : eb2 = eb ∨ W.heap.size ≤ eb2) (hf : ManyAt W' pb qb eb2 Lb' 256) : MidO w W' pa qa ea pb qb eb2 La Lb' := by
  have := h.h1
  have hl := h.fa.lt
  exact ⟨h.fa.turned ht (by simp; omega) (by simp; omega) (by simp; omega), hf, ht.other h.r0 (by simp; omega), ht.below h.low (by simp; omega) h.low.size, this.1, this.2.1, this.2.2.1, by omega⟩
theorem MidO.put {w W : World} {pa qa ea pb qb eb : Nat} {La Lb : List En} (h : MidO w W pa qa ea pb qb eb La Lb) (b : UInt8) (s g : Int) :
    Calls Try.prog 12 #[.pointer (some ⟨pb, 0, none⟩), .int .u8 (b.toNat : Int), .agg #[.int .i64 s, .int .u32 g]] W fun e w' => e = .returned (.int .i64 (putE b Lb 256)) ∧ ∃ eb2, MidO w w' pa qa ea pb qb eb2 La (putS b s g Lb 256) := by
  refine (put_any h.fb (Nat.le_refl _) (srt_len h.fb.srt) b s g).mono ?_
  rintro e w' ⟨rfl, eb2, he, ht, hf⟩
  exact ⟨rfl, eb2, h.moved ht he hf⟩
theorem MidO.take {w W : World} {pa qa ea pb qb eb : Nat} {La Lb : List En} (h : MidO w W pa qa ea pb qb eb La Lb) (b : UInt8) :
    Calls Try.prog 14 #[.pointer (some ⟨pb, 0, none⟩), .int .u8 (b.toNat : Int)] W fun e w' => e = .returned (.tuple #[refOf b Lb, .int .i64 (if isIn b Lb = true then 0 else 5)]) ∧ MidO w w' pa qa ea pb qb eb La (takeS b Lb) := by
  refine (take_any h.fb b).mono ?_
  rintro e w' ⟨rfl, ht, hf⟩
  exact ⟨rfl, h.moved ht (.inl rfl) hf⟩
/-- Of what is put first. -/
structure Put1 (more : List UInt8) (j : Nat) (L : List En) : Prop where
  srt : Srt L
  len : L.length ≤ 256
  mem : ∀ x ∈ L, x.1 ∈ more.take j
theorem Put1.zero (more : List UInt8) : Put1 more 0 [] := ⟨List.Pairwise.nil, by decide, fun x h => by simp at h⟩
theorem Put1.next {more : List UInt8} {j : Nat} {L : List En} (h : Put1 more j L) (hj : j < more.length) (s g : Int) : Put1 more (j + 1) (putS more[j] s g L 256) := by
  have ht := List.take_succ_eq_append_getElem hj
  refine ⟨srt_put h.srt _ _ _, ?_, fun x hx => ?_⟩
  · rw [put_len]
    have := h.len
    split
    · exact this
    · rename_i hn
      have : L.length ≠ 256 := fun e => hn (.inr e)
      omega
  · rw [ht, List.mem_append]
    by_cases hn : isIn more[j] L = true ∨ L.length = 256
    · rw [putS, if_pos hn] at hx
      exact .inl (h.mem x hx)
    · rw [mem_put hn] at hx
      rcases hx with rfl | hx
      · exact .inr (by simp)
      · exact .inl (h.mem x hx)
/-- Of what is left while all is taken. -/
structure Take1 (more : List UInt8) (j : Nat) (L : List En) : Prop where
  srt : Srt L
  len : L.length ≤ 256
  mem : ∀ x ∈ L, x.1 ∈ more.drop j
theorem Put1.all {more : List UInt8} {L : List En} (h : Put1 more more.length L) : Take1 more 0 L := ⟨h.srt, h.len, fun x hx => by have := h.mem x hx; simpa using this⟩
theorem Take1.next {more : List UInt8} {j : Nat} {L : List En} (h : Take1 more j L) (hj : j < more.length) : Take1 more (j + 1) (takeS more[j] L) := by
  refine ⟨srt_take h.srt, ?_, fun x hx => ?_⟩
  · rw [take_len]; have := h.len; split <;> omega
  · have hxL : x ∈ L := by
      unfold takeS at hx
      split at hx
      · exact (List.eraseIdx_sublist _ _).subset hx
      · exact hx
    have hne : x.1 ≠ more[j] := fun e => by
      have h1 := take_not (b := more[j]) h.srt
      rw [← Bool.not_eq_true] at h1
      exact h1 ((isIn_iff (srt_take h.srt)).2 ⟨x, hx, e⟩)
    have := h.mem x hxL
    rw [List.drop_eq_getElem_cons hj, List.mem_cons] at this
    rcases this with h1 | h1
    · exact absurd h1 hne
    · exact h1
theorem Take1.done {more : List UInt8} {L : List En} (h : Take1 more more.length L) : L = [] := by
  cases L with
  | nil => rfl
  | cons x L => have := h.mem x (by simp); simp at this
end Go.Proofs.Ytiifogbdoajnoaa
