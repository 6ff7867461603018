/- BookCopies: a book and its copy, each beside its reference. -/
import Derived.Test.YtcpmnkihhenbgaaDoesN
import Derived.Test.YtcpmnkihhenbgaaAllF
import Derived.Test.YtcpmnkihhenbgaaPairt
namespace Go.Proofs.Ytcpmnkihhenbgaa
open Go.RowKit Go.Shelf
set_option maxRecDepth 100000
set_option maxHeartbeats 4000000

/-- Where what does not move lies: the book (p, q, m), the copy, the boxes of the references and of the book. -/
structure Ix where
  p : Nat
  q : Nat
  m : Nat
  p2 : Nat
  q2 : Nat
  m2 : Nat
  nb : Nat
  ob : Nat
  z : Nat
  bb : Nat
abbrev refT : TypeId := 31
def rcs (v : Value) (K B : Nat) : Array Value := #[v, .int .u64 (K : Int), .int .u64 (B : Int)]
structure Cps (W1 W : World) (A : Ix) (e : Nat) (l2 : List Pr) (vn : Value) (e2 : Nat) (l3 : List Pr) (vo v : Value) (l : List Pr) (K B : Nat) : Prop where
  a : Here W1 W A.p A.q e A.m l2 K B
  c : Here W1 W A.p2 A.q2 e2 A.m2 l3 K B
  dis : ∀ x ∈ [A.p, A.q, e, A.m], x ∉ [A.p2, A.q2, e2, A.m2]
  sa : Seg W vn l2
  sc : Seg W vo l3
  sm : Seg W v l
  fn : Fresh W A.nb (rcs vn K B) refT
  fo : Fresh W A.ob (rcs vo K B) refT
  fm : Fresh W A.z (rcs v K B) refT
  fb : Fresh W A.bb #[.pointer (some ⟨A.p, 0, none⟩)] 27
  ne : A.nb ≠ A.ob ∧ A.nb ≠ A.z ∧ A.ob ≠ A.z
  ge : W1.heap.size ≤ A.nb ∧ W1.heap.size ≤ A.ob
def Cps.blks (A : Ix) (e e2 : Nat) (vn vo v : Value) : List Nat := [A.p, A.q, e, A.m, A.p2, A.q2, e2, A.m2, A.nb, A.ob, A.z, A.bb] ++ (vn.ownBlock.toList ++ (vo.ownBlock.toList ++ v.ownBlock.toList))
theorem Here.turned {w W W' : World} {p q e m : Nat} {l : List Pr} {K B : Nat} (h : Here w W p q e m l K B) {S : List Nat} (ht : Turned S W W') (hS : ∀ k ∈ S, w.heap.size ≤ k) (h0 : p ∉ S) (h1 : q ∉ S) (h2 : e ∉ S) (h3 : m ∉ S) : Here w W' p q e m l K B :=
  ⟨h.bk.turned ht h0 h1 h2 h3, Turned.below h.low ht hS h.low.size, h.hp, h.hq, h.he, h.hm⟩
theorem Seg.turnedS {W W' : World} {v : Value} {l : List Pr} (h : Seg W v l) {S : List Nat} (ht : Turned S W W') (hn : ∀ g, v.ownBlock = some g → g ∉ S) : Seg W' v l :=
  h.same fun g hg => ht.block g (h.lt hg).1 (hn g hg)
theorem Cps.turned {W1 W W' : World} {A : Ix} {e e2 : Nat} {l2 l3 l : List Pr} {vn vo v : Value} {K B : Nat} (h : Cps W1 W A e l2 vn e2 l3 vo v l K B) {S : List Nat} (ht : Turned S W W') (hS : ∀ k ∈ S, W1.heap.size ≤ k) (hn : ∀ k ∈ Cps.blks A e e2 vn vo v, k ∉ S) : Cps W1 W' A e l2 vn e2 l3 vo v l K B := by
  unfold Cps.blks at hn
  simp only [List.mem_append, List.mem_cons, List.not_mem_nil, or_false, Option.mem_toList] at hn
  exact ⟨h.a.turned ht hS (hn _ (by simp)) (hn _ (by simp)) (hn _ (by simp)) (hn _ (by simp)), h.c.turned ht hS (hn _ (by simp)) (hn _ (by simp)) (hn _ (by simp)) (hn _ (by simp)), h.dis,
    h.sa.turnedS ht (fun g hg => hn g (by simp [hg])), h.sc.turnedS ht (fun g hg => hn g (by simp [hg])), h.sm.turnedS ht (fun g hg => hn g (by simp [hg])),
    ht.other h.fn (hn _ (by simp)), ht.other h.fo (hn _ (by simp)), ht.other h.fm (hn _ (by simp)), ht.other h.fb (hn _ (by simp)), h.ne, h.ge⟩
theorem Cps.below {W1 W W' : World} {A : Ix} {e e2 : Nat} {l2 l3 l : List Pr} {vn vo v : Value} {K B : Nat} (h : Cps W1 W A e l2 vn e2 l3 vo v l K B) (hb : Below W.heap.size W W') : Cps W1 W' A e l2 vn e2 l3 vo v l K B :=
  h.turned (S := []) (Turned.of_below hb) (by simp) (by simp)
/-- What kind of block it is. -/
theorem Cps.kind {W1 W : World} {A : Ix} {e e2 : Nat} {l2 l3 l : List Pr} {vn vo v : Value} {K B : Nat} (h : Cps W1 W A e l2 vn e2 l3 vo v l K B) {k : Nat} (hk : k ∈ Cps.blks A e e2 vn vo v) :
    k < W.heap.size ∧ (k = A.m ∨ k = A.m2 ∨ ∃ cs t, Fresh W k cs t ∧ (t = 74 ∨ t = 72 ∨ t = 9 ∨ t = refT ∨ t = 27 ∨ (t = 49 ∧ (vn.ownBlock = some k ∨ vo.ownBlock = some k ∨ v.ownBlock = some k)))) := by
  have bkk : ∀ {p q e m l}, Here W1 W p q e m l K B → (Fresh W p #[.pointer (some ⟨q, 0, none⟩)] 74) ∧ (∃ cs, Fresh W q cs 72) ∧ (∃ cs t, Fresh W e cs t ∧ (t = 72 ∨ t = 9)) := fun hh => by
    obtain ⟨v0, hs⟩ := hh.bk.st
    refine ⟨hh.bk.ptr, ⟨_, hs.key.box⟩, ?_⟩
    rcases hs.key.ety with h3 | ⟨cur, h3⟩
    · rw [h3]; exact ⟨_, _, hs.key.box, .inl rfl⟩
    · exact ⟨_, _, h3, .inr rfl⟩
  obtain ⟨a1, ⟨_, a2⟩, _, _, a3, a4⟩ := bkk h.a
  obtain ⟨c1, ⟨_, c2⟩, _, _, c3, c4⟩ := bkk h.c
  unfold Cps.blks at hk
  simp only [List.mem_append, List.mem_cons, List.not_mem_nil, or_false, Option.mem_toList] at hk
  rcases hk with (rfl | rfl | rfl | rfl | rfl | rfl | rfl | rfl | rfl | rfl | rfl | rfl) | hv | hv | hv
  · exact ⟨a1.lt, .inr (.inr ⟨_, _, a1, .inl rfl⟩)⟩
  · exact ⟨a2.lt, .inr (.inr ⟨_, _, a2, .inr (.inl rfl)⟩)⟩
  · exact ⟨a3.lt, .inr (.inr ⟨_, _, a3, by rcases a4 with rfl | rfl <;> simp⟩)⟩
  · exact ⟨h.a.bk.lt.2.2.2, .inl rfl⟩
  · exact ⟨c1.lt, .inr (.inr ⟨_, _, c1, .inl rfl⟩)⟩
  · exact ⟨c2.lt, .inr (.inr ⟨_, _, c2, .inr (.inl rfl)⟩)⟩
  · exact ⟨c3.lt, .inr (.inr ⟨_, _, c3, by rcases c4 with rfl | rfl <;> simp⟩)⟩
  · exact ⟨h.c.bk.lt.2.2.2, .inr (.inl rfl)⟩
  · exact ⟨h.fn.lt, .inr (.inr ⟨_, _, h.fn, by simp⟩)⟩
  · exact ⟨h.fo.lt, .inr (.inr ⟨_, _, h.fo, by simp⟩)⟩
  · exact ⟨h.fm.lt, .inr (.inr ⟨_, _, h.fm, by simp⟩)⟩
  · exact ⟨h.fb.lt, .inr (.inr ⟨_, _, h.fb, by simp⟩)⟩
  · obtain ⟨h1, cur, h2⟩ := h.sa.lt hv; exact ⟨h1, .inr (.inr ⟨_, _, h2, by simp [hv]⟩)⟩
  · obtain ⟨h1, cur, h2⟩ := h.sc.lt hv; exact ⟨h1, .inr (.inr ⟨_, _, h2, by simp [hv]⟩)⟩
  · obtain ⟨h1, cur, h2⟩ := h.sm.lt hv; exact ⟨h1, .inr (.inr ⟨_, _, h2, by simp [hv]⟩)⟩
/-- A block of another kind is none of these. -/
theorem Cps.not_ty {W1 W : World} {A : Ix} {e e2 : Nat} {l2 l3 l : List Pr} {vn vo v : Value} {K B : Nat} (h : Cps W1 W A e l2 vn e2 l3 vo v l K B) {x : Nat} {cs : Array Value} {t : TypeId} (hf : Fresh W x cs t)
    (ht : t ≠ 74 ∧ t ≠ 72 ∧ t ≠ 9 ∧ t ≠ refT ∧ t ≠ 27) (hp : t = 49 → vn.ownBlock ≠ some x ∧ vo.ownBlock ≠ some x ∧ v.ownBlock ≠ some x) : x ∉ Cps.blks A e e2 vn vo v := by
  intro hx
  rcases (h.kind hx).2 with h1 | h1 | ⟨cs', t', h1, h2⟩
  · obtain ⟨v0, hs⟩ := h.a.bk.st
    exact hs.map.ne hf h1.symm
  · obtain ⟨v0, hs⟩ := h.c.bk.st
    exact hs.map.ne hf h1.symm
  · have := fresh_ty h1 hf
    subst this
    rcases h2 with h2 | h2 | h2 | h2 | h2 | ⟨h2, h3⟩
    · exact ht.1 h2
    · exact ht.2.1 h2
    · exact ht.2.2.1 h2
    · exact ht.2.2.2.1 h2
    · exact ht.2.2.2.2 h2
    · have := hp h2
      rcases h3 with h3 | h3 | h3
      · exact this.1 h3
      · exact this.2.1 h3
      · exact this.2.2 h3
/-- A record of another kind is none of these. -/
theorem Cps.not_rec {W1 W : World} {A : Ix} {e e2 : Nat} {l2 l3 l : List Pr} {vn vo v : Value} {K B : Nat} (h : Cps W1 W A e l2 vn e2 l3 vo v l K B) {x : Nat} {o : Obj} (ho : W.heap[x]? = some o) (hc : o.isCells = false) (h1 : x ≠ A.m) (h2 : x ≠ A.m2) : x ∉ Cps.blks A e e2 vn vo v := by
  intro hx
  rcases (h.kind hx).2 with h3 | h3 | ⟨cs', t', h3, _⟩
  · exact h1 h3
  · exact h2 h3
  · unfold Fresh at h3
    rw [ho] at h3
    cases h3
    cases hc
theorem Cps.kept {W1 W W' : World} {A : Ix} {e e2 : Nat} {l2 l3 l : List Pr} {vn vo v : Value} {K B : Nat} (h : Cps W1 W A e l2 vn e2 l3 vo v l K B) {row : Option Nat} (hg : W.grownBy W' row) (hr : ∀ r, row = some r → (W1.heap.size ≤ r ∧ r ≠ A.m ∧ r ≠ A.m2) ∧ ∃ o : Obj, W.heap[r]? = some o ∧ o.isCells = false) : Cps W1 W' A e l2 vn e2 l3 vo v l K B := by
  refine h.turned (S := row.toList) ⟨hg.os, hg.tape, hg.output, hg.size, fun k hk hn => hg.block k hk (fun e => hn (by rw [← e]; simp))⟩ (fun k hk => ?_) (fun k hk hn => ?_)
  · rw [Option.mem_toList] at hk
    exact (hr k hk).1.1
  · rw [Option.mem_toList] at hn
    obtain ⟨h1, o, ho, hc⟩ := hr k hn
    exact h.not_rec ho hc h1.2.1 h1.2.2 hk
theorem rcs_box {W : World} {n : Nat} {v : Value} {K B : Nat} {cs : Array Value} (hf : Fresh W n cs refT) (hc : cs.size = 3) : Fresh (stored W n v K B) n (rcs v K B) refT := stored_box hf hc v K B
/-- An operation on the book and on its reference. -/
theorem Cps.doesA {W1 W w' : World} {A : Ix} {e e' e2 : Nat} {l2 l2' l3 l : List Pr} {vn v' vo v : Value} {K B : Nat} (h : Cps W1 W A e l2 vn e2 l3 vo v l K B)
    (hh : Nw.HereN W1 W w' A.p A.q e e' A.m l2' K B) (ht : Turned [A.q, e, A.m] W w') (hs : SegN W w' vn v' l2') : Cps W1 (stored w' A.nb v' K B) A e' l2' v' e2 l3 vo v l K B := by
  have hT := stored_turned w' A.nb v' K B
  have hnS : ∀ {k : Nat} {cs : Array Value} {t : TypeId}, Fresh W k cs t → t ≠ 72 → t ≠ 9 → k ∉ [A.q, e, A.m] := fun hf h1 h2 => h.a.bk.out hf h1 h2
  have fnw : Fresh w' A.nb (rcs vn K B) refT := ht.other h.fn (hnS h.fn (by decide) (by decide))
  have dis1 : ∀ x ∈ [A.p2, A.q2, e2, A.m2], x ∉ [A.q, e, A.m] := fun x hx hx2 => h.dis x (List.mem_cons_of_mem _ hx2) hx
  have hcw : Here W1 w' A.p2 A.q2 e2 A.m2 l3 K B := h.c.turned ht (fun k hk => by
    simp at hk
    rcases hk with rfl | rfl | rfl
    · exact h.a.hq
    · exact h.a.he
    · exact h.a.hm) (dis1 _ (by simp)) (dis1 _ (by simp)) (dis1 _ (by simp)) (dis1 _ (by simp))
  have ofB : ∀ {p q e m l}, Here W1 w' p q e m l K B → p ≠ A.nb ∧ A.nb ∉ [q, e, m] := fun hh => ⟨fun e => by
    have hp := hh.bk.ptr
    rw [e] at hp
    exact absurd (fresh_ty hp fnw) (by decide), hh.bk.out fnw (by decide) (by decide)⟩
  have storeB : ∀ {p q e m l}, Here W1 w' p q e m l K B → Here W1 (stored w' A.nb v' K B) p q e m l K B := fun hh => by
    obtain ⟨h1, h2⟩ := ofB hh
    simp at h2
    exact hh.turned hT (fun k hk => by simp at hk; rw [hk]; exact h.ge.1) (by simpa using h1) (by simp; exact fun x => h2.1 x.symm) (by simp; exact fun x => h2.2.1 x.symm) (by simp; exact fun x => h2.2.2 x.symm)
  have storeS : ∀ {x : Value} {y : List Pr}, Seg w' x y → Seg (stored w' A.nb v' K B) x y := fun hx => hx.turnedS hT (fun g hg hm => by
    simp at hm
    subst hm
    obtain ⟨cur, hc⟩ := (hx.lt hg).2
    exact absurd (fresh_ty hc fnw) (by decide))
  refine ⟨storeB hh.toHere, storeB hcw, fun x hx hx2 => ?_, storeS hs.1, storeS (h.sc.turned h.a.bk ht), storeS (h.sm.turned h.a.bk ht), rcs_box fnw rfl, stored_other (ht.other h.fo (hnS h.fo (by decide) (by decide))) (fun x => h.ne.1 x.symm), stored_other (ht.other h.fm (hnS h.fm (by decide) (by decide))) (fun x => h.ne.2.1 x.symm), stored_other (ht.other h.fb (hnS h.fb (by decide) (by decide))) (fun x => ?_), h.ne, h.ge⟩
  · simp only [List.mem_cons, List.not_mem_nil, or_false] at hx
    rcases hx with rfl | rfl | rfl | rfl
    · exact h.dis A.p (by simp) hx2
    · exact h.dis A.q (by simp) hx2
    · rcases hh.new with rfl | hn
      · exact h.dis _ (by simp) hx2
      · have hl := h.c.bk.lt
        simp only [List.mem_cons, List.not_mem_nil, or_false] at hx2
        rcases hx2 with rfl | rfl | rfl | rfl <;> omega
    · exact h.dis A.m (by simp) hx2
  · have := h.fb
    rw [x] at this
    exact absurd (fresh_ty this h.fn) (by decide)
/-- An operation on the copy and on its reference. -/
theorem Cps.doesC {W1 W w' : World} {A : Ix} {e e2 e' : Nat} {l2 l3 l3' l : List Pr} {vn vo v' v : Value} {K B : Nat} (h : Cps W1 W A e l2 vn e2 l3 vo v l K B)
    (hh : Nw.HereN W1 W w' A.p2 A.q2 e2 e' A.m2 l3' K B) (ht : Turned [A.q2, e2, A.m2] W w') (hs : SegN W w' vo v' l3') : Cps W1 (stored w' A.ob v' K B) A e l2 vn e' l3' v' v l K B := by
  have hT := stored_turned w' A.ob v' K B
  have hnS : ∀ {k : Nat} {cs : Array Value} {t : TypeId}, Fresh W k cs t → t ≠ 72 → t ≠ 9 → k ∉ [A.q2, e2, A.m2] := fun hf h1 h2 => h.c.bk.out hf h1 h2
  have fnw : Fresh w' A.ob (rcs vo K B) refT := ht.other h.fo (hnS h.fo (by decide) (by decide))
  have dis1 : ∀ x ∈ [A.p, A.q, e, A.m], x ∉ [A.q2, e2, A.m2] := fun x hx hx2 => h.dis x hx (List.mem_cons_of_mem _ hx2)
  have hcw : Here W1 w' A.p A.q e A.m l2 K B := h.a.turned ht (fun k hk => by
    simp at hk
    rcases hk with rfl | rfl | rfl
    · exact h.c.hq
    · exact h.c.he
    · exact h.c.hm) (dis1 _ (by simp)) (dis1 _ (by simp)) (dis1 _ (by simp)) (dis1 _ (by simp))
  have ofB : ∀ {p q e m l}, Here W1 w' p q e m l K B → p ≠ A.ob ∧ A.ob ∉ [q, e, m] := fun hh => ⟨fun e => by
    have hp := hh.bk.ptr
    rw [e] at hp
    exact absurd (fresh_ty hp fnw) (by decide), hh.bk.out fnw (by decide) (by decide)⟩
  have storeB : ∀ {p q e m l}, Here W1 w' p q e m l K B → Here W1 (stored w' A.ob v' K B) p q e m l K B := fun hh => by
    obtain ⟨h1, h2⟩ := ofB hh
    simp at h2
    exact hh.turned hT (fun k hk => by simp at hk; rw [hk]; exact h.ge.2) (by simpa using h1) (by simp; exact fun x => h2.1 x.symm) (by simp; exact fun x => h2.2.1 x.symm) (by simp; exact fun x => h2.2.2 x.symm)
  have storeS : ∀ {x : Value} {y : List Pr}, Seg w' x y → Seg (stored w' A.ob v' K B) x y := fun hx => hx.turnedS hT (fun g hg hm => by
    simp at hm
    subst hm
    obtain ⟨cur, hc⟩ := (hx.lt hg).2
    exact absurd (fresh_ty hc fnw) (by decide))
  refine ⟨storeB hcw, storeB hh.toHere, fun x hx hx2 => ?_, storeS (h.sa.turned h.c.bk ht), storeS hs.1, storeS (h.sm.turned h.c.bk ht), stored_other (ht.other h.fn (hnS h.fn (by decide) (by decide))) (fun x => h.ne.1 x), rcs_box fnw rfl, stored_other (ht.other h.fm (hnS h.fm (by decide) (by decide))) (fun x => h.ne.2.2 x.symm), stored_other (ht.other h.fb (hnS h.fb (by decide) (by decide))) (fun x => ?_), h.ne, h.ge⟩
  · simp only [List.mem_cons, List.not_mem_nil, or_false] at hx2
    rcases hx2 with rfl | rfl | rfl | rfl
    · exact h.dis _ hx (by simp)
    · exact h.dis _ hx (by simp)
    · rcases hh.new with rfl | hn
      · exact h.dis _ hx (by simp)
      · have hl := h.a.bk.lt
        simp only [List.mem_cons, List.not_mem_nil, or_false] at hx
        rcases hx with rfl | rfl | rfl | rfl <;> omega
    · exact h.dis _ hx (by simp)
  · have := h.fb
    rw [x] at this
    exact absurd (fresh_ty this h.fo) (by decide)
/-- What an operation on the book does, for the iterator's frame. -/
theorem kpf_does {W1 W w' : World} {p q e e' m : Nat} {l l' : List Pr} {K B : Nat} {S : List Nat} (h : BookAt W p q e m l K B) (hn : e = q ∨ foot q W e) (hh : Nw.HereN W1 W w' p q e e' m l' K B) (ht : Turned [q, e, m] W w') (hm : m ∈ S) : KpF q S W w' := by
  refine ⟨ht.os, ht.tape, ht.output, ht.size, fun hq hl k hk hkS hne => ?_, fun hq hl k hk => ?_⟩
  · by_cases hke : k = e
    · subst hke
      rcases hn with h1 | h1
      · exact absurd h1 hne
      · refine .inr ⟨h1, ?_⟩
        obtain ⟨v0, hs⟩ := h.st
        rcases hs.key.ety with h3 | ⟨cur, h3⟩
        · exact absurd h3 hne
        · exact ⟨_, _, h3⟩
    · exact .inl (.inl (ht.block k hk (by
        intro hx
        simp only [List.mem_cons, List.not_mem_nil, or_false] at hx
        rcases hx with rfl | rfl | rfl
        · exact hne rfl
        · exact hke rfl
        · exact hkS hm)))
  · have hk2 := foot_book hh.bk hk
    subst hk2
    rcases hh.new with h1 | h1
    · subst h1
      rcases hn with h2 | h2
      · subst h2
        obtain ⟨v0, hs⟩ := hh.bk.st
        obtain ⟨vv, hv1, hv2⟩ := hk
        rw [hs.cells.1] at hv1
        cases hv1
        rcases hs.key.row.form with ⟨h3, _⟩ | ⟨cap, cur, h3, hf, _⟩
        · rw [h3] at hv2; cases hv2
        · exact absurd (fresh_ty hf hs.key.box) (by decide)
      · exact .inl h2
    · exact .inr h1
/-- The keys' block may be named so that it is the store's own, or where the keys lie. -/
theorem here_norm {W1 W : World} {p q e m : Nat} {l : List Pr} {K B : Nat} (h : Here W1 W p q e m l K B) : ∃ e', (e' = e ∨ e' = q) ∧ Here W1 W p q e' m l K B ∧ (e' = q ∨ foot q W e') := by
  obtain ⟨v0, hs⟩ := h.bk.st
  rcases hs.key.row.form with ⟨h3, h4⟩ | ⟨cap, cur, h3, hf, _⟩
  · refine ⟨q, .inr rfl, ⟨⟨h.bk.ptr, v0, ⟨hs.key.box, hs.key.size, hs.key.v0, ⟨.inl ⟨h3, h4⟩⟩, .inl rfl⟩, hs.map, hs.srt, hs.txt⟩, h.low, h.hp, h.hq, h.hq, h.hm⟩, .inl rfl⟩
  · exact ⟨e, .inl rfl, h, .inr ⟨v0, hs.cells.1, by rw [h3]; rfl⟩⟩
theorem Cps.norm {W1 W : World} {A : Ix} {e e2 : Nat} {l2 l3 l : List Pr} {vn vo v : Value} {K B : Nat} (h : Cps W1 W A e l2 vn e2 l3 vo v l K B) : ∃ e', Cps W1 W A e' l2 vn e2 l3 vo v l K B ∧ (e' = A.q ∨ foot A.q W e') := by
  obtain ⟨e', h1, h2, h3⟩ := here_norm h.a
  refine ⟨e', ⟨h2, h.c, fun x hx hx2 => ?_, h.sa, h.sc, h.sm, h.fn, h.fo, h.fm, h.fb, h.ne, h.ge⟩, h3⟩
  simp only [List.mem_cons, List.not_mem_nil, or_false] at hx
  rcases hx with rfl | rfl | rfl | rfl
  · exact h.dis A.p (by simp) hx2
  · exact h.dis A.q (by simp) hx2
  · rcases h1 with rfl | rfl
    · exact h.dis _ (by simp) hx2
    · exact h.dis A.q (by simp) hx2
  · exact h.dis A.m (by simp) hx2
end Go.Proofs.Ytcpmnkihhenbgaa
