/- Lists that lie apart: lists of lists, and what appending does to them. -/
import Derived.Test.YtcpmnkihhenbgaaApB
namespace Go.Proofs.Ytcpmnkihhenbgaa
open Go.RowKit Go.Shelf
set_option maxRecDepth 1000000
set_option maxHeartbeats 4000000

def mk (k i : Nat) : Pr := (mt k i, ⟨#[]⟩)
def Mk (k n : Nat) : List Pr := (List.range n).map (mk k)
theorem Mk_len (k n : Nat) : (Mk k n).length = n := by simp [Mk]
theorem Mk_succ (k n : Nat) : Mk k (n + 1) = Mk k n ++ [mk k n] := by simp [Mk, List.range_succ]
theorem Mk_at (k n i : Nat) (h : i < n) : (Mk k n)[i]? = some (mk k i) := by simp [Mk, h]
/-- The first i places are marked. -/
def Mi (k i : Nat) (l : List Pr) : List Pr := Mk k i ++ l.drop i
theorem Mi_len {k i : Nat} {l : List Pr} (h : i ≤ l.length) : (Mi k i l).length = l.length := by simp [Mi, Mk_len]; omega
theorem Mi_zero (k : Nat) (l : List Pr) : Mi k 0 l = l := rfl
theorem Mi_all (k : Nat) (l : List Pr) : Mi k l.length l = Mk k l.length := by simp [Mi]
theorem Mi_set {k i : Nat} {l : List Pr} (h : i < l.length) : (Mi k i l).set i (mk k i) = Mi k (i + 1) l := by
  unfold Mi
  rw [Mk_succ, List.set_append, if_neg (by rw [Mk_len]; omega), Mk_len, Nat.sub_self, List.drop_eq_getElem_cons h, List.set_cons_zero, List.append_assoc]
  rfl
/-- Lists in a list of lists, each in a block of its own. -/
structure Lay (W : World) (L : Nat) (cu : Array Value) (vs : List Value) (c : Nat → List Pr) : Prop where
  blk : Fresh W L cu 29
  row : ∀ k v, vs[k]? = some v → Own W v (c k)
def Dis (vs : List Value) : Prop := ∀ (j k : Nat) (u v : Value) (g : Nat), vs[j]? = some u → vs[k]? = some v → j ≠ k → u.ownBlock = some g → v.ownBlock ≠ some g
def blks (vs : List Value) : List Nat := vs.filterMap Value.ownBlock
theorem mem_blks {vs : List Value} {k g : Nat} {v : Value} (h : vs[k]? = some v) (hg : v.ownBlock = some g) : g ∈ blks vs := List.mem_filterMap.2 ⟨v, List.mem_of_getElem? h, hg⟩
theorem Lay.below {W W' : World} {L : Nat} {cu : Array Value} {vs : List Value} {c : Nat → List Pr} (h : Lay W L cu vs c) (hb : Below W.heap.size W W') : Lay W' L cu vs c :=
  ⟨h.blk.below hb, fun k v hv => (h.row k v hv).same fun g hg => hb.block g ((h.row k v hv).lt hg)⟩
theorem Lay.not {W : World} {L : Nat} {cu : Array Value} {vs : List Value} {c : Nat → List Pr} (h : Lay W L cu vs c) {k : Nat} {cs : Array Value} {t : TypeId} (hf : Fresh W k cs t) (ht : (t == 49) = false) : k ∉ blks vs := by
  intro hm
  obtain ⟨v, hv, hg⟩ := List.mem_filterMap.1 hm
  obtain ⟨j, hj⟩ := List.mem_iff_getElem?.1 hv
  exact (h.row j v hj).not hf ht hg
/-- A place of one of them is stored to. -/
theorem Lay.set {W : World} {L : Nat} {cu : Array Value} {vs : List Value} {c : Nat → List Pr} (h : Lay W L cu vs c) (hd : Dis vs) {k g n cap : Nat} (hk : vs[k]? = some (.slice (some ⟨g, 0, none⟩) n cap)) {i : Nat} (hi : i < (c k).length) (x : Pr) :
    Lay ((W.setCell ⟨g, i * 2, none⟩ (.string x.1)).setCell ⟨g, i * 2 + 1, none⟩ (.string x.2)) L cu vs (fun j => if j = k then (c k).set i x else c j) := by
  have hgL : L ≠ g := by
    rintro rfl
    exact (h.row k _ hk).not h.blk (by decide) rfl
  refine ⟨(h.blk.other hgL _ _).other hgL _ _, fun j v hj => ?_⟩
  by_cases e : j = k
  · subst e
    rw [hk] at hj
    cases hj
    rw [if_pos rfl]
    exact (h.row j _ hk).set hi x
  · rw [if_neg e]
    refine (h.row j v hj).same fun g' hg' => ?_
    have hne : g' ≠ g := fun e' => hd j k v _ g hj hk e (e' ▸ hg') rfl
    rw [Below.heap_setCell _ ⟨g, _, none⟩ _ _ hne, Below.heap_setCell _ ⟨g, _, none⟩ _ _ hne]
theorem Lay.eq {W : World} {L : Nat} {cu : Array Value} {vs : List Value} {c c' : Nat → List Pr} (h : Lay W L cu vs c) (hc : ∀ k, k < vs.length → c k = c' k) : Lay W L cu vs c' :=
  ⟨h.blk, fun k v hv => by rw [← hc k (List.getElem?_eq_some_iff.1 hv).1]; exact h.row k v hv⟩
/-- The lists, those before k marked, of the list k the first i places. -/
def cM (c : Nat → List Pr) (k i : Nat) : Nat → List Pr := fun j => if j < k then Mk j (c j).length else if j = k then Mi k i (c k) else c j
theorem cM_zero (c : Nat → List Pr) : cM c 0 0 = c := by
  funext j
  unfold cM
  rw [if_neg (by omega)]
  split
  · next h => subst h; rfl
  · rfl
theorem cM_next (c : Nat → List Pr) (k : Nat) : cM c k (c k).length = cM c (k + 1) 0 := by
  funext j
  unfold cM
  by_cases h1 : j < k
  · rw [if_pos h1, if_pos (by omega)]
  · by_cases h2 : j = k
    · subst h2
      rw [if_neg h1, if_pos rfl, if_pos (by omega), Mi_all]
    · rw [if_neg h1, if_neg h2, if_neg (by omega)]
      split
      · next h => subst h; rfl
      · rfl
theorem cM_set (c : Nat → List Pr) (k i : Nat) (h : i < (c k).length) : (fun j => if j = k then (cM c k i k).set i (mk k i) else cM c k i j) = cM c k (i + 1) := by
  funext j
  unfold cM
  by_cases h1 : j = k
  · subst h1
    rw [if_pos rfl, if_neg (by omega), if_pos rfl, if_neg (by omega), if_pos rfl, Mi_set h]
  · rw [if_neg h1]
    by_cases h2 : j < k
    · rw [if_pos h2, if_pos h2]
    · rw [if_neg h2, if_neg h1, if_neg h2, if_neg h1]
theorem cM_len (c : Nat → List Pr) (k i : Nat) (h : i ≤ (c k).length) : (cM c k i k).length = (c k).length := by
  unfold cM
  rw [if_neg (by omega), if_pos rfl, Mi_len h]
theorem cM_all (c : Nat → List Pr) (n j : Nat) (h : j < n) : cM c n 0 j = Mk j (c j).length := by unfold cM; rw [if_pos h]

theorem Mk_add (k n m : Nat) : Mk k (n + m) = Mk k n ++ (List.range' n m).map (mk k) := by
  unfold Mk
  rw [List.range_eq_range', List.range_eq_range', ← List.map_append]
  congr 1
  have h := List.range'_append_1 (s := 0) (m := n) (n := m)
  rw [Nat.zero_add] at h
  exact h.symm
theorem Lay.done {W : World} {L : Nat} {cu : Array Value} {vs : List Value} {c : Nat → List Pr} (h : Lay W L cu vs (cM c vs.length 0)) : Lay W L cu vs (fun j => Mk j (c j).length) := h.eq fun k hk => cM_all c _ k hk
/-- What a list v has been grown to: u; l: what it has, r: what was appended. -/
structure Inn (Wk W : World) (v u : Value) (l r : List Pr) : Prop where
  own : Own W u (l ++ r)
  old : Own W v l
  trd : Turned v.ownBlock.toList Wk W
  loc : (∃ g kap, v = .slice (some ⟨g, 0, none⟩) l.length kap ∧ u = .slice (some ⟨g, 0, none⟩) (l ++ r).length kap) ∨ (∀ b, u.ownBlock = some b → Wk.heap.size ≤ b)
theorem Inn.start {W : World} {v : Value} {l : List Pr} (h : Own W v l) : Inn W W v v l [] := by
  refine ⟨by rw [List.append_nil]; exact h, h, Turned.refl _ _, ?_⟩
  rcases h.form with ⟨rfl, rfl⟩ | ⟨g, cap, cur, rfl, _⟩
  · exact .inr fun b e => by cases e
  · exact .inl ⟨g, cap, rfl, by rw [List.append_nil]⟩
theorem Inn.step {Wk W W7 W' : World} {v u v' : Value} {l r r2 : List Pr} (h : Inn Wk W v u l r) (hv : ∀ b, v.ownBlock = some b → b < Wk.heap.size) (hb : Below W.heap.size W W7) (ho : Own W' v' ((l ++ r) ++ r2))
    (hd : (∃ g cap, u = .slice (some ⟨g, 0, none⟩) (l ++ r).length cap ∧ v' = .slice (some ⟨g, 0, none⟩) ((l ++ r) ++ r2).length cap ∧ W7.grownBy W' (some g)) ∨ (W7.grownBy W' none ∧ ∀ g, v'.ownBlock = some g → g = W7.heap.size)) : Inn Wk W' v v' l (r ++ r2) := by
  have ho' := ho
  rw [List.append_assoc] at ho
  have ht7 := h.trd.trans (Turned.of_below hb)
  have hold7 : Own W7 v l := h.old.same fun g hg => hb.block g (h.old.lt hg)
  rcases hd with ⟨g, cap, rfl, rfl, hg⟩ | ⟨hg, hnew⟩
  · rcases h.loc with ⟨g', kap, rfl, e⟩ | hloc
    · simp only [Value.slice.injEq, Option.some.injEq, Addr.mk.injEq] at e
      obtain ⟨⟨rfl, _, _⟩, _, rfl⟩ := e
      refine ⟨ho, ?_, ⟨hg.os.trans ht7.os, hg.tape.trans ht7.tape, hg.output.trans ht7.output, Nat.le_trans ht7.size hg.size, fun k hk hn => (hg.block k (Nat.lt_of_lt_of_le hk ht7.size) (fun e => hn (by simp [Value.ownBlock]; exact (Option.some.inj e)))).trans (ht7.block k hk hn)⟩, .inl ⟨g, cap, rfl, by rw [List.append_assoc]⟩⟩
      have hh := Own.head ho
      rwa [if_neg (by simp)] at hh
    · have hgk : Wk.heap.size ≤ g := hloc g rfl
      refine ⟨ho, ?_, ⟨hg.os.trans ht7.os, hg.tape.trans ht7.tape, hg.output.trans ht7.output, Nat.le_trans ht7.size hg.size, fun k hk hn => (hg.block k (Nat.lt_of_lt_of_le hk ht7.size) (fun e => by cases e; omega)).trans (ht7.block k hk hn)⟩, .inr fun b e => by cases e; exact hgk⟩
      exact hold7.same fun b hb' => hg.block b (hold7.lt hb') (fun e => by cases e; have := hv g hb'; omega)
  · refine ⟨ho, ?_, ⟨hg.os.trans ht7.os, hg.tape.trans ht7.tape, hg.output.trans ht7.output, Nat.le_trans ht7.size hg.size, fun k hk hn => (hg.block k (Nat.lt_of_lt_of_le hk ht7.size) (fun e => by cases e)).trans (ht7.block k hk hn)⟩, .inr fun b e => by rw [hnew b e]; exact ht7.size⟩
    exact hold7.same fun b hb' => hg.block b (hold7.lt hb') (fun e => by cases e)
/-- The grown lists, those before k. -/
structure Gs (W : World) (G N1 : Nat) (vs ws : List Value) (k : Nat) (d : Nat → List Pr) (R : Nat → List Pr → Prop) : Prop where
  blk : Fresh W G ws.toArray 29
  len : ws.length = vs.length
  row : ∀ j u, j < k → ws[j]? = some u → ∃ r, R j r ∧ Own W u (d j ++ r)
  loc : ∀ (j : Nat) (u : Value) (g : Nat), j < k → ws[j]? = some u → u.ownBlock = some g → (∃ v : Value, vs[j]? = some v ∧ v.ownBlock = some g) ∨ N1 ≤ g
theorem Gs.not {W : World} {G N1 : Nat} {vs ws : List Value} {k : Nat} {d : Nat → List Pr} {R : Nat → List Pr → Prop} (h : Gs W G N1 vs ws k d R) {v : Value} {l : List Pr} (hv : Own W v l) : v.ownBlock ≠ some G := hv.not h.blk (by decide)
/-- Both. -/
structure Both (W0 W : World) (L G N1 : Nat) (cu : Array Value) (vs ws : List Value) (k : Nat) (d : Nat → List Pr) (R : Nat → List Pr → Prop) : Prop where
  lay : Lay W L cu vs d
  gs : Gs W G N1 vs ws k d R
  trd : Turned (blks vs) W0 W
  n1 : N1 ≤ W.heap.size
  lt : ∀ (j : Nat) (v : Value) (g : Nat), vs[j]? = some v → v.ownBlock = some g → g < N1
  lg : L < N1 ∧ N1 ≤ G
  n0 : W0.heap.size ≤ N1
theorem Both.below {W0 W W' : World} {L G N1 : Nat} {cu : Array Value} {vs ws : List Value} {k : Nat} {d : Nat → List Pr} {R : Nat → List Pr → Prop} (h : Both W0 W L G N1 cu vs ws k d R) (hb : Below W.heap.size W W') : Both W0 W' L G N1 cu vs ws k d R :=
  ⟨h.lay.below hb, ⟨h.gs.blk.below hb, h.gs.len, fun j u hj hu => by obtain ⟨r, h1, h2⟩ := h.gs.row j u hj hu; exact ⟨r, h1, h2.same fun g hg => hb.block g (h2.lt hg)⟩, h.gs.loc⟩, h.trd.trans (Turned.of_below hb), Nat.le_trans h.n1 hb.size, h.lt, h.lg, h.n0⟩
/-- One list more has been grown. -/
theorem Both.next {W0 Wk W : World} {L G N1 : Nat} {cu : Array Value} {vs ws : List Value} {k : Nat} {d : Nat → List Pr} {R : Nat → List Pr → Prop} (h : Both W0 Wk L G N1 cu vs ws k d R) (hd : Dis vs) {v u : Value} (hv : vs[k]? = some v) {r : List Pr} (hi : Inn Wk W v u (d k) r) (hR : R k r) :
    Both W0 (W.setCell ⟨G, k, none⟩ u) L G N1 cu vs (ws.set k u) (k + 1) d R := by
  have hsz := hi.trd.size
  have hGk : G < Wk.heap.size := h.gs.blk.lt
  have hGv : v.ownBlock ≠ some G := h.gs.not (h.lay.row k v hv)
  have hG : Fresh W G ws.toArray 29 := hi.trd.other h.gs.blk (by rw [Option.mem_toList]; exact hGv)
  have hLG : L ≠ G := by have := h.lg; omega
  have hL : Fresh W L cu 29 := hi.trd.other h.lay.blk (by rw [Option.mem_toList]; exact (h.lay.row k v hv).not h.lay.blk (by decide))
  have keep : ∀ (x : Value) (l : List Pr), Own W x l → Own (W.setCell ⟨G, k, none⟩ u) x l := fun x l hx => hx.same fun g hg => Below.heap_setCell _ ⟨G, k, none⟩ _ _ (fun e => hx.not hG (by decide) (hg.trans (congrArg some e)))
  have old : ∀ (x : Value) (l : List Pr), Own Wk x l → (∀ g, x.ownBlock = some g → v.ownBlock ≠ some g) → Own W x l := fun x l hx hn => hx.same fun g hg => hi.trd.block g (hx.lt hg) (by rw [Option.mem_toList]; exact hn g hg)
  refine ⟨⟨hL.other hLG _ _, fun j x hj => keep _ _ ?_⟩, ⟨?_, by rw [List.length_set]; exact h.gs.len, ?_, ?_⟩, ?_, ?_, h.lt, h.lg, h.n0⟩
  · by_cases e : j = k
    · subst e
      rw [hv] at hj
      cases hj
      exact hi.old
    · exact old _ _ (h.lay.row j x hj) fun g hg => hd j k x v g hj hv e hg
  · have := hG.set k u
    rwa [List.setIfInBounds_toArray] at this
  · intro j x hj hx
    by_cases e : j = k
    · subst e
      have hlt : j < ws.length := by rw [h.gs.len]; exact (List.getElem?_eq_some_iff.1 hv).1
      rw [List.getElem?_set_self hlt] at hx
      cases hx
      exact ⟨r, hR, keep _ _ hi.own⟩
    · rw [List.getElem?_set_ne (fun e' => e e'.symm)] at hx
      obtain ⟨r', h1, h2⟩ := h.gs.row j x (by omega) hx
      refine ⟨r', h1, keep _ _ (old _ _ h2 fun g hg e2 => ?_)⟩
      rcases h.gs.loc j x g (by omega) hx hg with ⟨v', hv', e'⟩ | hN
      · exact hd j k v' v g hv' hv e e' e2
      · have := h.lt k v g hv e2
        omega
  · intro j x g hj hx hg
    by_cases e : j = k
    · subst e
      have hlt : j < ws.length := by rw [h.gs.len]; exact (List.getElem?_eq_some_iff.1 hv).1
      rw [List.getElem?_set_self hlt] at hx
      cases hx
      rcases hi.loc with ⟨g', kap, e1, e2⟩ | hloc
      · refine .inl ⟨v, hv, ?_⟩
        rw [e1]
        rw [e2] at hg
        exact hg
      · exact .inr (Nat.le_trans h.n1 (hloc g hg))
    · rw [List.getElem?_set_ne (fun e' => e e'.symm)] at hx
      exact h.gs.loc j x g (by omega) hx hg
  · have ht : Turned (blks vs) W0 W := h.trd.trans (hi.trd.wide fun g hg => by rw [Option.mem_toList] at hg; exact mem_blks hv hg)
    exact ht.setCell (.inr (by have := h.lg; have := h.n0; omega)) _ _
  · have := h.n1
    simp [World.setCell]
    omega
end Go.Proofs.Ytcpmnkihhenbgaa
