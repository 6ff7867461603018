/- Lists that lie apart: rows of pairs, their places changed and appended to. -/
import Derived.Test.YtcpmnkihhenbgaaPairt
import Derived.Maps.AppendAt
import Derived.Laws.IdiomStrings
namespace Go.Proofs.Ytcpmnkihhenbgaa
open Go.RowKit Go.Shelf
set_option maxRecDepth 1000000
set_option maxHeartbeats 4000000

/-- A slice that has its block to itself. -/
abbrev Own (W : World) (v : Value) (l : List Pr) : Prop := W.ownsRow 0 49 2 v l.length (flatP l)
theorem Own.nil (W : World) : Own W (.slice none 0 0) [] := ⟨rfl, .inl ⟨rfl, rfl⟩⟩
theorem Own.wide {W : World} {B : Nat} {v : Value} {l : List Pr} (h : W.ownsRow B 49 2 v l.length (flatP l)) : Own W v l := by
  refine ⟨h.1, ?_⟩
  rcases h.2 with h1 | ⟨g, cap, cur, a, _, b⟩
  · exact .inl h1
  · exact .inr ⟨g, cap, cur, a, Nat.zero_le _, b⟩
theorem Own.form {W : World} {v : Value} {l : List Pr} (h : Own W v l) : (v = .slice none 0 0 ∧ l = []) ∨ ∃ g cap cur, v = .slice (some ⟨g, 0, none⟩) l.length cap ∧ l.length ≤ cap ∧ cap ≤ maxLen ∧ cur.size = cap * 2 ∧ Fresh W g cur 49 ∧ cur.toList.take (l.length * 2) = flatP l := by
  rcases h.2 with ⟨h1, h2⟩ | ⟨g, cap, cur, h1, _, h3, h4, h5, h6, h7⟩
  · exact .inl ⟨h1, List.length_eq_zero_iff.1 h2⟩
  · exact .inr ⟨g, cap, cur, h1, h4, h5, h6, h3, h7⟩
theorem Own.mk {W : World} {g cap : Nat} {cur : Array Value} {l : List Pr} (h1 : l.length ≤ cap) (h2 : cap ≤ maxLen) (h3 : cur.size = cap * 2) (h4 : Fresh W g cur 49) (h5 : cur.toList.take (l.length * 2) = flatP l) : Own W (.slice (some ⟨g, 0, none⟩) l.length cap) l :=
  ⟨flatP_length l, .inr ⟨g, cap, cur, rfl, Nat.zero_le _, h4, h1, h2, h3, h5⟩⟩
theorem Own.same {W W' : World} {v : Value} {l : List Pr} (h : Own W v l) (hk : ∀ g, v.ownBlock = some g → W'.heap[g]? = W.heap[g]?) : Own W' v l := by
  rcases h.form with ⟨rfl, rfl⟩ | ⟨g, cap, cur, rfl, h1, h2, h3, h4, h5⟩
  · exact Own.nil _
  · exact Own.mk h1 h2 h3 ((hk g rfl).trans h4) h5
theorem Own.lt {W : World} {v : Value} {l : List Pr} (h : Own W v l) {g : Nat} (hg : v.ownBlock = some g) : g < W.heap.size := by
  rcases h.form with ⟨rfl, rfl⟩ | ⟨g', cap, cur, rfl, h1, h2, h3, h4, h5⟩
  · cases hg
  · cases hg; exact h4.lt
theorem Own.not {W : World} {v : Value} {l : List Pr} (h : Own W v l) {k : Nat} {cs : Array Value} {t : TypeId} (hf : Fresh W k cs t) (ht : (t == 49) = false) : v.ownBlock ≠ some k := by
  rcases h.form with ⟨rfl, rfl⟩ | ⟨g', cap, cur, rfl, h1, h2, h3, h4, h5⟩
  · intro e; cases e
  · intro e
    cases e
    have := fresh_ty h4 hf
    rw [← this] at ht
    simp at ht
/-- Its first pairs. -/
theorem Own.head {W : World} {a : Option Addr} {n cap : Nat} {l r : List Pr} (h : Own W (.slice a n cap) (l ++ r)) : Own W (.slice (if l = [] ∧ a = none then none else a) l.length cap) l := by
  rcases h.form with ⟨h1, h0⟩ | ⟨g, cap', cur, h1, h2, h3, h4, h5, h6⟩
  · simp only [Value.slice.injEq] at h1
    obtain ⟨rfl, rfl, rfl⟩ := h1
    obtain ⟨rfl, rfl⟩ := List.append_eq_nil_iff.1 h0
    simpa using Own.nil W
  · simp only [Value.slice.injEq] at h1
    obtain ⟨rfl, rfl, rfl⟩ := h1
    rw [if_neg (by simp)]
    refine Own.mk (by rw [List.length_append] at h2; omega) h3 h4 h5 ?_
    have e := congrArg (List.take (l.length * 2)) h6
    rw [List.take_take, Nat.min_eq_left (by rw [List.length_append]; omega)] at e
    rw [e]
    unfold flatP
    rw [List.flatMap_append]
    have := flatP_length l
    unfold flatP at this
    rw [← this, List.take_left]
theorem Own.cells {W : World} {v : Value} {l : List Pr} (h : Own W v l) {i : Nat} {x : Pr} (hx : l[i]? = some x) : ∃ g cap, v = .slice (some ⟨g, 0, none⟩) l.length cap ∧ W.cell? ⟨g, i * 2, none⟩ = some (.string x.1) ∧ W.cell? ⟨g, i * 2 + 1, none⟩ = some (.string x.2) ∧ W.frozen? ⟨g, i * 2, none⟩ = false ∧ W.frozen? ⟨g, i * 2 + 1, none⟩ = false ∧ g < W.heap.size := by
  rcases h.form with ⟨rfl, rfl⟩ | ⟨g, cap, cur, rfl, h1, h2, h3, h4, h5⟩
  · simp at hx
  · obtain ⟨a, b⟩ := flatP_at l i x hx
    have hi : i < l.length := (List.getElem?_eq_some_iff.1 hx).1
    rw [← h5, List.getElem?_take_of_lt (by omega), Array.getElem?_toList] at a b
    exact ⟨g, cap, rfl, by rw [h4.cell]; exact a, by rw [h4.cell]; exact b, h4.thawed _, h4.thawed _, h4.lt⟩
theorem flatP_set : ∀ (l : List Pr) (i : Nat) (x : Pr), i < l.length → flatP (l.set i x) = ((flatP l).set (i * 2) (.string x.1)).set (i * 2 + 1) (.string x.2)
  | [], i, x, h => by simp at h
  | y :: l, 0, x, _ => rfl
  | y :: l, i + 1, x, h => by
    rw [List.set_cons_succ]
    show [Value.string y.1, Value.string y.2] ++ flatP (l.set i x) = (([Value.string y.1, Value.string y.2] ++ flatP l).set _ _).set _ _
    rw [flatP_set l i x (by simpa using h), show (i + 1) * 2 = i * 2 + 2 from by omega, show i * 2 + 2 + 1 = i * 2 + 1 + 2 from by omega]
    rfl
/-- One of its places is stored to. -/
theorem Own.set {W : World} {g n cap : Nat} {l : List Pr} (h : Own W (.slice (some ⟨g, 0, none⟩) n cap) l) {i : Nat} (hi : i < l.length) (x : Pr) : Own ((W.setCell ⟨g, i * 2, none⟩ (.string x.1)).setCell ⟨g, i * 2 + 1, none⟩ (.string x.2)) (.slice (some ⟨g, 0, none⟩) n cap) (l.set i x) := by
  rcases h.form with ⟨h1, _⟩ | ⟨g', cap', cur, h1, h2, h3, h4, h5, h6⟩
  · cases h1
  · simp only [Value.slice.injEq, Option.some.injEq, Addr.mk.injEq] at h1
    obtain ⟨⟨rfl, _, _⟩, rfl, rfl⟩ := h1
    have hl : (l.set i x).length = l.length := List.length_set
    rw [← hl]
    refine Own.mk (by rw [hl]; exact h2) h3 (cur := (cur.setIfInBounds (i * 2) (.string x.1)).setIfInBounds (i * 2 + 1) (.string x.2)) (by simpa using h4) ((h5.set _ _).set _ _) ?_
    rw [hl, Array.toList_setIfInBounds, Array.toList_setIfInBounds, List.take_set, List.take_set, h6, flatP_set l i x hi]
/-- Pairs appended: in its own room, or in a new block. -/
theorem app_own {W : World} {v u : Value} {l l2 : List Pr} (h : Own W v l) (hu : Seg W u l2) (hn : l.length + l2.length ≤ 1000000) :
    ∃ v' W', (∀ ty, (Builtin.append_ #[29, 29] ty #[v, u]).run Try.prog W = .ok v' W') ∧ Own W' v' (l ++ l2) ∧
      ((∃ g cap, v = .slice (some ⟨g, 0, none⟩) l.length cap ∧ v' = .slice (some ⟨g, 0, none⟩) (l ++ l2).length cap ∧ W.grownBy W' (some g)) ∨ (W.grownBy W' none ∧ ∀ g, v'.ownBlock = some g → g = W.heap.size)) := by
  obtain ⟨i0, hi0, hz0, hzs, hzb⟩ := infoP
  have hfl : flatP (l ++ l2) = flatP l ++ flatP l2 := by simp [flatP]
  rcases hu with ⟨rfl, rfl⟩ | ⟨g, o, cap, cur, rfl, h2, h3, h4, h5⟩
  · refine ⟨v, W, fun ty => run_append_owned_none W 0 29 ty 49 i0 2 Try.underlying29 hi0 v l.length (flatP l) h, by simpa [flatP] using h, ?_⟩
    rcases h.form with ⟨rfl, rfl⟩ | ⟨g, cap, cur, rfl, _⟩
    · exact .inr ⟨⟨rfl, rfl, rfl, Nat.le_refl _, fun _ _ _ => rfl⟩, fun g e => by cases e⟩
    · exact .inl ⟨g, cap, rfl, by simp, ⟨rfl, rfl, rfl, Nat.le_refl _, fun _ _ _ => rfl⟩⟩
  · have hcell : ∀ j u, (flatP l2)[j]? = some u → W.cell? ((⟨g, o, none⟩ : Addr).add j) = some u := fun j u hj => by rw [Addr.add_lit, h4.cell]; exact h5 j u hj
    have hone : ∀ u ∈ flatP l2, u.oneCell' = true := fun u hu => by
      unfold flatP at hu
      obtain ⟨t, _, ht⟩ := List.mem_flatMap.1 hu
      simp at ht
      rcases ht with rfl | rfl <;> rfl
    obtain ⟨v', w', r1, r2, r3, _, r5⟩ := run_append_own_at (P := Try.prog) (w := W) 0 29 0 49 i0 _ 2 32 Try.underlying29 hi0 hz0 hzs hzb rfl (by omega) v l.length (flatP l) h ⟨g, o, none⟩ l2.length cap (flatP l2) (flatP_length l2) hcell hone (by unfold maxLen; omega) (by omega) (Nat.zero_le _)
    refine ⟨v', w', fun ty => r1, by rw [← hfl, ← List.length_append] at r2; exact r2, ?_⟩
    rcases h.form with ⟨rfl, rfl⟩ | ⟨g1, cap1, cur1, rfl, h11, h12, h13, h14, h15⟩
    · refine .inr ⟨r3, fun k hk => ?_⟩
      rcases r5 with r5 | r5
      · rw [r5] at hk; cases hk
      · rw [r5] at hk; cases hk; rfl
    · by_cases hroom : l.length + l2.length ≤ cap1
      · have hr := run_append_room (P := Try.prog) W 29 0 49 i0 Try.underlying29 hi0 g1 l.length cap1 cur1 h14 ⟨g, o, none⟩ l2.length cap (flatP l2) (by rw [hzs]; exact flatP_length l2) hcell hone hroom (by rw [flatP_length, hzs, h13]; omega)
        rw [r1] at hr
        injection hr with e1 e2
        subst e1
        exact .inl ⟨g1, cap1, rfl, by rw [List.length_append], r3⟩
      · have hr := run_append_grow (P := Try.prog) W 29 0 49 i0 _ Try.underlying29 hi0 hz0 ⟨g1, 0, none⟩ l.length cap1 (flatP l) (by rw [hzs]; exact flatP_length l) (World.ownsRow.cells h (g := g1) rfl) ⟨g, o, none⟩ l2.length cap (flatP l2) (by rw [hzs]; exact flatP_length l2) hcell (by omega) (by omega) (growslice_fits (by omega) (by rw [hzb]; omega))
        rw [r1] at hr
        injection hr with e1 e2
        subst e1 e2
        exact .inr ⟨⟨rfl, rfl, rfl, by simp, fun k hk _ => heap_alloc_old W.drew _ hk⟩, fun k hk => by cases hk; rfl⟩
end Go.Proofs.Ytcpmnkihhenbgaa
