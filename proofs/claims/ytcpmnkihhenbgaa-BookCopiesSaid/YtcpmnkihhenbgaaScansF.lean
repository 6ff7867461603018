/- BookScans: facts on scans in two parts; a slice of pairs cut and appended. -/
import Derived.Test.YtcpmnkihhenbgaaFactsK
import Derived.Laws.OwnMore
import Derived.Maps.AppendAt
namespace Go.Proofs.Ytcpmnkihhenbgaa
open Go.RowKit
set_option maxRecDepth 100000

/-- What was picked out of the first pairs: those from a key on, cut to a length. -/
def wantL (l : List Pr) (A N i : Nat) : List Pr := ((l.take i).drop A).take N
theorem wantL_zero (l : List Pr) (A N : Nat) : wantL l A N 0 = [] := by simp [wantL]
theorem wantL_low {l : List Pr} {A N i : Nat} (h : i < A) : wantL l A N (i + 1) = wantL l A N i := by
  unfold wantL
  rw [List.drop_eq_nil_of_le (by simp; omega), List.drop_eq_nil_of_le (by simp; omega)]
theorem wantL_len {l : List Pr} {A N i : Nat} (h : i ≤ l.length) : (wantL l A N i).length = Nat.min N (i - A) := by
  unfold wantL
  rw [List.length_take, List.length_drop, List.length_take, Nat.min_eq_left h]
theorem wantL_full {l : List Pr} {A N i : Nat} (hi : i < l.length) (h : N ≤ i - A) : wantL l A N (i + 1) = wantL l A N i := by
  unfold wantL
  rw [List.take_succ_eq_append_getElem hi]
  rcases Nat.lt_or_ge i A with h1 | h1
  · have : N = 0 := by omega
    subst this
    simp
  · rw [List.drop_append_of_le_length (by simp; omega), List.take_append_of_le_length (by simp; omega)]
theorem wantL_push {l : List Pr} {A N i : Nat} {x : Pr} (hx : l[i]? = some x) (h1 : A ≤ i) (h : i - A < N) : wantL l A N (i + 1) = wantL l A N i ++ [x] := by
  obtain ⟨hi, rfl⟩ := List.getElem?_eq_some_iff.1 hx
  unfold wantL
  have e1 : ((l.take i).drop A).length = i - A := by simp; omega
  rw [List.take_succ_eq_append_getElem hi, List.drop_append_of_le_length (by simp; omega)]
  rw [List.take_of_length_le (show (((l.take i).drop A) ++ [l[i]]).length ≤ N from by rw [List.length_append, e1]; simp; omega), List.take_of_length_le (show ((l.take i).drop A).length ≤ N from by omega)]
theorem wantL_end (l : List Pr) (A N : Nat) : wantL l A N l.length = (l.drop A).take N := by unfold wantL; rw [List.take_length]

/-! ### A key and the next one -/
theorem bl_snoc_zero : ∀ (u s : List UInt8), bl u (s ++ [0]) = (bl u s || decide (u = s))
  | [], [] => by decide
  | [], b :: s => by simp [bl, Op.bytesLess]
  | a :: u, [] => by
    simp only [List.nil_append]
    cases u <;> simp [bl, Op.bytesLess]
  | a :: u, b :: s => by
    have h := bl_snoc_zero u s
    simp only [bl, Op.bytesLess, List.cons_append] at h ⊢
    by_cases h1 : a < b
    · simp [h1]
    · by_cases h2 : a = b
      · subst h2
        simp [h]
      · simp [h1, beq_eq_false_iff_ne.2 h2]
        exact fun e => absurd e h2
theorem kl_next (k s : ByteArray) : kl k (s ++ ⟨#[0]⟩) = (kl k s || decide (k = s)) := by
  unfold kl
  rw [append_list]
  show bl _ (_ ++ [0]) = _
  rw [bl_snoc_zero]
  congr 1
  by_cases h : k = s
  · subst h; simp
  · rw [decide_eq_false h, decide_eq_false (fun e => h (bytes_ext e))]
theorem atK_next {ks : List ByteArray} (hs : SrtK ks) {j : Nat} {s : ByteArray} (hj : ks[j]? = some s) : atK (s ++ ⟨#[0]⟩) ks = j + 1 := by
  obtain ⟨hjl, hje⟩ := List.getElem?_eq_some_iff.1 hj
  have hle := atK_le (s ++ ⟨#[0]⟩) ks
  have hlow := atK_below ks (s ++ ⟨#[0]⟩)
  have hhigh := atK_above ks (s ++ ⟨#[0]⟩)
  obtain ⟨t, ht⟩ : ∃ t, atK (s ++ ⟨#[0]⟩) ks = t := ⟨_, rfl⟩
  rw [ht] at hle ⊢
  rw [ht] at hlow hhigh
  rcases Nat.lt_trichotomy t (j + 1) with h | h | h
  · exfalso
    have hlt : t < ks.length := by omega
    have h1 := hhigh _ t hs (Nat.le_refl _) (List.getElem?_eq_getElem hlt)
    rw [kl_next, Bool.or_eq_false_iff] at h1
    rcases Nat.lt_or_eq_of_le (show t ≤ j from by omega) with h2 | h2
    · have h3 := List.pairwise_iff_getElem.1 hs _ _ hlt hjl h2
      rw [hje, h1.1] at h3
      cases h3
    · subst h2
      exact of_decide_eq_false h1.2 hje
  · exact h
  · exfalso
    have hlt : j + 1 < ks.length := by omega
    have h1 := hlow _ (j + 1) h (List.getElem?_eq_getElem hlt)
    have h3 := List.pairwise_iff_getElem.1 hs j (j + 1) hjl hlt (by omega)
    rw [hje] at h3
    rw [kl_next, kl_not h3, Bool.false_or] at h1
    have h4 := of_decide_eq_true h1
    rw [h4, kl_irrefl] at h3
    cases h3
theorem scanB_ok {x : ByteArray} {N : Nat} {l : List Pr} (hx : x.size ≤ 16) (hN : N ≤ 4096) : scanB x (N : Int) l = ((l.drop (atK x (keys l))).take N, 0) := by
  unfold scanB
  rw [if_pos hx, if_pos ⟨by omega, by omega⟩]
  simp
/-- A scan that begins behind the last key of another one. -/
theorem scan_next {l : List Pr} (hs : SrtP l) {A n : Nat} {k v : ByteArray} (hk : ((l.drop A).take n)[((l.drop A).take n).length - 1]? = some (k, v)) (h0 : 0 < ((l.drop A).take n).length) : atK (k ++ ⟨#[0]⟩) (keys l) = A + ((l.drop A).take n).length := by
  obtain ⟨h1, _⟩ := List.getElem?_eq_some_iff.1 hk
  have hl : ((l.drop A).take n).length = Nat.min n (l.length - A) := by simp [Nat.min_def]
  rw [List.getElem?_take_of_lt (by rw [hl] at h0 ⊢; simp only [Nat.min_def] at h0 ⊢; split at h0 <;> split <;> omega), List.getElem?_drop] at hk
  have hk2 : (keys l)[A + (((l.drop A).take n).length - 1)]? = some k := by
    unfold keys
    rw [List.getElem?_map, hk]
    rfl
  rw [atK_next hs hk2]
  omega
theorem scans_join (l : List Pr) {A n m : Nat} : (l.drop A).take n ++ (l.drop (A + ((l.drop A).take n).length)).take m = ((l.drop A).take (n + m)).take (((l.drop A).take n).length + m) := by
  have hl : ((l.drop A).take n).length = Nat.min n (l.length - A) := by simp [Nat.min_def]
  rw [List.take_take]
  rcases Nat.lt_or_ge n (l.length - A) with h | h
  · have hl2 : ((l.drop A).take n).length = n := by rw [hl]; exact Nat.min_eq_left (by omega)
    rw [hl2, Nat.min_self]
    rw [show l.drop (A + n) = (l.drop A).drop n from by rw [List.drop_drop]]
    exact (List.take_add).symm
  · have hl2 : ((l.drop A).take n).length = l.length - A := by rw [hl]; exact Nat.min_eq_right h
    rw [hl2, List.drop_eq_nil_of_le (show l.length ≤ A + (l.length - A) from by omega), List.take_nil, List.append_nil]
    rw [List.take_of_length_le (by simp; omega), List.take_of_length_le (by simp only [List.length_drop, Nat.min_def]; split <;> omega)]
/-- A slice of pairs, cut. -/
theorem Holds.take {W : World} {a : Option Addr} {n cap : Nat} {l : List Pr} (h : Holds W (.slice a n cap) l) {r : Nat} (hr : r ≤ n) : Holds W (.slice a r cap) (l.take r) := by
  obtain ⟨a', cap', e, h2⟩ := h
  simp only [Value.slice.injEq] at e
  obtain ⟨rfl, rfl, rfl⟩ := e
  refine ⟨a, cap, by rw [List.length_take, Nat.min_eq_left hr], fun j x hj => ?_⟩
  rw [List.getElem?_take] at hj
  split at hj
  · exact h2 j x hj
  · cases hj
theorem row_cap {W : World} {B : Nat} {e : TypeId} {z : Nat} {a : Option Addr} {n cap : Nat} {xs : List Value} (h : W.ownsRow B e z (.slice a n cap) n xs) : n ≤ cap := by
  rcases h.2 with ⟨h1, _⟩ | ⟨_, _, _, h1, _, _, h2, _⟩
  · simp only [Value.slice.injEq] at h1; omega
  · simp only [Value.slice.injEq] at h1; omega
/-- Pairs appended to a row of the call's own, as one run. -/
theorem app_pairs {W : World} {B B2 : Nat} {vx : Value} {l l2 : List Pr} (ho : W.ownsRow B 49 2 vx l.length (flatP l)) {v : Value} (hv : W.ownsRow B2 49 2 v l2.length (flatP l2)) (hB : B ≤ W.heap.size) (hn : l.length + l2.length ≤ 100000) :
    ∃ v' W', (∀ ty, (Builtin.append_ #[29, 29] ty #[vx, v]).run Try.prog W = .ok v' W') ∧ W'.ownsRow B 49 2 v' (l ++ l2).length (flatP (l ++ l2)) ∧ W.grownBy W' vx.ownBlock := by
  obtain ⟨i0, hi0, hz0, hzs, hzb⟩ := infoP
  have hfl : flatP (l ++ l2) = flatP l ++ flatP l2 := by simp [flatP]
  rw [hfl, List.length_append]
  rcases hv.2 with ⟨rfl, h2⟩ | ⟨g, cap, cur, rfl, hg, hh, h3, h4, h5, h6⟩
  · have e2 : l2 = [] := List.length_eq_zero_iff.1 h2
    subst e2
    refine ⟨vx, W, fun ty => run_append_owned_none W B 29 ty 49 i0 2 Try.underlying29 hi0 vx l.length (flatP l) ho, by simpa [flatP] using ho, ⟨rfl, rfl, rfl, Nat.le_refl _, fun _ _ _ => rfl⟩⟩
  · have hcell : ∀ (j : Nat) u, (flatP l2)[j]? = some u → W.cell? ((⟨g, 0, none⟩ : Addr).add j) = some u := by
      intro j u hj
      have hjl : j < l2.length * 2 := by rw [← flatP_length]; exact (List.getElem?_eq_some_iff.1 hj).1
      rw [← h6, List.getElem?_take_of_lt hjl, Array.getElem?_toList] at hj
      rw [Addr.add_lit, Nat.zero_add, Fresh.cell (p := g) hh]
      exact hj
    have key : ∀ ty, ∃ v' w', (Builtin.append_ #[29, 29] ty #[vx, .slice (some ⟨g, 0, none⟩) l2.length cap]).run Try.prog W = .ok v' w' ∧ w'.ownsRow B 49 2 v' (l.length + l2.length) (flatP l ++ flatP l2) ∧ W.grownBy w' vx.ownBlock := fun ty => by
      obtain ⟨v', w', h1, h2, h3, _, _⟩ := run_append_own_at (P := Try.prog) (w := W) B 29 ty 49 i0 _ 2 32 Try.underlying29 hi0 hz0 hzs hzb rfl (by omega) vx l.length (flatP l) ho ⟨g, 0, none⟩ l2.length cap (flatP l2) (flatP_length l2) hcell
        (fun u hu => by
          unfold flatP at hu
          obtain ⟨t, _, ht⟩ := List.mem_flatMap.1 hu
          simp at ht
          rcases ht with rfl | rfl <;> rfl) (by unfold maxLen; omega) (by omega) hB
      exact ⟨v', w', h1, h2, h3⟩
    obtain ⟨v', w', h1, h2, h3⟩ := key 0
    refine ⟨v', w', fun ty => ?_, h2, h3⟩
    exact h1
/-- An append whose run is known, at a step of a region that draws its order. -/
theorem step_app_run {w : World} {ops : Array Oper} {o : Oper} {a : Act} {K : Act → World → Prop} {Q : Exit → Act → World → Prop} {E : Prop} (hw : Region.wanted o (yielded ops a.tmps) = true) (s x : Operand) (t t' : TypeId)
    (ho : o.op = .call { callee := .builtin .append, args := #[s, x], argTypes := #[t, t'] }) (v u : Value) (hs : a.eval s = v) (hx : a.eval x = u) {v' : Value} {w' : World} (hr : ∀ ty, (Builtin.append_ #[t, t'] ty #[v, u]).run Try.prog w = .ok v' w') (h : K (a.put o.dst v') w') :
    if Region.wanted o (yielded ops a.tmps) = true then Oper.wp Try.prog o a w K Q else E := by
  rw [if_pos hw]
  unfold Oper.wp execOp
  simp only [ho, resolve, invoke, builtin, Sem.run_bind, Sem.run_pure, Result.andThen_ok, List.map_toArray, List.map_cons, List.map_nil, hs, hx, hr]
  exact h
end Go.Proofs.Ytcpmnkihhenbgaa
