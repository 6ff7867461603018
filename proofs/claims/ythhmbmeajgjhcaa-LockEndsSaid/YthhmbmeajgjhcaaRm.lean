/- The reference model of a table: its two rows. -/
import Derived.Test.YthhmbmeajgjhcaaAddG
import Derived.Test.YthhmbmeajgjhcaaRefEq
import Derived.Test.YthhmbmeajgjhcaaRefDone
import Derived.Deep.AppendSrc
import Derived.Maps.AppendAt
namespace Go.Proofs.Ythhmbmeajgjhcaa
open Go.RowKit
set_option maxRecDepth 100000
set_option maxHeartbeats 4000000

abbrev TL : TypeId := 30
def rc (l : List Wd) : List Value := l.flatMap fun t => [.int .i64 t.s, .int .u32 t.g]
def wc (l : List Wd) : List Value := l.map fun t => .int .u64 t.w
theorem rc_length (l : List Wd) : (rc l).length = l.length * 2 := by
  induction l with
  | nil => rfl
  | cons t l ih => simp only [rc, List.flatMap_cons, List.length_append, List.length_cons] at *; rw [ih]; simp only [List.length_nil]; omega
theorem wc_length (l : List Wd) : (wc l).length = l.length := by simp [wc]
theorem rc_append (l k : List Wd) : rc (l ++ k) = rc l ++ rc k := by simp [rc]
theorem wc_append (l k : List Wd) : wc (l ++ k) = wc l ++ wc k := by simp [wc]
theorem rc_at : ∀ (l : List Wd) (i : Nat) (t : Wd), l[i]? = some t → (rc l)[i * 2]? = some (.int .i64 t.s) ∧ (rc l)[i * 2 + 1]? = some (.int .u32 t.g)
  | [], _, _, h => by simp at h
  | x :: l, 0, t, h => by simp at h; subst h; exact ⟨rfl, rfl⟩
  | x :: l, i + 1, t, h => by
    obtain ⟨a, b⟩ := rc_at l i t (by simpa using h)
    refine ⟨?_, ?_⟩
    · rw [show (i + 1) * 2 = i * 2 + 2 from by omega]; exact a
    · rw [show (i + 1) * 2 + 1 = i * 2 + 1 + 2 from by omega]; exact b
theorem wc_at (l : List Wd) (i : Nat) (t : Wd) (h : l[i]? = some t) : (wc l)[i]? = some (.int .u64 t.w) := by simp [wc, h]
theorem rc_one (l : List Wd) : ∀ u ∈ rc l, u.oneCell' = true := by
  intro u hu
  obtain ⟨t, _, h⟩ := List.mem_flatMap.1 hu
  simp at h
  rcases h with rfl | rfl <;> rfl
theorem wc_one (l : List Wd) : ∀ u ∈ wc l, u.oneCell' = true := by
  intro u hu
  obtain ⟨t, _, rfl⟩ := List.mem_map.1 hu
  rfl
theorem rc_take (l : List Wd) (n : Nat) : rc (l.take n) = (rc l).take (n * 2) := by
  induction l generalizing n with
  | nil => simp [rc]
  | cons x l ih =>
    cases n with
    | zero => simp [rc]
    | succ n =>
      have := ih n
      rw [List.take_succ_cons, show rc (x :: l.take n) = [.int .i64 x.s, .int .u32 x.g] ++ rc (l.take n) from rfl, this, show rc (x :: l) = [.int .i64 x.s, .int .u32 x.g] ++ rc l from rfl, show (n + 1) * 2 = n * 2 + 2 from by omega]
      rfl
theorem rc_drop (l : List Wd) (n : Nat) : rc (l.drop n) = (rc l).drop (n * 2) := by
  induction l generalizing n with
  | nil => simp [rc]
  | cons x l ih =>
    cases n with
    | zero => simp
    | succ n =>
      have := ih n
      rw [List.drop_succ_cons, this, show rc (x :: l) = [.int .i64 x.s, .int .u32 x.g] ++ rc l from rfl, show (n + 1) * 2 = n * 2 + 2 from by omega]
      rfl
theorem wc_set (l : List Wd) (i : Nat) (w : Int) : wc (l.modify i (fun t => { t with w := w })) = (wc l).set i (.int .u64 w) := by
  apply List.ext_getElem?
  intro j
  simp only [wc, List.getElem?_map, List.getElem?_modify, List.getElem?_set, List.length_map]
  by_cases hij : i = j
  · subst hij
    simp
    cases h : l[i]? with
    | none => simp [List.getElem?_eq_none_iff.1 h]
    | some t => simp [(List.getElem?_eq_some_iff.1 h).1]
  · simp [hij]
theorem rc_modify (l : List Wd) (i : Nat) (w : Int) : rc (l.modify i (fun t => { t with w := w })) = rc l := by
  induction l generalizing i with
  | nil => simp [rc]
  | cons x l ih =>
    cases i with
    | zero => simp [rc]
    | succ i =>
      rw [List.modify_succ_cons]
      show [_, _] ++ rc (l.modify i _) = [_, _] ++ rc l
      rw [ih i]

/-- Nothing but the model's box and its rows has turned. -/
structure Mod (B r : Nat) (W W' : World) : Prop where
  os : W'.os = W.os
  tape : W'.tape = W.tape
  output : W'.output = W.output
  size : W.heap.size ≤ W'.heap.size
  block : ∀ k, k < W.heap.size → k ≠ r → (k < B ∨ ∀ cs t, W.heap[k]? = some (.cells cs t (0, 0)) → t ≠ 33 ∧ t ≠ 35) → W'.heap[k]? = W.heap[k]?
theorem Mod.of_below {B r : Nat} {W W' : World} (h : Below W.heap.size W W') : Mod B r W W' := ⟨h.os, h.tape, h.output, h.size, fun k hk _ _ => h.block k hk⟩
theorem Mod.trans {B r : Nat} {W W' W'' : World} (h : Mod B r W W') (k : Mod B r W' W'') : Mod B r W W'' :=
  ⟨k.os.trans h.os, k.tape.trans h.tape, k.output.trans h.output, Nat.le_trans h.size k.size, fun j hj hn hb => by
    have e := h.block j hj hn hb
    exact (k.block j (Nat.lt_of_lt_of_le hj h.size) hn (by rw [e]; exact hb)).trans e⟩
theorem Mod.below {B r n : Nat} {w W W' : World} (hb : Below n w W) (h : Mod B r W W') (hB : n ≤ B) (hr : n ≤ r) (hn : n ≤ W.heap.size) : Below n w W' :=
  ⟨h.os.trans hb.os, h.tape.trans hb.tape, h.output.trans hb.output, Nat.le_trans hb.size h.size, fun k hk => (h.block k (by omega) (by omega) (.inl (by omega))).trans (hb.block k hk)⟩
theorem Mod.fresh {B r : Nat} {W W' : World} (h : Mod B r W W') {p : Nat} {cs : Array Value} {t : TypeId} (hf : Fresh W p cs t) (hn : p ≠ r) (ht : p < B ∨ (t ≠ 33 ∧ t ≠ 35)) : Fresh W' p cs t := by
  refine (h.block p hf.lt hn ?_).trans hf
  rcases ht with ht | ht
  · exact .inl ht
  · refine .inr fun cs' t' e => ?_
    unfold Fresh at hf
    rw [hf] at e
    cases e
    exact ht
theorem Mod.at' {B r : Nat} {W W' : World} (h : Mod B r W W') {p a m : Nat} {s : Lk} (hA : At W p a m s) {cs : Array Value} (hr : Fresh W r cs TL) : At W' p a m s := by
  have n1 : p ≠ r := by
    rintro rfl
    have h1 := hA.hp
    unfold Fresh at h1 hr
    rw [hr] at h1
    simp at h1
    exact absurd h1.2 (by decide)
  have n2 : a ≠ r := by
    rintro rfl
    have h1 := hA.ha
    unfold Fresh at h1 hr
    rw [hr] at h1
    simp at h1
    exact absurd h1.2 (by decide)
  refine ⟨h.fresh hA.hp n1 (.inr (by decide)), h.fresh hA.ha n2 (.inr (by decide)), ?_, hA.uniq⟩
  have n3 := (hA.hm.ne hr).symm
  obtain ⟨es, c, hb, hi⟩ := hA.hm
  refine ⟨es, c, (h.block m (Array.getElem?_eq_some_iff.1 hb).1 n3 (.inr fun cs' t' e => ?_)).trans hb, hi⟩
  rw [hb] at e
  cases e

/-- The model's box and rows. -/
def RAt (W : World) (B r : Nat) (l : List Wd) (t : Int) : Prop := ∃ vR vW, Fresh W r #[vR, vW, .int .i64 t] TL ∧ W.ownsRow B 33 2 vR l.length (rc l) ∧ W.ownsRow B 35 1 vW l.length (wc l)
theorem row_keep {W W' : World} {B n z : Nat} {e : TypeId} {v : Value} {xs : List Value} (h : W.ownsRow B e z v n xs) (hb : ∀ k, v.ownBlock = some k → W'.heap[k]? = W.heap[k]?) : W'.ownsRow B e z v n xs := by
  obtain ⟨h1, h2⟩ := h
  refine ⟨h1, ?_⟩
  rcases h2 with h2 | ⟨g, cap, cur, rfl, h4, h5, h6⟩
  · exact .inl h2
  · exact .inr ⟨g, cap, cur, rfl, h4, (hb g rfl).trans h5, h6⟩
theorem row_type {W : World} {B n z : Nat} {e : TypeId} {v : Value} {xs : List Value} (h : W.ownsRow B e z v n xs) {k : Nat} (hk : v.ownBlock = some k) : ∃ cs, W.heap[k]? = some (.cells cs e (0, 0)) := by
  obtain ⟨_, h2⟩ := h
  rcases h2 with ⟨rfl, _⟩ | ⟨g, cap, cur, rfl, h4, h5, h6⟩
  · cases hk
  · cases hk
    exact ⟨cur, h5⟩
theorem row_apart {W : World} {B n z : Nat} {e : TypeId} {v : Value} {xs : List Value} (h : W.ownsRow B e z v n xs) {p : Nat} {cs : Array Value} {t : TypeId} (hf : Fresh W p cs t) (ht : t ≠ e) : v.ownBlock ≠ some p := by
  intro hk
  obtain ⟨cs', h1⟩ := row_type h hk
  unfold Fresh at hf
  rw [hf] at h1
  cases h1
  exact ht rfl
theorem row_apartM {W : World} {B n z m : Nat} {e : TypeId} {v : Value} {xs : List Value} {k : List Wd} (h : W.ownsRow B e z v n xs) (hm : MapAt W m k) : v.ownBlock ≠ some m := by
  intro hk
  obtain ⟨cs', h1⟩ := row_type h hk
  obtain ⟨es, c, hb, _⟩ := hm
  rw [hb] at h1
  cases h1
theorem RAt.keep {W W' : World} {B r : Nat} {l : List Wd} {t : Int} (h : RAt W B r l t) (hb : ∀ k, k < W.heap.size → (∀ cs, W.heap[k]? ≠ some (.cells cs 61 (0, 0))) → (∀ es c, W.heap[k]? ≠ some (.map es c)) → W'.heap[k]? = W.heap[k]?) : RAt W' B r l t := by
  obtain ⟨vR, vW, h1, h2, h3⟩ := h
  refine ⟨vR, vW, (hb r h1.lt ?_ ?_).trans h1, row_keep h2 fun k hk => ?_, row_keep h3 fun k hk => ?_⟩
  · intro cs e
    unfold Fresh at h1
    rw [h1] at e
    injection e with e
    injection e with _ e _
    exact absurd e (by decide)
  · intro es c e
    unfold Fresh at h1
    rw [h1] at e
    cases e
  · obtain ⟨cs, e⟩ := row_type h2 hk
    refine hb k (Array.getElem?_eq_some_iff.1 e).1 (fun cs' e' => ?_) (fun es c e' => ?_)
    · rw [e] at e'
      injection e' with e'
      injection e' with _ e' _
      exact absurd e' (by decide)
    · rw [e] at e'
      cases e'
  · obtain ⟨cs, e⟩ := row_type h3 hk
    refine hb k (Array.getElem?_eq_some_iff.1 e).1 (fun cs' e' => ?_) (fun es c e' => ?_)
    · rw [e] at e'
      injection e' with e'
      injection e' with _ e' _
      exact absurd e' (by decide)
    · rw [e] at e'
      cases e'
theorem RAt.below {W W' : World} {B r : Nat} {l : List Wd} {t : Int} (h : RAt W B r l t) (hb : Below W.heap.size W W') : RAt W' B r l t := h.keep fun k hk _ _ => hb.block k hk
theorem RAt.turned {W W' : World} {B r p a m : Nat} {s : Lk} {l : List Wd} {t : Int} (h : RAt W B r l t) (hA : At W p a m s) (ht : Turned [a, m] W W') : RAt W' B r l t := by
  refine h.keep fun k hk h1 h2 => ht.block k hk ?_
  intro e
  simp at e
  rcases e with rfl | rfl
  · exact h1 _ hA.ha
  · obtain ⟨es, c, hb, _⟩ := hA.hm
    exact h2 _ _ hb
theorem RAt.box {W : World} {B r : Nat} {l : List Wd} {t : Int} (h : RAt W B r l t) : ∃ cs, Fresh W r cs TL := by
  obtain ⟨vR, vW, h1, _⟩ := h
  exact ⟨_, h1⟩
theorem row_form {W : World} {B n z : Nat} {e : TypeId} {v : Value} {xs : List Value} (h : W.ownsRow B e z v n xs) : ∃ ao cap, v = .slice ao n cap := by
  obtain ⟨_, h2⟩ := h
  rcases h2 with ⟨rfl, rfl⟩ | ⟨g, cap, cur, rfl, _⟩
  · exact ⟨_, _, rfl⟩
  · exact ⟨_, _, rfl⟩
/-- The box, and what is read of the rows. -/
theorem RAt.view {W : World} {B r : Nat} {l : List Wd} {t : Int} (h : RAt W B r l t) : ∃ aR cR aW cW, Fresh W r #[.slice aR l.length cR, .slice aW l.length cW, .int .i64 t] TL ∧
    W.ownsRow B 33 2 (.slice aR l.length cR) l.length (rc l) ∧ W.ownsRow B 35 1 (.slice aW l.length cW) l.length (wc l) := by
  obtain ⟨vR, vW, h1, h2, h3⟩ := h
  obtain ⟨aR, cR, rfl⟩ := row_form h2
  obtain ⟨aW, cW, rfl⟩ := row_form h3
  exact ⟨aR, cR, aW, cW, h1, h2, h3⟩
theorem ref_cells {W : World} {B : Nat} {aR : Option Addr} {cR : Nat} {l : List Wd} (h : W.ownsRow B 33 2 (.slice aR l.length cR) l.length (rc l)) (i : Nat) (t : Wd) (ht : l[i]? = some t) : ∃ g, aR = some ⟨g, 0, none⟩ ∧ B ≤ g ∧ g < W.heap.size ∧ l.length ≤ cR ∧ cR ≤ maxLen ∧ W.cell? ⟨g, i * 2, none⟩ = some (.int .i64 t.s) ∧ W.cell? ⟨g, i * 2 + 1, none⟩ = some (.int .u32 t.g) := by
  have hi : i < l.length := (List.getElem?_eq_some_iff.1 ht).1
  have h' := h
  obtain ⟨h1, h2⟩ := h
  rcases h2 with ⟨e, h3⟩ | ⟨g, cap, cur, e, h4, h5, h6, h7, h8, h9⟩
  · omega
  · simp only [Value.slice.injEq] at e
    obtain ⟨rfl, _, rfl⟩ := e
    have hc := World.ownsRow.cells (g := g) h' rfl
    obtain ⟨a, b⟩ := rc_at l i t ht
    have a' := hc _ _ a
    have b' := hc _ _ b
    simp only [Addr.add_lit, Nat.zero_add] at a' b'
    exact ⟨g, rfl, h4, (Array.getElem?_eq_some_iff.1 h5).1, h6, h7, a', b'⟩
theorem word_cells {W : World} {B : Nat} {aR : Option Addr} {cR : Nat} {l : List Wd} (h : W.ownsRow B 35 1 (.slice aR l.length cR) l.length (wc l)) (i : Nat) (t : Wd) (ht : l[i]? = some t) : ∃ g, aR = some ⟨g, 0, none⟩ ∧ B ≤ g ∧ g < W.heap.size ∧ l.length ≤ cR ∧ cR ≤ maxLen ∧ W.cell? ⟨g, i, none⟩ = some (.int .u64 t.w) ∧ W.frozen? ⟨g, i, none⟩ = false := by
  have hi : i < l.length := (List.getElem?_eq_some_iff.1 ht).1
  have h' := h
  obtain ⟨h1, h2⟩ := h
  rcases h2 with ⟨e, h3⟩ | ⟨g, cap, cur, e, h4, h5, h6, h7, h8, h9⟩
  · omega
  · simp only [Value.slice.injEq] at e
    obtain ⟨rfl, _, rfl⟩ := e
    have hc := World.ownsRow.cells (g := g) h' rfl
    have a' := hc _ _ (wc_at l i t ht)
    simp only [Addr.add_lit, Nat.zero_add] at a'
    exact ⟨g, rfl, h4, (Array.getElem?_eq_some_iff.1 h5).1, h6, h7, a', by simp [World.frozen?, h5]⟩

def atN (l : List Wd) (x g : Int) : Int := match l.findIdx? (fun t => t.is x g) with | some j => (j : Int) | none => -1
theorem at_get (x g : Int) (l : List Wd) : (getW l x g = none ∧ atN l x g = -1) ∨ ∃ (j : Nat) (t : Wd), l[j]? = some t ∧ getW l x g = some t ∧ atN l x g = (j : Int) := by
  unfold atN
  cases h : l.findIdx? (fun t => t.is x g) with
  | none =>
    refine .inl ⟨?_, rfl⟩
    unfold getW
    rw [List.find?_eq_none]
    intro t ht e
    have := List.findIdx?_eq_none_iff.1 h t ht
    rw [e] at this
    cases this
  | some j =>
    obtain ⟨hj, h1, h2⟩ := List.findIdx?_eq_some_iff_getElem.1 h
    refine .inr ⟨j, l[j], by simp, ?_, rfl⟩
    unfold getW
    rw [List.find?_eq_some_iff_getElem]
    exact ⟨h1, j, hj, rfl, fun k hk => by have := h2 k hk; simpa using this⟩
theorem atN_found {l : List Wd} {x g : Int} {i : Nat} (hi : i < l.length) (h : l[i].is x g = true) (hb : ∀ j t, j < i → l[j]? = some t → t.is x g = false) : atN l x g = (i : Int) := by
  have : l.findIdx? (fun t => t.is x g) = some i := by
    rw [List.findIdx?_eq_some_iff_getElem]
    exact ⟨hi, h, fun j hj => by rw [hb j _ hj (List.getElem?_eq_getElem (by omega))]; decide⟩
  unfold atN
  rw [this]
theorem atN_none {l : List Wd} {x g : Int} (hb : ∀ j t, j < l.length → l[j]? = some t → t.is x g = false) : atN l x g = -1 := by
  have : l.findIdx? (fun t => t.is x g) = none := by
    rw [List.findIdx?_eq_none_iff]
    intro t ht
    obtain ⟨j, hj⟩ := List.getElem?_of_mem ht
    exact hb j t (List.getElem?_eq_some_iff.1 hj).1 hj
  unfold atN
  rw [this]
end Go.Proofs.Ythhmbmeajgjhcaa
