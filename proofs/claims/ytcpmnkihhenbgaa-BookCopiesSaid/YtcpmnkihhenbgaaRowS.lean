/- Rows of strings; their order. -/
import Derived.Test.YtcpmnkihhenbgaaFr
import Derived.Laws.AppendOwn
import Derived.Shelf.Spec.SearchS
import Derived.Shelf.Spec.SlicesInsertGrow
namespace Go.Proofs.Ytcpmnkihhenbgaa
open Go.RowKit
set_option maxRecDepth 100000

/-! ### The order of strings -/
def bl : List UInt8 → List UInt8 → Bool := Op.bytesLess
theorem bl_irrefl : ∀ x, bl x x = false
  | [] => rfl
  | a :: x => by
    have := bl_irrefl x
    unfold bl at this ⊢
    simp [Op.bytesLess, this]
theorem bl_tri : ∀ x y, bl x y = false → bl y x = false → x = y
  | [], [], _, _ => rfl
  | [], _ :: _, h, _ => by simp [bl, Op.bytesLess] at h
  | _ :: _, [], _, h => by simp [bl, Op.bytesLess] at h
  | a :: x, b :: y, h, k => by
    simp only [bl, Op.bytesLess, Bool.or_eq_false_iff, Bool.and_eq_false_iff, decide_eq_false_iff_not, beq_eq_false_iff_ne] at h k
    have e : a = b := by
      have h1 := h.1; have h2 := k.1
      exact UInt8.le_antisymm (UInt8.not_lt.1 h2) (UInt8.not_lt.1 h1)
    subst e
    rw [bl_tri x y (by rcases h.2 with h | h; exact absurd rfl h; exact h) (by rcases k.2 with h | h; exact absurd rfl h; exact h)]
theorem bl_trans : ∀ x y z, bl x y = true → bl y z = true → bl x z = true
  | [], [], [], _, k => by simp [bl, Op.bytesLess] at k
  | [], _ :: _, [], _, k => by simp [bl, Op.bytesLess] at k
  | [], _, _ :: _, _, _ => rfl
  | _ :: _, [], _, h, _ => by simp [bl, Op.bytesLess] at h
  | _ :: _, _ :: _, [], _, k => by simp [bl, Op.bytesLess] at k
  | a :: x, b :: y, c :: z, h, k => by
    simp only [bl, Op.bytesLess, Bool.or_eq_true, Bool.and_eq_true, decide_eq_true_eq, beq_iff_eq] at h k ⊢
    rcases h with h | ⟨rfl, h⟩
    · rcases k with k | ⟨rfl, k⟩
      · exact .inl (UInt8.lt_trans h k)
      · exact .inl h
    · rcases k with k | ⟨rfl, k⟩
      · exact .inl k
      · exact .inr ⟨rfl, bl_trans x y z h k⟩
/-- One string lies below another. -/
def kl (a b : ByteArray) : Bool := bl a.data.toList b.data.toList
theorem kl_eq (a b : ByteArray) : Op.bytesLess a.toList b.toList = kl a b := by rw [Lib.toList_data, Lib.toList_data]; rfl
theorem kl_irrefl (a : ByteArray) : kl a a = false := bl_irrefl _
theorem kl_trans {a b c : ByteArray} (h : kl a b = true) (k : kl b c = true) : kl a c = true := bl_trans _ _ _ h k
theorem kl_tri {a b : ByteArray} (h : kl a b = false) (k : kl b a = false) : a = b := bytes_ext (bl_tri _ _ h k)
theorem kl_ne {a b : ByteArray} (h : kl a b = true) : a ≠ b := by rintro rfl; rw [kl_irrefl] at h; cases h
theorem kl_not {a b : ByteArray} (h : kl a b = true) : kl b a = false := by
  cases e : kl b a
  · rfl
  · have := kl_trans h e; rw [kl_irrefl] at this; cases this
theorem kl_beq (a b : ByteArray) : (a.toList == b.toList) = decide (a = b) := by
  rw [Lib.toList_data, Lib.toList_data]
  by_cases h : a = b
  · subst h; simp
  · rw [decide_eq_false h, beq_eq_false_iff_ne]; exact fun e => h (bytes_ext e)

/-! ### Sorted keys -/
def SrtK (ks : List ByteArray) : Prop := ks.Pairwise fun a b => kl a b = true
def atK (x : ByteArray) (ks : List ByteArray) : Nat := (ks.takeWhile fun k => kl k x).length
theorem atK_le (x : ByteArray) (ks : List ByteArray) : atK x ks ≤ ks.length := by unfold atK; exact List.takeWhile_prefix _ |>.length_le
theorem atK_cons (x k : ByteArray) (ks : List ByteArray) : atK x (k :: ks) = if kl k x = true then atK x ks + 1 else 0 := by
  unfold atK
  rw [List.takeWhile_cons]
  split <;> rfl
theorem atK_below : ∀ (ks : List ByteArray) (x k : ByteArray) (t : Nat), t < atK x ks → ks[t]? = some k → kl k x = true
  | [], _, _, _, _, h => by simp at h
  | y :: ks, x, k, t, ht, h => by
    rw [atK_cons] at ht
    split at ht
    · rename_i hy
      cases t with
      | zero => simp at h; subst h; exact hy
      | succ t => exact atK_below ks x k t (by omega) (by simpa using h)
    · omega
theorem atK_above : ∀ (ks : List ByteArray) (x k : ByteArray) (t : Nat), SrtK ks → atK x ks ≤ t → ks[t]? = some k → kl k x = false
  | [], _, _, _, _, _, h => by simp at h
  | y :: ks, x, k, t, hs, ht, h => by
    have hs' := List.pairwise_cons.1 hs
    rw [atK_cons] at ht
    split at ht
    · cases t with
      | zero => omega
      | succ t => exact atK_above ks x k t hs'.2 (by omega) (by simpa using h)
    · rename_i hy
      have hy : kl y x = false := by simpa using hy
      cases t with
      | zero => simp at h; subst h; exact hy
      | succ t =>
        have hk : k ∈ ks := List.mem_of_getElem? (by simpa using h)
        cases e : kl k x
        · rfl
        · have := kl_trans (hs'.1 k hk) e
          rw [hy] at this; cases this
theorem atK_mem {ks : List ByteArray} (hs : SrtK ks) (x : ByteArray) : x ∈ ks ↔ ks[atK x ks]? = some x := by
  constructor
  · intro h
    obtain ⟨t, ht⟩ := List.getElem?_of_mem h
    rcases Nat.lt_trichotomy t (atK x ks) with h1 | rfl | h1
    · have := atK_below ks x x t h1 ht
      rw [kl_irrefl] at this; cases this
    · exact ht
    · obtain ⟨y, hy⟩ : ∃ y, ks[atK x ks]? = some y := by
        have := (List.getElem?_eq_some_iff.1 ht).1
        exact ⟨_, List.getElem?_eq_getElem (by omega)⟩
      have h2 := atK_above ks x y _ hs (Nat.le_refl _) hy
      obtain ⟨l1, e1⟩ := List.getElem?_eq_some_iff.1 hy
      obtain ⟨l2, e2⟩ := List.getElem?_eq_some_iff.1 ht
      have h3 := List.pairwise_iff_getElem.1 hs (atK x ks) t l1 l2 h1
      rw [e1, e2, h2] at h3
      cases h3
  · exact List.mem_of_getElem?

def hasK (x : ByteArray) (ks : List ByteArray) : Bool := ks.any fun k => decide (k = x)
theorem hasK_iff (x : ByteArray) (ks : List ByteArray) : hasK x ks = true ↔ x ∈ ks := by
  unfold hasK
  rw [List.any_eq_true]
  constructor
  · rintro ⟨y, hy, h⟩
    have : y = x := by simpa using h
    rwa [← this]
  · intro h; exact ⟨x, h, by simp⟩

/-! ### The row -/
theorem cell_same {W W' : World} {p : Addr} (h : W'.heap[p.block]? = W.heap[p.block]?) : W'.cell? p = W.cell? p := by simp [World.cell?, h]
theorem frozen_same {W W' : World} {p : Addr} (h : W'.heap[p.block]? = W.heap[p.block]?) : W'.frozen? p = W.frozen? p := by simp [World.frozen?, h]
structure RowS (W : World) (e : Nat) (ks : List ByteArray) (v : Value) : Prop where
  form : (v = .slice none 0 0 ∧ ks = []) ∨ ∃ cap cur, v = .slice (some ⟨e, 0, none⟩) ks.length cap ∧ Fresh W e cur 9 ∧ ks.length ≤ cap ∧ cap ≤ 9223372036854775807 ∧ cur.size = cap ∧ ∀ (j : Nat) (k : ByteArray), ks[j]? = some k → cur[j]? = some (.string k)
theorem RowS.nil (W : World) (e : Nat) : RowS W e [] (.slice none 0 0) := ⟨.inl ⟨rfl, rfl⟩⟩
theorem RowS.same {W W' : World} {e : Nat} {ks : List ByteArray} {v : Value} (h : RowS W e ks v) (he : W'.heap[e]? = W.heap[e]?) : RowS W' e ks v := by
  rcases h.form with h1 | ⟨cap, cur, h1, h2, h3⟩
  · exact ⟨.inl h1⟩
  · exact ⟨.inr ⟨cap, cur, h1, he.trans h2, h3⟩⟩
theorem RowS.slice {W : World} {e : Nat} {ks : List ByteArray} {v : Value} (h : RowS W e ks v) : ∃ ao cap, v = .slice ao ks.length cap ∧ ks.length ≤ cap := by
  rcases h.form with ⟨h1, h2⟩ | ⟨cap, cur, h1, _, h3, _⟩
  · exact ⟨none, 0, by rw [h1, h2]; rfl, by rw [h2]; exact Nat.le_refl _⟩
  · exact ⟨_, cap, h1, h3⟩

theorem RowS.slice' {W : World} {e : Nat} {ks : List ByteArray} {v : Value} (h : RowS W e ks v) : ∃ ao n cap, v = .slice ao n cap := by
  obtain ⟨ao, cap, h1, _⟩ := h.slice
  exact ⟨ao, _, cap, h1⟩
theorem Fresh.setCells {p : Nat} {t : TypeId} : ∀ (vs : List Value) {W : World} {cs : Array Value} (_ : Fresh W p cs t) (o : Nat), ∃ cs', Fresh (W.setCells p o vs) p cs' t ∧ cs'.size = cs.size ∧ (∀ j, o ≤ j → j < o + vs.length → j < cs.size → cs'[j]? = vs[j - o]?) ∧ ∀ j, (j < o ∨ o + vs.length ≤ j) → cs'[j]? = cs[j]?
  | [], W, cs, h, o => ⟨cs, h, rfl, fun j h1 h2 => by simp at h2; omega, fun _ _ => rfl⟩
  | v :: vs, W, cs, h, o => by
    obtain ⟨cs', h1, h2, h3, h4⟩ := Fresh.setCells vs (h.set o v) (o + 1)
    refine ⟨cs', h1, by rw [h2]; simp, fun j a b c => ?_, fun j a => ?_⟩
    · by_cases e : j = o
      · subst e
        rw [h4 j (.inl (by omega)), Array.getElem?_setIfInBounds_self_of_lt c]
        simp
      · rw [h3 j (by omega) (by simp at b; omega) (by simpa using c), show j - o = (j - (o + 1)) + 1 from by omega]
        simp
    · rw [h4 j (by simp at a; omega), Array.getElem?_setIfInBounds_ne (by simp at a; omega)]
theorem Turned.setCells {S : List Nat} {p : Nat} : ∀ (vs : List Value) {W W' : World} (_ : Turned S W W') (_ : p ∈ S ∨ W.heap.size ≤ p) (o : Nat), Turned S W (W'.setCells p o vs)
  | [], _, _, h, _, _ => h
  | v :: vs, _, _, h, hp, o => Turned.setCells vs (h.setCell hp o v) hp (o + 1)
end Go.Proofs.Ytcpmnkihhenbgaa
