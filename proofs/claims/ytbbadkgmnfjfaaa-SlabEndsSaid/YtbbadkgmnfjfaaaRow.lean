/- Rows of a call's own. -/
import Derived.Test.YtbbadkgmnfjfaaaKit
import Derived.Deep.OwnRows
import Derived.Laws.AppendOwn
import Derived.Laws.OwnMore
import Derived.KernelRfl
namespace Go.Proofs.Ytbbadkgmnfjfaaa
open Go.RowKit

theorem row_keep {W W' : World} {B n z : Nat} {e : TypeId} {v : Value} {xs : List Value} (h : W.ownsRow B e z v n xs) (hb : ∀ k, v.ownBlock = some k → W'.heap[k]? = W.heap[k]?) : W'.ownsRow B e z v n xs := by
  obtain ⟨h1, h2⟩ := h
  refine ⟨h1, ?_⟩
  rcases h2 with h2 | ⟨g, cap, cur, rfl, h4, h5, h6⟩
  · exact .inl h2
  · exact .inr ⟨g, cap, cur, rfl, h4, (hb g rfl).trans h5, h6⟩
theorem row_type {W : World} {B n z : Nat} {e : TypeId} {v : Value} {xs : List Value} (h : W.ownsRow B e z v n xs) {k : Nat} (hk : v.ownBlock = some k) : ∃ cs, W.heap[k]? = some (.cells cs e (0, 0)) := by
  obtain ⟨_, h2⟩ := h
  rcases h2 with ⟨rfl, _⟩ | ⟨g, cap, cur, rfl, h4, h5, h6⟩
  · cases hk
  · cases hk
    exact ⟨cur, h5⟩
theorem row_apart {W : World} {B n z : Nat} {e : TypeId} {v : Value} {xs : List Value} (h : W.ownsRow B e z v n xs) {p : Nat} {cs : Array Value} {t : TypeId} (hf : Fresh W p cs t) (ht : t ≠ e) : v.ownBlock ≠ some p := by
  intro hk
  obtain ⟨cs', h1⟩ := row_type h hk
  unfold Fresh at hf
  rw [hf] at h1
  cases h1
  exact ht rfl
theorem row_form {W : World} {B n z : Nat} {e : TypeId} {v : Value} {xs : List Value} (h : W.ownsRow B e z v n xs) : ∃ ao cap, v = .slice ao n cap := by
  obtain ⟨_, h2⟩ := h
  rcases h2 with ⟨rfl, rfl⟩ | ⟨g, cap, cur, rfl, _⟩
  · exact ⟨_, _, rfl⟩
  · exact ⟨_, _, rfl⟩
theorem Fresh.grown {W W' : World} {p : Nat} {cs : Array Value} {t : TypeId} {row : Option Nat} (h : Fresh W p cs t) (hg : W.grownBy W' row) (hr : some p ≠ row) : Fresh W' p cs t := (hg.block p h.lt hr).trans h
theorem row_two {W : World} {B n z n' z' : Nat} {e e' : TypeId} {v v' : Value} {xs xs' : List Value} (h : W.ownsRow B e z v n xs) (h' : W.ownsRow B e' z' v' n' xs') (he : e ≠ e') {k : Nat} (hk : v.ownBlock = some k) : some k ≠ v'.ownBlock := by
  intro e2
  obtain ⟨cs, h1⟩ := row_type h hk
  obtain ⟨cs', h2⟩ := row_type h' e2.symm
  rw [h1] at h2
  cases h2
  exact he rfl
theorem infoR : ∃ i0 : TypeInfo, Try.prog.info? 36 = some i0 ∧ i0.zero = some (.agg #[.int .i64 0, .int .u32 0]) ∧ i0.size = 2 ∧ i0.bytes = 16 := by
  have h : (Try.prog.info? 36).map (fun i => (i.zero, i.size, i.bytes)) = some (some (.agg #[.int .i64 0, .int .u32 0]), 2, 16) := by kernel_rfl
  cases hi : Try.prog.info? 36 with
  | none => rw [hi] at h; simp at h
  | some i0 =>
    rw [hi] at h
    simp only [Option.map_some, Option.some.injEq, Prod.mk.injEq] at h
    exact ⟨i0, rfl, h.1, h.2.1, h.2.2⟩
theorem row_low {W : World} {B C n z : Nat} {e : TypeId} {v : Value} {xs : List Value} (h : W.ownsRow B e z v n xs) (hC : C ≤ B) : W.ownsRow C e z v n xs := by
  obtain ⟨h1, h2⟩ := h
  refine ⟨h1, ?_⟩
  rcases h2 with h2 | ⟨g, cap, cur, h3, h4, h5⟩
  · exact .inl h2
  · exact .inr ⟨g, cap, cur, h3, Nat.le_trans hC h4, h5⟩

/-- The cells of references. -/
structure Rf where
  s : Int
  g : Int
def rc (l : List Rf) : List Value := l.flatMap fun t => [.int .i64 t.s, .int .u32 t.g]
theorem rc_length (l : List Rf) : (rc l).length = l.length * 2 := by
  induction l with
  | nil => rfl
  | cons t l ih => simp only [rc, List.flatMap_cons, List.length_append, List.length_cons, List.length_nil] at *; omega
theorem rc_append (l k : List Rf) : rc (l ++ k) = rc l ++ rc k := by simp [rc]
theorem rc_at : ∀ (l : List Rf) (i : Nat) (t : Rf), l[i]? = some t → (rc l)[i * 2]? = some (.int .i64 t.s) ∧ (rc l)[i * 2 + 1]? = some (.int .u32 t.g)
  | [], _, _, h => by simp at h
  | x :: l, 0, t, h => by simp at h; subst h; exact ⟨rfl, rfl⟩
  | x :: l, i + 1, t, h => by
    obtain ⟨a, b⟩ := rc_at l i t (by simpa using h)
    refine ⟨?_, ?_⟩
    · rw [show (i + 1) * 2 = i * 2 + 2 from by omega]; exact a
    · rw [show (i + 1) * 2 + 1 = i * 2 + 1 + 2 from by omega]; exact b
/-- A row of references: its cells. -/
theorem rc_cells {W : World} {B : Nat} {e : TypeId} {ao : Option Addr} {cap : Nat} {l : List Rf} (h : W.ownsRow B e 2 (.slice ao l.length cap) l.length (rc l)) (i : Nat) (t : Rf) (hi : l[i]? = some t) :
    ∃ g, ao = some ⟨g, 0, none⟩ ∧ l.length ≤ cap ∧ W.cell? ⟨g, i * 2, none⟩ = some (.int .i64 t.s) ∧ W.cell? ⟨g, i * 2 + 1, none⟩ = some (.int .u32 t.g) := by
  have hl := (List.getElem?_eq_some_iff.1 hi).1
  obtain ⟨a, b⟩ := rc_at l i t hi
  obtain ⟨h1, h2⟩ := id h
  rcases h2 with ⟨_, h2⟩ | ⟨g, cap', cur, e, _, _, hc1, _, _⟩
  · omega
  · injection e with e1 e2 e3
    subst e1 e3
    exact ⟨g, rfl, hc1, (h.cellAt _ (by omega)).trans a, (h.cellAt _ (by omega)).trans b⟩
end Go.Proofs.Ytbbadkgmnfjfaaa
