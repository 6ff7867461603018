/- Rows of operations of a call's own. -/
import Derived.Test.YtiifogbdoajnoaaManyDoesW
import Derived.Test.YtiifogbdoajnoaaNilM
import Derived.Laws.AppendOwn
namespace Go.Proofs.Ytiifogbdoajnoaa
open Go.RowKit
set_option maxRecDepth 100000
set_option maxHeartbeats 8000000

def dc (l : List Dd) : List Value := l.flatMap fun d => [.int .i64 d.c, .int .u8 (d.n.toNat : Int), .int .i64 d.x, .int .i64 d.s, .int .u32 d.g]
theorem dc_length (l : List Dd) : (dc l).length = l.length * 5 := by
  induction l with
  | nil => rfl
  | cons t l ih => simp only [dc, List.flatMap_cons, List.length_append, List.length_cons, List.length_nil] at *; omega
theorem dc_append (l k : List Dd) : dc (l ++ k) = dc l ++ dc k := by simp [dc]
theorem dc_at : ∀ (l : List Dd) (i : Nat) (d : Dd), l[i]? = some d → (dc l)[i * 5]? = some (.int .i64 d.c) ∧ (dc l)[i * 5 + 1]? = some (.int .u8 (d.n.toNat : Int)) ∧ (dc l)[i * 5 + 2]? = some (.int .i64 d.x) ∧ (dc l)[i * 5 + 3]? = some (.int .i64 d.s) ∧ (dc l)[i * 5 + 4]? = some (.int .u32 d.g)
  | [], _, _, h => by simp at h
  | x :: l, 0, t, h => by simp at h; subst h; exact ⟨rfl, rfl, rfl, rfl, rfl⟩
  | x :: l, i + 1, t, h => by
    obtain ⟨a, b, c, d, e⟩ := dc_at l i t (by simpa using h)
    refine ⟨?_, ?_, ?_, ?_, ?_⟩
    · rw [show (i + 1) * 5 = i * 5 + 5 from by omega]; exact a
    · rw [show (i + 1) * 5 + 1 = i * 5 + 1 + 5 from by omega]; exact b
    · rw [show (i + 1) * 5 + 2 = i * 5 + 2 + 5 from by omega]; exact c
    · rw [show (i + 1) * 5 + 3 = i * 5 + 3 + 5 from by omega]; exact d
    · rw [show (i + 1) * 5 + 4 = i * 5 + 4 + 5 from by omega]; exact e
/-- A block of operations. -/
theorem deeds_of_cells {W : World} {g n : Nat} {l : List Dd} (hn : l.length = n) (hok : ∀ d ∈ l, d.ok) (hlen : n ≤ 1000) (hg : g < W.heap.size) (hc : ∀ (j : Nat) v, (dc l)[j]? = some v → W.cell? ⟨g, j, none⟩ = some v) : IsDeeds W (some ⟨g, 0, none⟩) n := by
  refine ⟨by omega, .inr ⟨g, 0, rfl, hg, fun i hi => ?_⟩⟩
  subst hn
  have hd : l[i]? = some l[i] := List.getElem?_eq_getElem hi
  obtain ⟨a, b, c, d, e⟩ := dc_at l i _ hd
  refine ⟨l[i], hok _ (List.getElem_mem hi), ?_⟩
  rw [Nat.zero_add]
  exact ⟨hc _ _ a, hc _ _ b, hc _ _ c, hc _ _ d, hc _ _ e⟩
theorem deeds_of_row {W : World} {B n cap : Nat} {e : TypeId} {ao : Option Addr} {l : List Dd} (h : W.ownsRow B e 5 (.slice ao n cap) n (dc l)) (hn : l.length = n) (hok : ∀ d ∈ l, d.ok) (hlen : n ≤ 1000) : IsDeeds W ao n := by
  obtain ⟨h1, h2⟩ := id h
  rcases h2 with ⟨h3, h2⟩ | ⟨g, cap', cur, e2, _, hg, hc1, _, _⟩
  · exact ⟨by omega, .inl (by omega)⟩
  · injection e2 with e1 e2 e3
    subst e1 e3
    refine deeds_of_cells hn hok hlen (Array.getElem?_eq_some_iff.1 hg).1 (fun j v hj => ?_)
    have := (List.getElem?_eq_some_iff.1 hj).1
    rw [dc_length] at this
    exact (h.cellAt _ (by omega)).trans hj
theorem infoD : ∃ i0 : TypeInfo, Try.prog.info? 37 = some i0 ∧ i0.zero = some (.agg #[.int .i64 0, .int .u8 0, .int .i64 0, .int .i64 0, .int .u32 0]) ∧ i0.size = 5 ∧ i0.bytes = 40 := by
  have h : (Try.prog.info? 37).map (fun i => (i.zero, i.size, i.bytes)) = some (some (.agg #[.int .i64 0, .int .u8 0, .int .i64 0, .int .i64 0, .int .u32 0]), 5, 40) := by kernel_rfl
  cases hi : Try.prog.info? 37 with
  | none => rw [hi] at h; simp at h
  | some i0 =>
    rw [hi] at h
    simp only [Option.map_some, Option.some.injEq, Prod.mk.injEq] at h
    exact ⟨i0, rfl, h.1, h.2.1, h.2.2⟩
theorem ok_small (c : Int) (n : UInt8) (x s g : Int) (hc : I64 c) (hx : I64 x) (hs : I64 s) (hg : 0 ≤ g ∧ g ≤ 4294967295) : Dd.ok ⟨c, n, x, s, g⟩ := ⟨hc, hx, hs, hg.1, hg.2⟩
end Go.Proofs.Ytiifogbdoajnoaa
