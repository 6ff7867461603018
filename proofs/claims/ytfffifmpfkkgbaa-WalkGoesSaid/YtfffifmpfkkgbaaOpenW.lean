/- A list of operations among a law's arguments, opened to their cells. -/
import Derived.Test.YtfffifmpfkkgbaaRows
import Derived.Test.YtfffifmpfkkgbaaNth
import Derived.OpenShut
import Derived.WideShapes
import Derived.ChangeSlices
namespace Go.Proofs.Ytfffifmpfkkgbaa
open Go.ChangeShapes Go.WideShapes Go.RowKit
set_option maxRecDepth 100000

/-- One operation. -/
structure Dd where
  what : Int
  raw : Bool
  s : ByteArray
  text : ByteArray
instance : Inhabited Dd := ⟨⟨0, false, ⟨#[]⟩, ⟨#[]⟩⟩⟩
section
variable {H : Type} {enc : TypeId × Value → H} {w : World} {base : Nat} {spare : Nat → Bool} {held : Bool}
/-- A slice of deeds. -/
def IsDeeds (w : World) (ao : Option Addr) (len : Nat) : Prop := len ≤ 9223372036854775807 ∧ (len = 0 ∨ ∃ blk off, ao = some ⟨blk, off, none⟩ ∧ blk < w.heap.size ∧ ∀ i, i < len → ∃ d : Dd, w.cell? ⟨blk, off + i * 4, none⟩ = some (.int .i64 d.what) ∧ w.cell? ⟨blk, off + i * 4 + 1, none⟩ = some (.bool d.raw) ∧ w.cell? ⟨blk, off + i * 4 + 2, none⟩ = some (.string d.s) ∧ w.cell? ⟨blk, off + i * 4 + 3, none⟩ = some (.string d.text) ∧ d.s.size ≤ maxLen ∧ d.text.size ≤ maxLen)
theorem deed_cells {a : Addr} {n : Nat} {y : DataW H × List MemPlace} (h : (w.cells? base a 4).bind (DataW.trod enc Try.prog w base spare held n 66) = some y) :
    ∃ d : Dd, w.cell? (a.add 0) = some (.int .i64 d.what) ∧ w.cell? (a.add 1) = some (.bool d.raw) ∧ w.cell? (a.add 2) = some (.string d.s) ∧ w.cell? (a.add 3) = some (.string d.text) ∧ d.s.size ≤ maxLen ∧ d.text.size ≤ maxLen := by
  have hc5 : Try.prog.cellsOf 9 = 1 := by kernel_rfl
  have hc6 : Try.prog.cellsOf 3 = 1 := by kernel_rfl
  have hc7 : Try.prog.cellsOf 4 = 1 := by kernel_rfl
  rw [Option.bind_eq_some_iff] at h
  obtain ⟨cs, hcs, hf⟩ := h
  obtain ⟨_, hlen, hat⟩ := World.cells?_some hcs
  obtain ⟨ys, m, _, hx, _, hl, hg⟩ := DataW.trod_struct Try.underlying66 hf
  match cs, hlen with
  | [c0, c1, c2, c3], _ =>
    match ys, hl with
    | [y0, y1, y2, y3], _ =>
      have g0 := hg 0 _ rfl
      have g1 := hg 1 _ rfl
      have g2 := hg 2 _ rfl
      have g3 := hg 3 _ rfl
      simp [hc5, hc6, hc7] at g0 g1 g2 g3
      obtain ⟨n0, e0, _, _⟩ := DataW.trod_int Try.underlying3 g0
      obtain ⟨n1, e1, _⟩ := DataW.trod_bool Try.underlying4 g1
      obtain ⟨n2, e2, _, z2⟩ := DataW.trod_string Try.underlying9 g2
      obtain ⟨n3, e3, _, z3⟩ := DataW.trod_string Try.underlying9 g3
      simp at e0 e1 e2 e3
      subst e0 e1 e2 e3
      exact ⟨⟨n0, n1, n2, n3⟩, hat 0 (by omega), hat 1 (by omega), hat 2 (by omega), hat 3 (by omega), z2, z3⟩
theorem open_deeds {fuel : Nat} {ao : Option Addr} {len cap : Nat} {x : DataW H × List MemPlace} (h : DataW.trod enc Try.prog w base spare held fuel 22 [.slice ao len cap] = some x) : IsDeeds w ao len := by
  have hc4 : Try.prog.cellsOf 66 = 4 := by kernel_rfl
  rcases DataW.trod_slice Try.underlying22 h with ⟨h0, _⟩ | ⟨a, l, c, elems, rest, n, _, hcs, _, _, hl, hm, hlen, hel, _, _⟩
  · simp only [List.cons.injEq, Value.slice.injEq, and_true] at h0
    obtain ⟨_, rfl, _⟩ := h0
    exact ⟨by omega, .inl rfl⟩
  · simp only [List.cons.injEq, Value.slice.injEq, and_true] at hcs
    obtain ⟨rfl, rfl, rfl⟩ := hcs
    have hlm : len ≤ 9223372036854775807 := by
      unfold maxLen at hm
      omega
    rw [hc4] at hel
    have key : ∀ i, i < len → ∃ d : Dd, w.cell? ((a.add (i * 4)).add 0) = some (.int .i64 d.what) ∧ w.cell? ((a.add (i * 4)).add 1) = some (.bool d.raw) ∧ w.cell? ((a.add (i * 4)).add 2) = some (.string d.s) ∧ w.cell? ((a.add (i * 4)).add 3) = some (.string d.text) ∧ d.s.size ≤ maxLen ∧ d.text.size ≤ maxLen := by
      intro i hi
      have he : elems[i]? = some elems[i] := by simp
      exact deed_cells ((hel i hi).trans he)
    refine ⟨hlm, ?_⟩
    by_cases h0 : len = 0
    · exact .inl h0
    · obtain ⟨blk, off, spot⟩ := a
      obtain ⟨_, k0, _⟩ := key 0 (by omega)
      have hs : spot = none := by
        cases spot with
        | none => rfl
        | some s => simp [Addr.add, World.cell?] at k0; split at k0 <;> simp_all
      subst hs
      refine .inr ⟨blk, off, rfl, ?_, fun i hi => ?_⟩
      · have := World.block_lt_of_cell? w _ k0
        simpa [Addr.add] using this
      · obtain ⟨d, e0, e1, e2, e3, z2, z3⟩ := key i hi
        have ha : ∀ n : Nat, (⟨blk, off, none⟩ : Addr).add n = ⟨blk, off + n, none⟩ := fun n => by
          by_cases hn : n = 0 <;> simp [Addr.add, hn]
        have hb : ∀ m n : Nat, (⟨blk, off + m, none⟩ : Addr).add n = ⟨blk, off + m + n, none⟩ := fun m n => by
          by_cases hn : n = 0 <;> simp [Addr.add, hn]
        rw [ha, hb] at e0 e1 e2 e3
        exact ⟨d, e0, e1, e2, e3, z2, z3⟩
end

/-- The operations of a slice, by their places. -/
structure HasD (w : World) (ao : Option Addr) (len : Nat) (ds : Nat → Dd) : Prop where
  at_ : ∀ i, i < len → ∃ blk off, ao = some ⟨blk, off, none⟩ ∧ blk < w.heap.size ∧ w.cell? ⟨blk, off + i * 4, none⟩ = some (.int .i64 (ds i).what) ∧ w.cell? ⟨blk, off + i * 4 + 1, none⟩ = some (.bool (ds i).raw) ∧ w.cell? ⟨blk, off + i * 4 + 2, none⟩ = some (.string (ds i).s) ∧ w.cell? ⟨blk, off + i * 4 + 3, none⟩ = some (.string (ds i).text) ∧ (ds i).s.size ≤ maxLen ∧ (ds i).text.size ≤ maxLen
theorem IsDeeds.has {w : World} {ao : Option Addr} {len : Nat} (h : IsDeeds w ao len) : ∃ ds, HasD w ao len ds := by
  rcases h.2 with h0 | ⟨blk, off, h1, h2, h3⟩
  · exact ⟨fun _ => default, ⟨fun i hi => by omega⟩⟩
  · have h4 : ∀ i, ∃ d : Dd, i < len → w.cell? ⟨blk, off + i * 4, none⟩ = some (.int .i64 d.what) ∧ w.cell? ⟨blk, off + i * 4 + 1, none⟩ = some (.bool d.raw) ∧ w.cell? ⟨blk, off + i * 4 + 2, none⟩ = some (.string d.s) ∧ w.cell? ⟨blk, off + i * 4 + 3, none⟩ = some (.string d.text) ∧ d.s.size ≤ maxLen ∧ d.text.size ≤ maxLen := fun i => by
      by_cases hi : i < len
      · obtain ⟨d, hd⟩ := h3 i hi
        exact ⟨d, fun _ => hd⟩
      · exact ⟨default, fun h => absurd h hi⟩
    refine ⟨fun i => (h4 i).choose, ⟨fun i hi => ⟨blk, off, h1, h2, (h4 i).choose_spec hi⟩⟩⟩
theorem HasD.low {w W : World} {ao : Option Addr} {len : Nat} {ds : Nat → Dd} (h : HasD w ao len ds) (hk : ∀ blk off, ao = some ⟨blk, off, none⟩ → W.heap[blk]? = w.heap[blk]?) (hs : w.heap.size ≤ W.heap.size) : HasD W ao len ds := by
  refine ⟨fun i hi => ?_⟩
  obtain ⟨blk, off, h1, h2, h3, h4, h5, h6, h7⟩ := h.at_ i hi
  have hb := hk blk off h1
  exact ⟨blk, off, h1, Nat.lt_of_lt_of_le h2 hs, (cell_same hb).trans h3, (cell_same hb).trans h4, (cell_same hb).trans h5, (cell_same hb).trans h6, h7⟩
end Go.Proofs.Ytfffifmpfkkgbaa
