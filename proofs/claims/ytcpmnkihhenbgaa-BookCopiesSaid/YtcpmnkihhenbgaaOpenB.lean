/- Limits and a list of operations among a law's arguments, opened to their cells. -/
import Derived.Test.YtcpmnkihhenbgaaRows
import Derived.Test.YtcpmnkihhenbgaaFitsD
import Derived.OpenShut
import Derived.WideShapes
import Derived.ChangeSlices
namespace Go.Proofs.Ytcpmnkihhenbgaa
open Go.ChangeShapes Go.WideShapes Go.RowKit
set_option maxRecDepth 100000

section
variable {H : Type} {enc : TypeId × Value → H} {w : World} {base : Nat} {spare : Nat → Bool} {held : Bool}
def U (x : Int) : Prop := 0 ≤ x ∧ x < 18446744073709551616
/-- Limits. -/
structure Lm where
  k : Nat
  b : Nat
def Lm.v (l : Lm) : Value := .agg #[.int .u64 (l.k : Int), .int .u64 (l.b : Int)]
def Lm.Ok (l : Lm) : Prop := l.k < 18446744073709551616 ∧ l.b < 18446744073709551616
theorem u_wf {x : Int} (h : (Lit.int .u64 x).wf = true) : U x := by
  have h2 : 0 ≤ x ∧ x ≤ 18446744073709551615 := by simpa [Lit.wf, IntKind.min, IntKind.max, IntKind.bits, IntKind.signed] using h
  exact ⟨h2.1, by omega⟩
theorem open_lim {r : Reach} {b0 : Nat} {v : Value} {d : DataW H} {p : List MemPlace} (hvv : Value.okWide Try.prog w r b0 24 v)
    (h : DataW.Trod enc Try.prog w base spare held 24 v d p) : ∃ q : Lm, v = q.v ∧ q.Ok := by
  have hc1 : Try.prog.cellsOf 24 = 2 := by kernel_rfl
  have hc5 : Try.prog.cellsOf 22 = 1 := by kernel_rfl
  obtain ⟨cs, rfl, hsz⟩ := okWide_struct Try.underlying24 hvv
  rw [hc1] at hsz
  obtain ⟨l⟩ := cs
  match l, hsz with
  | [c0, c1], _ =>
    obtain ⟨fuel, hf⟩ := h
    obtain ⟨ys, m, _, hx, _, hl, hg⟩ := DataW.trod_struct Try.underlying24 hf
    match ys, hl with
    | [y0, y1], _ =>
      have g0 := hg 0 _ rfl
      have g1 := hg 1 _ rfl
      simp [Value.cells, hc5] at g0 g1
      obtain ⟨n0, e0, _, w0⟩ := DataW.trod_int Try.underlying22 g0
      obtain ⟨n1, e1, _, w1⟩ := DataW.trod_int Try.underlying22 g1
      simp at e0 e1
      subst e0 e1
      have u0 := u_wf w0
      have u1 := u_wf w1
      unfold U at u0 u1
      refine ⟨⟨n0.toNat, n1.toNat⟩, ?_, ?_, ?_⟩
      · simp only [Lm.v]
        rw [Int.toNat_of_nonneg u0.1, Int.toNat_of_nonneg u1.1]
      · show n0.toNat < _; omega
      · show n1.toNat < _; omega
/-- A slice of deeds. -/
def IsDeeds (w : World) (ao : Option Addr) (len : Nat) : Prop := len ≤ 9223372036854775807 ∧ (len = 0 ∨ ∃ blk off, ao = some ⟨blk, off, none⟩ ∧ blk < w.heap.size ∧ ∀ i, i < len → ∃ d : Dd, w.cell? ⟨blk, off + i * 5, none⟩ = some (.int .i64 d.what) ∧ w.cell? ⟨blk, off + i * 5 + 1, none⟩ = some (.string d.key) ∧ w.cell? ⟨blk, off + i * 5 + 2, none⟩ = some (.string d.value) ∧ w.cell? ⟨blk, off + i * 5 + 3, none⟩ = some (.string d.old) ∧ w.cell? ⟨blk, off + i * 5 + 4, none⟩ = some (.int .i64 d.n))
theorem deed_cells {a : Addr} {n : Nat} {y : DataW H × List MemPlace} (h : (w.cells? base a 5).bind (DataW.trod enc Try.prog w base spare held n 33) = some y) :
    ∃ d : Dd, w.cell? (a.add 0) = some (.int .i64 d.what) ∧ w.cell? (a.add 1) = some (.string d.key) ∧ w.cell? (a.add 2) = some (.string d.value) ∧ w.cell? (a.add 3) = some (.string d.old) ∧ w.cell? (a.add 4) = some (.int .i64 d.n) := by
  have hc5 : Try.prog.cellsOf 9 = 1 := by kernel_rfl
  have hc6 : Try.prog.cellsOf 3 = 1 := by kernel_rfl
  rw [Option.bind_eq_some_iff] at h
  obtain ⟨cs, hcs, hf⟩ := h
  obtain ⟨_, hlen, hat⟩ := World.cells?_some hcs
  obtain ⟨ys, m, _, hx, _, hl, hg⟩ := DataW.trod_struct Try.underlying33 hf
  match cs, hlen with
  | [c0, c1, c2, c3, c4], _ =>
    match ys, hl with
    | [y0, y1, y2, y3, y4], _ =>
      have g0 := hg 0 _ rfl
      have g1 := hg 1 _ rfl
      have g2 := hg 2 _ rfl
      have g3 := hg 3 _ rfl
      have g4 := hg 4 _ rfl
      simp [hc5, hc6] at g0 g1 g2 g3 g4
      obtain ⟨n0, e0, _, _⟩ := DataW.trod_int Try.underlying3 g0
      obtain ⟨n1, e1, _, _⟩ := DataW.trod_string Try.underlying9 g1
      obtain ⟨n2, e2, _, _⟩ := DataW.trod_string Try.underlying9 g2
      obtain ⟨n3, e3, _, _⟩ := DataW.trod_string Try.underlying9 g3
      obtain ⟨n4, e4, _, _⟩ := DataW.trod_int Try.underlying3 g4
      simp at e0 e1 e2 e3 e4
      subst e0 e1 e2 e3 e4
      exact ⟨⟨n0, n1, n2, n3, n4⟩, hat 0 (by omega), hat 1 (by omega), hat 2 (by omega), hat 3 (by omega), hat 4 (by omega)⟩
theorem open_deeds {fuel : Nat} {ao : Option Addr} {len cap : Nat} {x : DataW H × List MemPlace} (h : DataW.trod enc Try.prog w base spare held fuel 25 [.slice ao len cap] = some x) : IsDeeds w ao len := by
  have hc4 : Try.prog.cellsOf 33 = 5 := by kernel_rfl
  rcases DataW.trod_slice Try.underlying25 h with ⟨h0, _⟩ | ⟨a, l, c, elems, rest, n, _, hcs, _, _, hl, hm, hlen, hel, _, _⟩
  · simp only [List.cons.injEq, Value.slice.injEq, and_true] at h0
    obtain ⟨_, rfl, _⟩ := h0
    exact ⟨by omega, .inl rfl⟩
  · simp only [List.cons.injEq, Value.slice.injEq, and_true] at hcs
    obtain ⟨rfl, rfl, rfl⟩ := hcs
    have hlm : len ≤ 9223372036854775807 := by
      unfold maxLen at hm
      omega
    rw [hc4] at hel
    have key : ∀ i, i < len → ∃ d : Dd, w.cell? ((a.add (i * 5)).add 0) = some (.int .i64 d.what) ∧ w.cell? ((a.add (i * 5)).add 1) = some (.string d.key) ∧ w.cell? ((a.add (i * 5)).add 2) = some (.string d.value) ∧ w.cell? ((a.add (i * 5)).add 3) = some (.string d.old) ∧ w.cell? ((a.add (i * 5)).add 4) = some (.int .i64 d.n) := by
      intro i hi
      have he : elems[i]? = some elems[i] := by simp
      exact deed_cells ((hel i hi).trans he)
    refine ⟨hlm, ?_⟩
    by_cases h0 : len = 0
    · exact .inl h0
    · obtain ⟨blk, off, spot⟩ := a
      obtain ⟨_, k0, _⟩ := key 0 (by omega)
      have hs : spot = none := by
        cases spot with
        | none => rfl
        | some s => simp [Addr.add, World.cell?] at k0; split at k0 <;> simp_all
      subst hs
      refine .inr ⟨blk, off, rfl, ?_, fun i hi => ?_⟩
      · have := World.block_lt_of_cell? w _ k0
        simpa [Addr.add] using this
      · obtain ⟨d, e0, e1, e2, e3, e4⟩ := key i hi
        have ha : ∀ n : Nat, (⟨blk, off, none⟩ : Addr).add n = ⟨blk, off + n, none⟩ := fun n => by
          by_cases hn : n = 0 <;> simp [Addr.add, hn]
        have hb : ∀ m n : Nat, (⟨blk, off + m, none⟩ : Addr).add n = ⟨blk, off + m + n, none⟩ := fun m n => by
          by_cases hn : n = 0 <;> simp [Addr.add, hn]
        rw [ha, hb] at e0 e1 e2 e3 e4
        exact ⟨d, e0, e1, e2, e3, e4⟩
end

theorem deed_at {w : World} {ao : Option Addr} {len : Nat} (h : IsDeeds w ao len) {i : Nat} (hi : i < len) : ∃ blk off, ∃ d : Dd, ao = some ⟨blk, off, none⟩ ∧ blk < w.heap.size ∧ w.cell? ⟨blk, off + i * 5, none⟩ = some (.int .i64 d.what) ∧ w.cell? ⟨blk, off + i * 5 + 1, none⟩ = some (.string d.key) ∧ w.cell? ⟨blk, off + i * 5 + 2, none⟩ = some (.string d.value) ∧ w.cell? ⟨blk, off + i * 5 + 3, none⟩ = some (.string d.old) ∧ w.cell? ⟨blk, off + i * 5 + 4, none⟩ = some (.int .i64 d.n) := by
  rcases h.2 with h0 | ⟨blk, off, h1, h2, h3⟩
  · omega
  · obtain ⟨d, h4⟩ := h3 i hi
    exact ⟨blk, off, d, h1, h2, h4⟩
end Go.Proofs.Ytcpmnkihhenbgaa
