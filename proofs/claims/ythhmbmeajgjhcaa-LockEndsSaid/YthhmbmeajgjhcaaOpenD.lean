/- A list of operations among a law's arguments, opened to its cells; a reference by value. -/
import Derived.Test.YthhmbmeajgjhcaaRows
import Derived.Test.YthhmbmeajgjhcaaDeeds
import Derived.OpenShut
import Derived.WideShapes
import Derived.ChangeSlices
namespace Go.Proofs.Ythhmbmeajgjhcaa
open Go.ChangeShapes Go.WideShapes Go.RowKit
set_option maxRecDepth 100000

theorem u_wf {x : Int} (h : (Lit.int .u64 x).wf = true) : W64 x := by
  have h2 : 0 ≤ x ∧ x ≤ 18446744073709551615 := by simpa [Lit.wf, IntKind.min, IntKind.max, IntKind.bits, IntKind.signed] using h
  exact ⟨h2.1, by omega⟩
section
variable {H : Type} {enc : TypeId × Value → H} {w : World} {base : Nat} {spare : Nat → Bool} {held : Bool}
theorem open_ref {r : Reach} {b0 : Nat} {v : Value} {d : DataW H} {p : List MemPlace} (hvv : Value.okWide Try.prog w r b0 33 v)
    (h : DataW.Trod enc Try.prog w base spare held 33 v d p) : ∃ q : Int × Int, v = refV q.1 q.2 ∧ RefOk q.1 q.2 := by
  have hc1 : Try.prog.cellsOf 33 = 2 := by kernel_rfl
  have hc5 : Try.prog.cellsOf 3 = 1 := by kernel_rfl
  have hc6 : Try.prog.cellsOf 31 = 1 := by kernel_rfl
  obtain ⟨cs, rfl, hsz⟩ := okWide_struct Try.underlying33 hvv
  rw [hc1] at hsz
  obtain ⟨l⟩ := cs
  match l, hsz with
  | [c0, c1], _ =>
    obtain ⟨fuel, hf⟩ := h
    obtain ⟨ys, m, _, hx, _, hl, hg⟩ := DataW.trod_struct Try.underlying33 hf
    match ys, hl with
    | [y0, y1], _ =>
      have g0 := hg 0 _ rfl
      have g1 := hg 1 _ rfl
      simp [Value.cells, hc5, hc6] at g0 g1
      obtain ⟨n0, e0, _, w0⟩ := DataW.trod_int Try.underlying3 g0
      obtain ⟨n1, e1, _, w1⟩ := DataW.trod_int Try.underlying31 g1
      simp at e0 e1
      subst e0 e1
      exact ⟨(n0, n1), rfl, w0, w1⟩
theorem deed_cells {a : Addr} {n : Nat} {y : DataW H × List MemPlace} (h : (w.cells? base a 4).bind (DataW.trod enc Try.prog w base spare held n 37) = some y) :
    ∃ c x k v : Int, RefOk x k ∧ W64 v ∧ w.cell? (a.add 0) = some (.int .i64 c) ∧ w.cell? (a.add 1) = some (.int .i64 x) ∧ w.cell? (a.add 2) = some (.int .u32 k) ∧ w.cell? (a.add 3) = some (.int .u64 v) := by
  have hc1 : Try.prog.cellsOf 33 = 2 := by kernel_rfl
  have hc5 : Try.prog.cellsOf 31 = 1 := by kernel_rfl
  have hc6 : Try.prog.cellsOf 3 = 1 := by kernel_rfl
  have hc7 : Try.prog.cellsOf 35 = 1 := by kernel_rfl
  rw [Option.bind_eq_some_iff] at h
  obtain ⟨cs, hcs, hf⟩ := h
  obtain ⟨_, hlen, hat⟩ := World.cells?_some hcs
  obtain ⟨ys, m, _, hx, _, hl, hg⟩ := DataW.trod_struct Try.underlying37 hf
  match cs, hlen with
  | [c0, c1, c2, c3], _ =>
    match ys, hl with
    | [y0, y1, y2], _ =>
      have g0 := hg 0 _ rfl
      have g1 := hg 1 _ rfl
      have g2 := hg 2 _ rfl
      simp [hc1, hc5, hc6, hc7] at g0 g1 g2
      obtain ⟨n0, e0, _, w0⟩ := DataW.trod_int Try.underlying3 g0
      obtain ⟨hs, m1, _, _, _, hl1, hg1⟩ := DataW.trod_struct Try.underlying33 g1
      obtain ⟨n3, e3, _, w3⟩ := DataW.trod_int Try.underlying35 g2
      match hs, hl1 with
      | [z0, z1], _ =>
        have k0 := hg1 0 _ rfl
        have k1 := hg1 1 _ rfl
        simp [hc5, hc6] at k0 k1
        obtain ⟨n1, e1, _, w1⟩ := DataW.trod_int Try.underlying3 k0
        obtain ⟨n2, e2, _, w2⟩ := DataW.trod_int Try.underlying31 k1
        simp at e0 e1 e2 e3
        subst e0 e1 e2 e3
        exact ⟨n0, n1, n2, n3, ⟨w1, w2⟩, u_wf w3, hat 0 (by omega), hat 1 (by omega), hat 2 (by omega), hat 3 (by omega)⟩

theorem open_deeds {fuel : Nat} {ao : Option Addr} {len cap : Nat} {x : DataW H × List MemPlace} (h : DataW.trod enc Try.prog w base spare held fuel 22 [.slice ao len cap] = some x) : IsDeeds w ao len := by
  have hc4 : Try.prog.cellsOf 37 = 4 := by kernel_rfl
  rcases DataW.trod_slice Try.underlying22 h with ⟨h0, _⟩ | ⟨a, l, c, elems, rest, n, _, hcs, _, _, hl, hm, hlen, hel, _, _⟩
  · simp only [List.cons.injEq, Value.slice.injEq, and_true] at h0
    obtain ⟨_, rfl, _⟩ := h0
    exact ⟨by omega, .inl rfl⟩
  · simp only [List.cons.injEq, Value.slice.injEq, and_true] at hcs
    obtain ⟨rfl, rfl, rfl⟩ := hcs
    have hlm : len ≤ 9223372036854775807 := by
      unfold maxLen at hm
      omega
    rw [hc4] at hel
    have key : ∀ i, i < len → ∃ c x k v : Int, RefOk x k ∧ W64 v ∧ w.cell? ((a.add (i * 4)).add 0) = some (.int .i64 c) ∧ w.cell? ((a.add (i * 4)).add 1) = some (.int .i64 x) ∧ w.cell? ((a.add (i * 4)).add 2) = some (.int .u32 k) ∧ w.cell? ((a.add (i * 4)).add 3) = some (.int .u64 v) := by
      intro i hi
      have he : elems[i]? = some elems[i] := by simp
      exact deed_cells ((hel i hi).trans he)
    refine ⟨hlm, ?_⟩
    by_cases h0 : len = 0
    · exact .inl h0
    · obtain ⟨blk, off, spot⟩ := a
      obtain ⟨_, _, _, _, _, _, k0, _⟩ := key 0 (by omega)
      have hs : spot = none := by
        cases spot with
        | none => rfl
        | some s => simp [Addr.add, World.cell?] at k0; split at k0 <;> simp_all
      subst hs
      refine .inr ⟨blk, off, rfl, ?_, fun i hi => ?_⟩
      · have := World.block_lt_of_cell? w _ k0
        simpa [Addr.add] using this
      · obtain ⟨c, t, k, b, u1, u2, e0, e1, e2, e3⟩ := key i hi
        have ha : ∀ n : Nat, (⟨blk, off, none⟩ : Addr).add n = ⟨blk, off + n, none⟩ := fun n => by
          by_cases hn : n = 0 <;> simp [Addr.add, hn]
        have hb : ∀ m n : Nat, (⟨blk, off + m, none⟩ : Addr).add n = ⟨blk, off + m + n, none⟩ := fun m n => by
          by_cases hn : n = 0 <;> simp [Addr.add, hn]
        rw [ha, hb] at e0 e1 e2 e3
        exact ⟨c, t, k, b, u1, u2, e0, e1, e2, e3⟩
end
end Go.Proofs.Ythhmbmeajgjhcaa
