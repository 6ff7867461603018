/- A list of operations among a law's arguments, opened to its cells. -/
import Derived.Test.YtiifogbdoajnoaaRows
import Derived.Test.YtiifogbdoajnoaaDeeds
import Derived.Test.YtiifogbdoajnoaaNextWm
import Derived.OpenShut
import Derived.WideShapes
import Derived.ChangeSlices
namespace Go.Proofs.Ytiifogbdoajnoaa
open Go.ChangeShapes Go.WideShapes Go.RowKit
set_option maxRecDepth 100000

theorem i64_wf {x : Int} (h : (Lit.int .i64 x).wf = true) : I64 x := by
  simpa [I64, Lit.wf, IntKind.min, IntKind.max, IntKind.bits, IntKind.signed] using h
theorem u32_wf {x : Int} (h : (Lit.int .u32 x).wf = true) : 0 ≤ x ∧ x ≤ 4294967295 := by
  simpa [Lit.wf, IntKind.min, IntKind.max, IntKind.bits, IntKind.signed] using h
section
variable {H : Type} {enc : TypeId × Value → H} {w : World} {base : Nat} {spare : Nat → Bool} {held : Bool}
theorem deed_cells {a : Addr} {n : Nat} {y : DataW H × List MemPlace} (h : (w.cells? base a 5).bind (DataW.trod enc Try.prog w base spare held n 37) = some y) :
    ∃ d : Dd, d.ok ∧ w.cell? (a.add 0) = some (.int .i64 d.c) ∧ w.cell? (a.add 1) = some (.int .u8 (d.n.toNat : Int)) ∧ w.cell? (a.add 2) = some (.int .i64 d.x) ∧ w.cell? (a.add 3) = some (.int .i64 d.s) ∧ w.cell? (a.add 4) = some (.int .u32 d.g) := by
  have hc1 : Try.prog.cellsOf 35 = 2 := by kernel_rfl
  have hc5 : Try.prog.cellsOf 33 = 1 := by kernel_rfl
  have hc6 : Try.prog.cellsOf 3 = 1 := by kernel_rfl
  have hc7 : Try.prog.cellsOf 5 = 1 := by kernel_rfl
  rw [Option.bind_eq_some_iff] at h
  obtain ⟨cs, hcs, hf⟩ := h
  obtain ⟨_, hlen, hat⟩ := World.cells?_some hcs
  obtain ⟨ys, m, _, hx, _, hl, hg⟩ := DataW.trod_struct Try.underlying37 hf
  match cs, hlen with
  | [c0, c1, c2, c3, c4], _ =>
    match ys, hl with
    | [y0, y1, y2, y3], _ =>
      have g0 := hg 0 _ rfl
      have g1 := hg 1 _ rfl
      have g2 := hg 2 _ rfl
      have g3 := hg 3 _ rfl
      simp [hc1, hc6, hc7] at g0 g1 g2 g3
      obtain ⟨n0, e0, _, w0⟩ := DataW.trod_int Try.underlying3 g0
      obtain ⟨n1, e1, _, w1⟩ := DataW.trod_int Try.underlying5 g1
      obtain ⟨b1, hb1⟩ := u8_open w1
      obtain ⟨n2, e2, _, w2⟩ := DataW.trod_int Try.underlying3 g2
      obtain ⟨hs, m1, _, _, _, hl1, hg1⟩ := DataW.trod_struct Try.underlying35 g3
      match hs, hl1 with
      | [z0, z1], _ =>
        have k0 := hg1 0 _ rfl
        have k1 := hg1 1 _ rfl
        simp [hc5, hc6] at k0 k1
        obtain ⟨n3, e3, _, w3⟩ := DataW.trod_int Try.underlying3 k0
        obtain ⟨n4, e4, _, w4⟩ := DataW.trod_int Try.underlying33 k1
        simp at e0 e1 e2 e3 e4
        subst hb1
        subst e0 e1 e2 e3 e4
        exact ⟨⟨n0, b1, n2, n3, n4⟩, ⟨i64_wf w0, i64_wf w2, i64_wf w3, u32_wf w4⟩, hat 0 (by omega), hat 1 (by omega), hat 2 (by omega), hat 3 (by omega), hat 4 (by omega)⟩

theorem open_deeds {fuel : Nat} {ao : Option Addr} {len cap : Nat} {x : DataW H × List MemPlace} (h : DataW.trod enc Try.prog w base spare held fuel 22 [.slice ao len cap] = some x) : IsDeeds w ao len := by
  have hc4 : Try.prog.cellsOf 37 = 5 := by kernel_rfl
  rcases DataW.trod_slice Try.underlying22 h with ⟨h0, _⟩ | ⟨a, l, c, elems, rest, n, _, hcs, _, _, hl, hm, hlen, hel, _, _⟩
  · simp only [List.cons.injEq, Value.slice.injEq, and_true] at h0
    obtain ⟨_, rfl, _⟩ := h0
    exact ⟨by omega, .inl rfl⟩
  · simp only [List.cons.injEq, Value.slice.injEq, and_true] at hcs
    obtain ⟨rfl, rfl, rfl⟩ := hcs
    have hlm : len ≤ 9223372036854775807 := by
      unfold maxLen at hm
      omega
    rw [hc4] at hel
    have key : ∀ i, i < len → ∃ d : Dd, d.ok ∧ w.cell? ((a.add (i * 5)).add 0) = some (.int .i64 d.c) ∧ w.cell? ((a.add (i * 5)).add 1) = some (.int .u8 (d.n.toNat : Int)) ∧ w.cell? ((a.add (i * 5)).add 2) = some (.int .i64 d.x) ∧ w.cell? ((a.add (i * 5)).add 3) = some (.int .i64 d.s) ∧ w.cell? ((a.add (i * 5)).add 4) = some (.int .u32 d.g) := by
      intro i hi
      have he : elems[i]? = some elems[i] := by simp
      exact deed_cells ((hel i hi).trans he)
    refine ⟨hlm, ?_⟩
    by_cases h0 : len = 0
    · exact .inl h0
    · obtain ⟨blk, off, spot⟩ := a
      obtain ⟨_, _, k0, _⟩ := key 0 (by omega)
      have hs : spot = none := by
        cases spot with
        | none => rfl
        | some s => simp [Addr.add, World.cell?] at k0; split at k0 <;> simp_all
      subst hs
      refine .inr ⟨blk, off, rfl, ?_, fun i hi => ?_⟩
      · have := World.block_lt_of_cell? w _ k0
        simpa [Addr.add] using this
      · obtain ⟨d, hd, e0, e1, e2, e3, e4⟩ := key i hi
        have ha : ∀ n : Nat, (⟨blk, off, none⟩ : Addr).add n = ⟨blk, off + n, none⟩ := fun n => by
          by_cases hn : n = 0 <;> simp [Addr.add, hn]
        have hb : ∀ n m : Nat, ((⟨blk, off, none⟩ : Addr).add n).add m = ⟨blk, off + n + m, none⟩ := fun n m => by
          rw [ha]
          by_cases hm : m = 0 <;> simp [Addr.add, hm]
        rw [hb] at e0 e1 e2 e3 e4
        exact ⟨d, hd, e0, e1, e2, e3, e4⟩
end
end Go.Proofs.Ytiifogbdoajnoaa
