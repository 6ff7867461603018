/- A request and an effort among the arguments of a law, opened to their cells. -/
import Derived.Test.YtjlfgmjcmicoaaaFair
import Derived.OpenShut
import Derived.WideShapes
namespace Go.Proofs.Ytjlfgmjcmicoaaa
open Go.ChangeShapes Go.WideShapes Go.RowKit
set_option maxRecDepth 100000

section
variable {H : Type} {enc : TypeId × Value → H} {w : World} {base : Nat} {spare : Nat → Bool} {held : Bool}
theorem open_req {r : Reach} {b0 : Nat} {v : Value} {d : DataW H} {p : List MemPlace} (hv : Value.okWide Try.prog w r b0 31 v)
    (h : DataW.Trod enc Try.prog w base spare held 31 v d p) : ∃ q : Req, v = reqV q ∧ q.Ok := by
  have hc1 : Try.prog.cellsOf 31 = 12 := by kernel_rfl
  have hc2 : Try.prog.cellsOf 22 = 1 := by kernel_rfl
  have hc3 : Try.prog.cellsOf 26 = 3 := by kernel_rfl
  have hc4 : Try.prog.cellsOf 9 = 1 := by kernel_rfl
  have hc5 : Try.prog.cellsOf 3 = 1 := by kernel_rfl
  have hc6 : Try.prog.cellsOf 29 = 2 := by kernel_rfl
  have hc7 : Try.prog.cellsOf 24 = 1 := by kernel_rfl
  have hc8 : Try.prog.cellsOf 23 = 1 := by kernel_rfl
  have hc9 : Try.prog.cellsOf 27 = 1 := by kernel_rfl
  obtain ⟨cs, rfl, hsz⟩ := okWide_struct Try.underlying31 hv
  rw [hc1] at hsz
  obtain ⟨l⟩ := cs
  match l, hsz with
  | [c0, c1, c2, c3, c4, c5, c6, c7, c8, c9, c10, c11], _ =>
    obtain ⟨fuel, hf⟩ := h
    obtain ⟨ys, m, _, hx, _, hl, hg⟩ := DataW.trod_struct Try.underlying31 hf
    match ys, hl with
    | [y0, y1, y2, y3, y4, y5, y6, y7, y8], _ =>
      have g0 := hg 0 _ rfl
      have g1 := hg 1 _ rfl
      have g2 := hg 2 _ rfl
      have g3 := hg 3 _ rfl
      have g4 := hg 4 _ rfl
      have g5 := hg 5 _ rfl
      have g6 := hg 6 _ rfl
      have g7 := hg 7 _ rfl
      have g8 := hg 8 _ rfl
      simp [Value.cells, hc2, hc3, hc4, hc5, hc6, hc7] at g0 g1 g2 g3 g4 g5 g6 g7 g8
      obtain ⟨n0, e0, _, w0⟩ := DataW.trod_int Try.underlying22 g0
      obtain ⟨hs, m1, _, _, _, hl1, hg1⟩ := DataW.trod_struct Try.underlying26 g1
      obtain ⟨n4, e4, _, w4⟩ := DataW.trod_string Try.underlying9 g2
      obtain ⟨n5, e5, _, w5⟩ := DataW.trod_string Try.underlying9 g3
      obtain ⟨n6, e6, _, w6⟩ := DataW.trod_string Try.underlying9 g4
      obtain ⟨n7, e7, _, w7⟩ := DataW.trod_int Try.underlying3 g5
      obtain ⟨n8, e8, _, w8⟩ := DataW.trod_int Try.underlying3 g6
      obtain ⟨ls, m2, _, _, _, hl2, hg2⟩ := DataW.trod_struct Try.underlying29 g7
      obtain ⟨n11, e11, _, w11⟩ := DataW.trod_int Try.underlying24 g8
      match hs, hl1 with
      | [z0, z1, z2], _ =>
        have k0 := hg1 0 _ rfl
        have k1 := hg1 1 _ rfl
        have k2 := hg1 2 _ rfl
        match ls, hl2 with
        | [x0, x1], _ =>
          have j0 := hg2 0 _ rfl
          have j1 := hg2 1 _ rfl
          simp [hc5, hc7, hc8, hc9] at k0 k1 k2 j0 j1
          obtain ⟨n1, e1, _, w1⟩ := DataW.trod_int Try.underlying3 k0
          obtain ⟨n2, e2, _, w2⟩ := DataW.trod_int Try.underlying23 k1
          obtain ⟨n3, e3, _, w3⟩ := DataW.trod_int Try.underlying24 k2
          obtain ⟨n9, e9, _, w9⟩ := DataW.trod_int Try.underlying27 j0
          obtain ⟨n10, e10, _, w10⟩ := DataW.trod_int Try.underlying27 j1
          simp at e0 e1 e2 e3 e4 e5 e6 e7 e8 e9 e10 e11
          subst e0 e1 e2 e3 e4 e5 e6 e7 e8 e9 e10 e11
          exact ⟨⟨n0, n1, n2, n3, n4, n5, n6, n7, n8, n9, n10, n11⟩, rfl, ⟨w4, w5, w6, bounds_i64 w0, bounds_i64 w7⟩⟩

theorem open_effort {r : Reach} {b0 : Nat} {v : Value} {d : DataW H} {p : List MemPlace} (hv : Value.okWide Try.prog w r b0 35 v)
    (h : DataW.Trod enc Try.prog w base spare held 35 v d p) : ∃ x : Eff, v = effV x ∧ (Lit.int .i64 x.p).wf = true ∧ (Lit.int .i64 x.t).wf = true ∧ (Lit.int .i64 x.k).wf = true ∧ (Lit.int .i64 x.m).wf = true := by
  have hc1 : Try.prog.cellsOf 35 = 4 := by kernel_rfl
  have hc5 : Try.prog.cellsOf 3 = 1 := by kernel_rfl
  obtain ⟨cs, rfl, hsz⟩ := okWide_struct Try.underlying35 hv
  rw [hc1] at hsz
  obtain ⟨l⟩ := cs
  match l, hsz with
  | [c0, c1, c2, c3], _ =>
    obtain ⟨fuel, hf⟩ := h
    obtain ⟨ys, m, _, hx, _, hl, hg⟩ := DataW.trod_struct Try.underlying35 hf
    match ys, hl with
    | [y0, y1, y2, y3], _ =>
      have g0 := hg 0 _ rfl
      have g1 := hg 1 _ rfl
      have g2 := hg 2 _ rfl
      have g3 := hg 3 _ rfl
      simp [Value.cells, hc5] at g0 g1 g2 g3
      obtain ⟨n0, e0, _, w0⟩ := DataW.trod_int Try.underlying3 g0
      obtain ⟨n1, e1, _, w1⟩ := DataW.trod_int Try.underlying3 g1
      obtain ⟨n2, e2, _, w2⟩ := DataW.trod_int Try.underlying3 g2
      obtain ⟨n3, e3, _, w3⟩ := DataW.trod_int Try.underlying3 g3
      simp at e0 e1 e2 e3
      subst e0 e1 e2 e3
      exact ⟨⟨n0, n1, n2, n3⟩, rfl, w0, w1, w2, w3⟩
end

end Go.Proofs.Ytjlfgmjcmicoaaa
