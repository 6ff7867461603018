/- One operation among a law's arguments, by value; BookKeeps, over its opened arguments. -/
import Derived.Test.YtcpmnkihhenbgaaKeeps
namespace Go.Proofs.Ytcpmnkihhenbgaa
open Go.ChangeShapes Go.WideShapes Go.RowKit
set_option maxRecDepth 100000

section
variable {H : Type} {enc : TypeId × Value → H} {w : World} {base : Nat} {spare : Nat → Bool} {held : Bool}
theorem open_dd {r : Reach} {b0 : Nat} {v : Value} {d : DataW H} {p : List MemPlace} (hvv : Value.okWide Try.prog w r b0 33 v)
    (h : DataW.Trod enc Try.prog w base spare held 33 v d p) : ∃ q : Dd, v = q.v ∧ True := by
  have hc1 : Try.prog.cellsOf 33 = 5 := by kernel_rfl
  have hc5 : Try.prog.cellsOf 9 = 1 := by kernel_rfl
  have hc6 : Try.prog.cellsOf 3 = 1 := by kernel_rfl
  obtain ⟨cs, rfl, hsz⟩ := okWide_struct Try.underlying33 hvv
  rw [hc1] at hsz
  obtain ⟨l⟩ := cs
  match l, hsz with
  | [c0, c1, c2, c3, c4], _ =>
    obtain ⟨fuel, hf⟩ := h
    obtain ⟨ys, m, _, hx, _, hl, hg⟩ := DataW.trod_struct Try.underlying33 hf
    match ys, hl with
    | [y0, y1, y2, y3, y4], _ =>
      have g0 := hg 0 _ rfl
      have g1 := hg 1 _ rfl
      have g2 := hg 2 _ rfl
      have g3 := hg 3 _ rfl
      have g4 := hg 4 _ rfl
      simp [Value.cells, hc5, hc6] at g0 g1 g2 g3 g4
      obtain ⟨n0, e0, _, _⟩ := DataW.trod_int Try.underlying3 g0
      obtain ⟨n1, e1, _, _⟩ := DataW.trod_string Try.underlying9 g1
      obtain ⟨n2, e2, _, _⟩ := DataW.trod_string Try.underlying9 g2
      obtain ⟨n3, e3, _, _⟩ := DataW.trod_string Try.underlying9 g3
      obtain ⟨n4, e4, _, _⟩ := DataW.trod_int Try.underlying3 g4
      simp at e0 e1 e2 e3 e4
      subst e0 e1 e2 e3 e4
      exact ⟨⟨n0, n1, n2, n3, n4⟩, rfl, trivial⟩
end
theorem keeps_walk (q : Lm) (ao : Option Addr) (len cap : Nat) (d : Dd) (w : World) (_ : q.Ok) (hd : IsDeeds w ao len) (_ : True) :
    Calls Try.prog 7 #[q.v, .slice ao len cap, d.v] w fun e w' => e = .returned (.bool true) ∧ Below w.heap.size w w' := by
  cases hf : d.fit
  · exact keeps_unfit q ao len cap d w hf
  · exact keeps_fit q ao len cap d w hd hf
end Go.Proofs.Ytcpmnkihhenbgaa
