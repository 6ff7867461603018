/- Limits and a list of operations among a law's arguments, opened to their cells. -/
import Derived.Test.YtpnddccanelcnaaRows
import Derived.Test.YtpnddccanelcnaaAwake
import Derived.OpenShut
import Derived.WideShapes
import Derived.ChangeSlices
namespace Go.Proofs.Ytpnddccanelcnaa
open Go.ChangeShapes Go.WideShapes Go.RowKit
set_option maxRecDepth 100000

section
variable {H : Type} {enc : TypeId × Value → H} {w : World} {base : Nat} {spare : Nat → Bool} {held : Bool}
structure Lm where
  k : Int
  b : Int
def Lm.v (l : Lm) : Value := lim l.k l.b
def Lm.Ok (l : Lm) : Prop := U l.k ∧ U l.b
theorem u_wf {x : Int} (h : (Lit.int .u64 x).wf = true) : U x := by
  have h2 : 0 ≤ x ∧ x ≤ 18446744073709551615 := by simpa [Lit.wf, IntKind.min, IntKind.max, IntKind.bits, IntKind.signed] using h
  exact ⟨h2.1, by omega⟩
theorem open_lim {r : Reach} {b0 : Nat} {v : Value} {d : DataW H} {p : List MemPlace} (hvv : Value.okWide Try.prog w r b0 24 v)
    (h : DataW.Trod enc Try.prog w base spare held 24 v d p) : ∃ q : Lm, v = q.v ∧ q.Ok := by
  have hc1 : Try.prog.cellsOf 24 = 2 := by kernel_rfl
  have hc5 : Try.prog.cellsOf 22 = 1 := by kernel_rfl
  obtain ⟨cs, rfl, hsz⟩ := okWide_struct Try.underlying24 hvv
  rw [hc1] at hsz
  obtain ⟨l⟩ := cs
  match l, hsz with
  | [c0, c1], _ =>
    obtain ⟨fuel, hf⟩ := h
    obtain ⟨ys, m, _, hx, _, hl, hg⟩ := DataW.trod_struct Try.underlying24 hf
    match ys, hl with
    | [y0, y1], _ =>
      have g0 := hg 0 _ rfl
      have g1 := hg 1 _ rfl
      simp [Value.cells, hc5] at g0 g1
      obtain ⟨n0, e0, _, w0⟩ := DataW.trod_int Try.underlying22 g0
      obtain ⟨n1, e1, _, w1⟩ := DataW.trod_int Try.underlying22 g1
      simp at e0 e1
      subst e0 e1
      exact ⟨⟨n0, n1⟩, rfl, u_wf w0, u_wf w1⟩
end

end Go.Proofs.Ytpnddccanelcnaa
