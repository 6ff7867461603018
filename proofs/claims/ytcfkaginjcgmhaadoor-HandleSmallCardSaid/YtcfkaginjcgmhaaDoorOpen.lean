/- A handle among the arguments of a law, opened to its cells; what the rows' lists of variables give. -/
import Derived.Test.YtcfkaginjcgmhaaDoorRows
import Derived.Test.YtcfkaginjcgmhaaDoorSame
import Derived.OpenShut
import Derived.WideShapes
import Derived.Lib.LaidTab
import Derived.Stop.LaidErr
namespace Go.Proofs.YtcfkaginjcgmhaaDoor
open Go.ChangeShapes Go.WideShapes Go.RowKit
set_option maxRecDepth 100000

structure Hnd where
  t : Int
  g : Int
  r : Nat
def Hnd.v (h : Hnd) : Value := hv h.t h.g h.r
def Hnd.Ok (h : Hnd) : Prop := h.g ≤ 4294967295 ∧ h.r < 256

section
variable {H : Type} {enc : TypeId × Value → H} {w : World} {base : Nat} {spare : Nat → Bool} {held : Bool}
theorem open_handle {r : Reach} {b0 : Nat} {v : Value} {d : DataW H} {p : List MemPlace} (hvv : Value.okWide Tryd.prog w r b0 25 v)
    (h : DataW.Trod enc Tryd.prog w base spare held 25 v d p) : ∃ q : Hnd, v = q.v ∧ q.Ok := by
  have hc1 : Tryd.prog.cellsOf 25 = 3 := by kernel_rfl
  have hc5 : Tryd.prog.cellsOf 3 = 1 := by kernel_rfl
  have hc6 : Tryd.prog.cellsOf 22 = 1 := by kernel_rfl
  have hc7 : Tryd.prog.cellsOf 23 = 1 := by kernel_rfl
  obtain ⟨cs, rfl, hsz⟩ := okWide_struct Tryd.underlying25 hvv
  rw [hc1] at hsz
  obtain ⟨l⟩ := cs
  match l, hsz with
  | [c0, c1, c2], _ =>
    obtain ⟨fuel, hf⟩ := h
    obtain ⟨ys, m, _, hx, _, hl, hg⟩ := DataW.trod_struct Tryd.underlying25 hf
    match ys, hl with
    | [y0, y1, y2], _ =>
      have g0 := hg 0 _ rfl
      have g1 := hg 1 _ rfl
      have g2 := hg 2 _ rfl
      simp [Value.cells, hc5, hc6, hc7] at g0 g1 g2
      obtain ⟨n0, e0, _, w0⟩ := DataW.trod_int Tryd.underlying3 g0
      obtain ⟨n1, e1, _, w1⟩ := DataW.trod_int Tryd.underlying22 g1
      obtain ⟨n2, e2, _, w2⟩ := DataW.trod_int Tryd.underlying23 g2
      simp at e0 e1 e2
      subst e0 e1 e2
      have h1 : 0 ≤ n1 ∧ n1 ≤ 4294967295 := by simpa [Lit.wf, IntKind.min, IntKind.max, IntKind.bits, IntKind.signed] using w1
      have h2 : 0 ≤ n2 ∧ n2 ≤ 255 := by simpa [Lit.wf, IntKind.min, IntKind.max, IntKind.bits, IntKind.signed] using w2
      obtain ⟨k, rfl⟩ : ∃ k : Nat, n2 = k := ⟨n2.toNat, by omega⟩
      exact ⟨⟨n0, n1, k⟩, rfl, h1.2, by show k < 256; omega⟩
end

theorem laid_tail {P : Program} {x : String × DataW Unit} {l : List (String × DataW Unit)} {w : World} (h : laidMet P (x :: l) w) : laidMet P l w := by
  obtain ⟨ps, hl, hn, hc⟩ := h
  obtain ⟨g, t, cs, fuel, p, q, h1, h2, h3, h4, h5, rfl⟩ := hl
  exact ⟨q, h5, (List.nodup_append.1 hn).2.1, fun b off hm => hc b off (List.mem_append.2 (.inr hm))⟩

theorem pow_of_head {W : World} {rest : List (String × DataW Unit)} (h : laidMet Tryd.prog (("internal/strconv.uint64pow10", Rows.laid_internal_strconv_uint64pow10) :: rest) W) : Tab W :=
  Lib.tabIs_of_head (g := 1) (t := 84) (e := 59) (n := 20) (by kernel_rfl) (by kernel_rfl) Tryd.underlying84 Tryd.underlying59 (by kernel_rfl) (by kernel_rfl) h

theorem star : "*" ++ "errors.errorString" = "*errors.errorString" := by decide
theorem esRow (u : TypeId) (h : Tryd.prog.typeName? 3 u = some "*errors.errorString") : u = 96 :=
  typeName_ptr_named (nm := "errors.errorString") (by rw [star]; kernel_rfl) (by kernel_rfl) (by decide) u (by rw [star]; exact h)

theorem range_of_head {W : World} {rest : List (String × DataW Unit)} (h : laidMet Tryd.prog (("strconv.ErrRange", Rows.laid_strconv_ErrRange) :: rest) W) : ∃ tp p, W.var? Tryd.prog "strconv.ErrRange" = some #[.iface tp p] := by
  obtain ⟨a0, s0, hv0, -, -, -⟩ := laid_sentinel (g := 3) h (by kernel_rfl) (by kernel_rfl) Tryd.underlying61 esRow Tryd.underlying96 Tryd.underlying98 rfl rfl Tryd.underlying9 (by kernel_rfl) (by kernel_rfl)
  exact ⟨_, _, hv0⟩

theorem syntax_of_head {W : World} {rest : List (String × DataW Unit)} (h : laidMet Tryd.prog (("strconv.ErrSyntax", Rows.laid_strconv_ErrSyntax) :: rest) W) : ∃ tp p, W.var? Tryd.prog "strconv.ErrSyntax" = some #[.iface tp p] := by
  obtain ⟨a0, s0, hv0, -, -, -⟩ := laid_sentinel (g := 2) h (by kernel_rfl) (by kernel_rfl) Tryd.underlying61 esRow Tryd.underlying96 Tryd.underlying98 rfl rfl Tryd.underlying9 (by kernel_rfl) (by kernel_rfl)
  exact ⟨_, _, hv0⟩

theorem five {W : World} (h : laidMet Tryd.prog Rows.handleTellsRow.laid W) : Tab W ∧ Errs W :=
  ⟨pow_of_head (laid_tail (laid_tail h)), syntax_of_head (laid_tail (laid_tail (laid_tail (laid_tail h)))), range_of_head (laid_tail (laid_tail (laid_tail h)))⟩
theorem all_of_five {W : World} (h : laidMetH Tryd.prog Rows.handleTellsRow.laid W) : Tab W ∧ Errs W := five h

theorem tells_walk (a b : Hnd) (d : Int) (w : World) (ha : a.Ok) (hb : b.Ok) (_ : (Lit.int .i64 d).wf = true) (hw : Tab w ∧ Errs w) :
    Calls Tryd.prog 3 #[a.v, b.v, .int .i64 d] w fun e w' => e = .returned (.bool true) ∧ Below w.heap.size w w' :=
  handleTells_walk a.t a.g a.r b.t b.g b.r d w ha.1 ha.2 hb.2 hw

end Go.Proofs.YtcfkaginjcgmhaaDoor
