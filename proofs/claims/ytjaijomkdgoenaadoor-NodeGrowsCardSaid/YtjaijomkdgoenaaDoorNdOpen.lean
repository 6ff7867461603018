/- A node among a law's arguments, opened; the laid table of rooms. -/
import Derived.Test.YtjaijomkdgoenaaDoorRows
import Derived.Test.YtjaijomkdgoenaaDoorNdAwake
import Derived.OpenShut
import Derived.WideShapes
import Derived.ChangeSlices
import Derived.SizedLaws
import Derived.Lib.LaidTab
namespace Go.Proofs.YtjaijomkdgoenaaDoor.Nd
open Go.ChangeShapes Go.WideShapes Go.RowKit
set_option maxRecDepth 1000000
set_option maxHeartbeats 4000000

theorem list_of {α : Type} (P : Nat → α → Prop) : ∀ n : Nat, (∀ j, j < n → ∃ k, P j k) → ∃ l : List α, l.length = n ∧ ∀ (j : Nat) (k : α), l[j]? = some k → P j k
  | 0, _ => ⟨[], rfl, fun j k h => by simp at h⟩
  | n + 1, h => by
    obtain ⟨l, h1, h2⟩ := list_of P n (fun j hj => h j (by omega))
    obtain ⟨k, hk⟩ := h n (by omega)
    refine ⟨l ++ [k], by simp [h1], fun j x hx => ?_⟩
    rcases Nat.lt_or_ge j n with hj | hj
    · rw [List.getElem?_append_left (by omega)] at hx
      exact h2 j x hx
    · have : j = n := by
        have := (List.getElem?_eq_some_iff.1 hx).1
        simp [h1] at this
        omega
      subst this
      rw [List.getElem?_append_right (by omega), h1] at hx
      simp at hx
      subst hx
      exact hk
theorem u8_wf {n : Int} (h : (Lit.int .u8 n).wf = true) : ∃ b : UInt8, n = (b.toNat : Int) := by
  have h1 : 0 ≤ n ∧ n ≤ 255 := by simpa [Lit.wf, IntKind.min, IntKind.max, IntKind.bits, IntKind.signed] using h
  refine ⟨UInt8.ofNat n.toNat, ?_⟩
  rw [u8_nat (by omega)]
  omega
section
variable {H : Type} {enc : TypeId × Value → H} {w : World} {base : Nat} {spare : Nat → Bool} {held : Bool}
theorem addr_add (blk off n : Nat) : (⟨blk, off, none⟩ : Addr).add n = ⟨blk, off + n, none⟩ := by
  by_cases hn : n = 0 <;> simp [Addr.add, hn]
theorem spot_none {w : World} {blk off : Nat} {spot : Option _} {v : Value} (h : w.cell? ((⟨blk, off, spot⟩ : Addr).add 0) = some v) : spot = none := by
  cases spot with
  | none => rfl
  | some s => simp [Addr.add, World.cell?] at h; split at h <;> simp_all
theorem open_bytes {fuel : Nat} {ao : Option Addr} {len cap : Nat} {x : DataW H × List MemPlace} (h : DataW.trod enc Tryd.prog w base spare held fuel 23 [.slice ao len cap] = some x) : ∃ l, l.length = len ∧ BR w l (.slice ao len cap) := by
  have hc1 : Tryd.prog.cellsOf 5 = 1 := by kernel_rfl
  rcases DataW.trod_slice Tryd.underlying23 h with ⟨h0, _⟩ | ⟨a, l, c, elems, rest, n, _, hcs, _, _, hl, hm, hlen, hel, _, _⟩
  · simp only [List.cons.injEq, Value.slice.injEq, and_true] at h0
    obtain ⟨rfl, rfl, rfl⟩ := h0
    exact ⟨[], rfl, BR.nil w⟩
  · simp only [List.cons.injEq, Value.slice.injEq, and_true] at hcs
    obtain ⟨rfl, rfl, rfl⟩ := hcs
    rw [hc1] at hel
    have key : ∀ i, i < len → ∃ k : UInt8, w.cell? (a.add i) = some (.int .u8 (k.toNat : Int)) := by
      intro i hi
      have he : elems[i]? = some elems[i] := by simp
      have h1 := (hel i hi).trans he
      rw [Option.bind_eq_some_iff] at h1
      obtain ⟨cs, hcs, hf⟩ := h1
      obtain ⟨_, hcl, hat⟩ := World.cells?_some hcs
      obtain ⟨n0, e0, _, w0⟩ := DataW.trod_int Tryd.underlying5 hf
      obtain ⟨k, hk⟩ := u8_wf w0
      subst hk
      subst e0
      have := hat 0 (by omega)
      refine ⟨k, ?_⟩
      have e2 : (a.add (i * 1)).add 0 = a.add i := by rw [Nat.mul_one]; simp [Addr.add]
      rw [e2] at this
      exact this
    obtain ⟨L, hL1, hL2⟩ := list_of (fun j (k : UInt8) => w.cell? (a.add j) = some (.int .u8 (k.toNat : Int))) len key
    refine ⟨L, hL1, some a, cap, by rw [hL1], fun j k hj => ?_⟩
    have h1 := hL2 j k hj
    obtain ⟨_, h0⟩ := key 0 (by have := (List.getElem?_eq_some_iff.1 hj).1; omega)
    obtain ⟨blk, off, spot⟩ := a
    obtain rfl := spot_none h0
    rw [addr_add] at h1
    exact ⟨blk, off, rfl, World.block_lt_of_cell? w _ h1, h1⟩
theorem open_kids {fuel : Nat} {ao : Option Addr} {len cap : Nat} {x : DataW H × List MemPlace} (h : DataW.trod enc Tryd.prog w base spare held fuel 24 [.slice ao len cap] = some x) : ∃ l, l.length = len ∧ RR w l (.slice ao len cap) := by
  have hc1 : Tryd.prog.cellsOf 29 = 2 := by kernel_rfl
  have hc5 : Tryd.prog.cellsOf 27 = 1 := by kernel_rfl
  have hc6 : Tryd.prog.cellsOf 3 = 1 := by kernel_rfl
  rcases DataW.trod_slice Tryd.underlying24 h with ⟨h0, _⟩ | ⟨a, l, c, elems, rest, n, _, hcs, _, _, hl, hm, hlen, hel, _, _⟩
  · simp only [List.cons.injEq, Value.slice.injEq, and_true] at h0
    obtain ⟨rfl, rfl, rfl⟩ := h0
    exact ⟨[], rfl, RR.nil w⟩
  · simp only [List.cons.injEq, Value.slice.injEq, and_true] at hcs
    obtain ⟨rfl, rfl, rfl⟩ := hcs
    rw [hc1] at hel
    have key : ∀ i, i < len → ∃ k : Int × Int, w.cell? ((a.add (i * 2)).add 0) = some (.int .i64 k.1) ∧ w.cell? ((a.add (i * 2)).add 1) = some (.int .u32 k.2) := by
      intro i hi
      have he : elems[i]? = some elems[i] := by simp
      have h1 := (hel i hi).trans he
      rw [Option.bind_eq_some_iff] at h1
      obtain ⟨cs, hcs, hf⟩ := h1
      obtain ⟨_, hcl, hat⟩ := World.cells?_some hcs
      obtain ⟨ys, m, _, _, _, hl, hg⟩ := DataW.trod_struct Tryd.underlying29 hf
      match cs, hcl with
      | [c0, c1], _ =>
        match ys, hl with
        | [y0, y1], _ =>
          have g0 := hg 0 _ rfl
          have g1 := hg 1 _ rfl
          simp [hc5, hc6] at g0 g1
          obtain ⟨n0, e0, _, w0⟩ := DataW.trod_int Tryd.underlying3 g0
          obtain ⟨n1, e1, _, w1⟩ := DataW.trod_int Tryd.underlying27 g1
          simp at e0 e1
          subst e0 e1
          exact ⟨(n0, n1), hat 0 (by omega), hat 1 (by omega)⟩
    obtain ⟨L, hL1, hL2⟩ := list_of (fun j (k : Int × Int) => w.cell? ((a.add (j * 2)).add 0) = some (.int .i64 k.1) ∧ w.cell? ((a.add (j * 2)).add 1) = some (.int .u32 k.2)) len key
    refine ⟨L, hL1, some a, cap, by rw [hL1], fun j k hj => ?_⟩
    obtain ⟨h1, h2⟩ := hL2 j k hj
    obtain ⟨_, h0, _⟩ := key 0 (by have := (List.getElem?_eq_some_iff.1 hj).1; omega)
    obtain ⟨blk, off, spot⟩ := a
    have e0 : ∀ x : Addr, x.add 0 = x := fun x => by simp [Addr.add]
    rw [e0] at h1
    obtain rfl := spot_none (by rw [Nat.zero_mul, e0] at h0; exact h0)
    rw [addr_add] at h1
    rw [addr_add, addr_add] at h2
    exact ⟨blk, off, rfl, World.block_lt_of_cell? w _ h1, h1, h2⟩

/-- A node of the arguments. -/
structure NdV where
  n : No
  ba : Option Addr
  bc : Nat
  ka : Option Addr
  kc : Nat
def NdV.v (q : NdV) : Value := q.n.val q.ba q.bc q.ka q.kc
def NdV.Ok (q : NdV) (w : World) : Prop := BR w q.n.bs (.slice q.ba q.n.bs.length q.bc) ∧ RR w q.n.rs (.slice q.ka q.n.rs.length q.kc)
theorem open_node {r : Reach} {b0 : Nat} {v : Value} {d : DataW H} {p : List MemPlace} (hvv : Value.okWide Tryd.prog w r b0 26 v)
    (h : DataW.Trod enc Tryd.prog w base spare held 26 v d p) : ∃ q : NdV, v = q.v ∧ (q.Ok w ∧ q.n.c.size ∈ d.weights Tryd.prog 26 ∧ q.n.v.size ∈ d.weights Tryd.prog 26 ∧ q.n.p.size ∈ d.weights Tryd.prog 26) := by
  have hc1 : Tryd.prog.cellsOf 26 = 6 := by kernel_rfl
  have hc2 : Tryd.prog.cellsOf 22 = 1 := by kernel_rfl
  have hc3 : Tryd.prog.cellsOf 9 = 1 := by kernel_rfl
  have hc4 : Tryd.prog.cellsOf 23 = 1 := by kernel_rfl
  have hc5 : Tryd.prog.cellsOf 24 = 1 := by kernel_rfl
  obtain ⟨cs, rfl, hsz⟩ := okWide_struct Tryd.underlying26 hvv
  rw [hc1] at hsz
  obtain ⟨l⟩ := cs
  match l, hsz with
  | [c0, c1, c2, c3, c4, c5], _ =>
    obtain ⟨fuel, hf⟩ := h
    obtain ⟨ys, m, _, hx, _, hl, hg⟩ := DataW.trod_struct Tryd.underlying26 hf
    match ys, hl with
    | [y0, y1, y2, y3, y4, y5], _ =>
      have g0 := hg 0 _ rfl
      have g1 := hg 1 _ rfl
      have g2 := hg 2 _ rfl
      have g3 := hg 3 _ rfl
      have g4 := hg 4 _ rfl
      have g5 := hg 5 _ rfl
      simp [Value.cells, hc2, hc3, hc4, hc5] at g0 g1 g2 g3 g4 g5
      obtain ⟨n0, e0, x0, w0⟩ := DataW.trod_int Tryd.underlying22 g0
      obtain ⟨s1, e1, x1, w1⟩ := DataW.trod_string Tryd.underlying9 g1
      obtain ⟨s2, e2, x2, w2⟩ := DataW.trod_string Tryd.underlying9 g2
      obtain ⟨s3, e3, x3, w3⟩ := DataW.trod_string Tryd.underlying9 g3
      simp at e0 e1 e2 e3
      subst e0 e1 e2 e3 x0 x1 x2 x3
      obtain ⟨a4, n4, k4, e4⟩ : ∃ a n k, c4 = .slice a n k := by
        rcases DataW.trod_slice Tryd.underlying23 g4 with ⟨h0, _⟩ | ⟨a, l, c, _, _, _, _, hcs, _⟩
        · simp at h0; exact ⟨_, _, _, h0⟩
        · simp at hcs; exact ⟨_, _, _, hcs⟩
      obtain ⟨a5, n5, k5, e5⟩ : ∃ a n k, c5 = .slice a n k := by
        rcases DataW.trod_slice Tryd.underlying24 g5 with ⟨h0, _⟩ | ⟨a, l, c, _, _, _, _, hcs, _⟩
        · simp at h0; exact ⟨_, _, _, h0⟩
        · simp at hcs; exact ⟨_, _, _, hcs⟩
      subst e4 e5
      obtain ⟨bs, hb1, hb2⟩ := open_bytes g4
      obtain ⟨rs, hr1, hr2⟩ := open_kids g5
      subst hb1 hr1
      refine ⟨⟨⟨n0, s1, s2, s3, bs, rs⟩, a4, k4, a5, k5⟩, rfl, ⟨hb2, hr2⟩, ?_⟩
      have hd : d = .agg [.lit (.int .i64 n0), .lit (.string s1.data.toList), .lit (.string s2.data.toList), .lit (.string s3.data.toList), y4.1, y5.1] := by
        have := congrArg Prod.fst hx
        simpa using this
      rw [hd]
      simp only [DataW.weights, Tryd.underlying26]
      refine ⟨?_, ?_, ?_⟩
      · exact DataW.weights_mem_each (j := 1) rfl rfl _ (by simp [DataW.weights])
      · exact DataW.weights_mem_each (j := 2) rfl rfl _ (by simp [DataW.weights])
      · exact DataW.weights_mem_each (j := 3) rfl rfl _ (by simp [DataW.weights])
/-- A reference of the arguments. -/
def refW (r : Int × Int) : Value := .agg #[.int .i64 r.1, .int .u32 r.2]
theorem open_ref {r : Reach} {b0 : Nat} {v : Value} {d : DataW H} {p : List MemPlace} (hvv : Value.okWide Tryd.prog w r b0 29 v)
    (h : DataW.Trod enc Tryd.prog w base spare held 29 v d p) : ∃ q : Int × Int, v = refW q ∧ True := by
  have hc1 : Tryd.prog.cellsOf 29 = 2 := by kernel_rfl
  have hc5 : Tryd.prog.cellsOf 27 = 1 := by kernel_rfl
  have hc6 : Tryd.prog.cellsOf 3 = 1 := by kernel_rfl
  obtain ⟨cs, rfl, hsz⟩ := okWide_struct Tryd.underlying29 hvv
  rw [hc1] at hsz
  obtain ⟨l⟩ := cs
  match l, hsz with
  | [c0, c1], _ =>
    obtain ⟨fuel, hf⟩ := h
    obtain ⟨ys, m, _, hx, _, hl, hg⟩ := DataW.trod_struct Tryd.underlying29 hf
    match ys, hl with
    | [y0, y1], _ =>
      have g0 := hg 0 _ rfl
      have g1 := hg 1 _ rfl
      simp [Value.cells, hc5, hc6] at g0 g1
      obtain ⟨n0, e0, _, w0⟩ := DataW.trod_int Tryd.underlying3 g0
      obtain ⟨n1, e1, _, w1⟩ := DataW.trod_int Tryd.underlying27 g1
      simp at e0 e1
      subst e0 e1
      exact ⟨(n0, n1), rfl, trivial⟩
end
theorem rm_of_head {W : World} {rest : List (String × DataW Unit)} (h : laidMet Tryd.prog (("burgage/node.rooms", Rows.laid_burgage_node_rooms) :: rest) W) : Rm W :=
  Lib.tabIs_of_head (g := 0) (t := 63) (e := 3) (n := 6) (by kernel_rfl) (by kernel_rfl) Tryd.underlying63 Tryd.underlying3 (by kernel_rfl) (by kernel_rfl) h
theorem rm_of_back {W : World} (h : laidMetH Tryd.prog Rows.nodeBackRow.laid W) : Rm W := rm_of_head h
theorem rm_of_grows {W : World} (h : laidMetH Tryd.prog Rows.nodeGrowsRow.laid W) : Rm W := rm_of_head h

end Go.Proofs.YtjaijomkdgoenaaDoor.Nd
