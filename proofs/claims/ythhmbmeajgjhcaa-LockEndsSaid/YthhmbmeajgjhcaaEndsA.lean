/- Rows of operations that the law itself makes. -/
import Derived.Test.YthhmbmeajgjhcaaNilL
import Derived.Great.BuildSlice
namespace Go.Proofs.Ythhmbmeajgjhcaa
open Go.RowKit
set_option maxRecDepth 100000
set_option maxHeartbeats 4000000

structure Dq where
  c : Int
  x : Int
  g : Int
  v : Int
def Dq.cells (t : Dq) : List Value := [.int .i64 t.c, .int .i64 t.x, .int .u32 t.g, .int .u64 t.v]
def Dq.Ok (t : Dq) : Prop := RefOk t.x t.g ∧ W64 t.v
def dqc (l : List Dq) : List Value := l.flatMap Dq.cells
theorem dqc_length (l : List Dq) : (dqc l).length = l.length * 4 := by
  induction l with
  | nil => rfl
  | cons t l ih => simp only [dqc, List.flatMap_cons, List.length_append, List.length_cons] at *; rw [ih]; simp only [Dq.cells, List.length_cons, List.length_nil]; omega
theorem dqc_append (l k : List Dq) : dqc (l ++ k) = dqc l ++ dqc k := by simp [dqc]
theorem dqc_one (l : List Dq) : ∀ u ∈ dqc l, u.oneCell' = true := by
  intro u hu
  obtain ⟨t, _, h⟩ := List.mem_flatMap.1 hu
  simp [Dq.cells] at h
  rcases h with rfl | rfl | rfl | rfl <;> rfl
theorem dqc_at : ∀ (l : List Dq) (i : Nat) (t : Dq), l[i]? = some t → (dqc l)[i * 4]? = some (.int .i64 t.c) ∧ (dqc l)[i * 4 + 1]? = some (.int .i64 t.x) ∧ (dqc l)[i * 4 + 2]? = some (.int .u32 t.g) ∧ (dqc l)[i * 4 + 3]? = some (.int .u64 t.v)
  | [], _, _, h => by simp at h
  | x :: l, 0, t, h => by simp at h; subst h; exact ⟨rfl, rfl, rfl, rfl⟩
  | x :: l, i + 1, t, h => by
    obtain ⟨a, b, c, d⟩ := dqc_at l i t (by simpa using h)
    refine ⟨?_, ?_, ?_, ?_⟩
    · rw [show (i + 1) * 4 = i * 4 + 4 from by omega]; exact a
    · rw [show (i + 1) * 4 + 1 = i * 4 + 1 + 4 from by omega]; exact b
    · rw [show (i + 1) * 4 + 2 = i * 4 + 2 + 4 from by omega]; exact c
    · rw [show (i + 1) * 4 + 3 = i * 4 + 3 + 4 from by omega]; exact d
abbrev TD : TypeId := 37
theorem infoD : ∃ (i0 : TypeInfo) (z : Value), Try.prog.info? TD = some i0 ∧ i0.zero = some z ∧ i0.size = 4 ∧ i0.bytes = 32 ∧ z.cells.size = 4 := by
  have h : (Try.prog.info? TD).map (fun i => (i.zero.map (fun z => z.cells.size), i.size, i.bytes)) = some (some 4, 4, 32) := by kernel_rfl
  cases hi : Try.prog.info? TD with
  | none => rw [hi] at h; simp at h
  | some i0 =>
    rw [hi] at h
    simp only [Option.map_some, Option.some.injEq, Prod.mk.injEq] at h
    obtain ⟨h1, h2, h3⟩ := h
    cases hz : i0.zero with
    | none => rw [hz] at h1; simp at h1
    | some z =>
      rw [hz] at h1
      exact ⟨i0, z, rfl, hz, h2, h3, by simpa using h1⟩
theorem deeds_of {W : World} {C n : Nat} {a : Option Addr} {c : Nat} {l : List Dq} (h : W.ownsRow C TD 4 (.slice a n c) n (dqc l)) (hn : l.length = n) (h63 : n ≤ 9223372036854775807) (ho : ∀ t ∈ l, t.Ok) : IsDeeds W a n := by
  refine ⟨h63, ?_⟩
  have h' := h
  obtain ⟨h1, h2⟩ := h
  rcases h2 with ⟨_, h3⟩ | ⟨g, cap, cur, e, h4, h5, h6, h7, h8, h9⟩
  · exact .inl h3
  · simp only [Value.slice.injEq] at e
    obtain ⟨rfl, _, rfl⟩ := e
    refine .inr ⟨g, 0, rfl, (Array.getElem?_eq_some_iff.1 h5).1, fun i hi => ?_⟩
    obtain ⟨t, ht⟩ : ∃ t, l[i]? = some t := ⟨l[i]'(by omega), List.getElem?_eq_getElem (by omega)⟩
    have hc := World.ownsRow.cells (g := g) h' rfl
    obtain ⟨a0, a1, a2, a3⟩ := dqc_at l i t ht
    have b0 := hc _ _ a0
    have b1 := hc _ _ a1
    have b2 := hc _ _ a2
    have b3 := hc _ _ a3
    simp only [Addr.add_lit] at b0 b1 b2 b3
    obtain ⟨o1, o2⟩ := ho t (List.mem_of_getElem? ht)
    exact ⟨t.c, t.x, t.g, t.v, o1, o2, b0, b1, b2, b3⟩
theorem row_new {W : World} {B p : Nat} {e : TypeId} {n z : Nat} (xs : List Value) (hp : W.heap.size = p) (hB : B ≤ p) (hx : xs.length = n * z) (hn : n ≤ maxLen) : (W.alloc (.cells xs.toArray e)).ownsRow B e z (.slice (some ⟨p, 0, none⟩) n n) n xs := by
  subst hp
  exact ⟨hx, .inr ⟨W.heap.size, n, xs.toArray, rfl, hB, heap_alloc_new W _, Nat.le_refl _, hn, by simpa using hx, by rw [← hx]; simp⟩⟩
theorem infoD0 : ∃ i0 : TypeInfo, Try.prog.info? TD = some i0 ∧ i0.zero = some (.agg #[.int .i64 0, .int .i64 0, .int .u32 0, .int .u64 0]) ∧ i0.size = 4 := by
  have h : (Try.prog.info? TD).map (fun i => (i.zero, i.size)) = some (some (.agg #[.int .i64 0, .int .i64 0, .int .u32 0, .int .u64 0]), 4) := by kernel_rfl
  cases hi : Try.prog.info? TD with
  | none => rw [hi] at h; simp at h
  | some i0 =>
    rw [hi] at h
    simp only [Option.map_some, Option.some.injEq, Prod.mk.injEq] at h
    exact ⟨i0, rfl, h.1, h.2⟩
def Dq.val (t : Dq) : Value := .agg t.cells.toArray
theorem vals_cells (l : List Dq) : ((l.map Dq.val).flatMap fun v => v.cells.toList) = dqc l := by
  induction l with
  | nil => rfl
  | cons t l ih => rw [List.map_cons, List.flatMap_cons, ih]; rfl
/-- A slice literal of operations, at a step of a region that draws its order. -/
theorem step_build {w : World} {ops : Array Oper} {o : Oper} {a : Act} {K : Act → World → Prop} {Q : Exit → Act → World → Prop} {E : Prop} (hgd : o.guard = none) (len : Nat) (parts : Array (Nat × Operand)) (ho : o.op = .buildSlice 22 len parts)
    (l : List Dq) (hsmall : len * 4 ≤ 2 ^ 24) (hpos : 0 < len) (hlen : l.length = len)
    (hp : (parts.map fun (i, x) => (i, a.eval x)).toList = ((l.map Dq.val).zipIdx 0).map fun x => (x.2, x.1))
    (h : K (a.put o.dst (.slice (some ⟨w.heap.size, 0, none⟩) len len)) (w.alloc (.cells (dqc l).toArray TD))) :
    if Region.wanted o (yielded ops a.tmps) = true then Oper.wp Try.prog o a w K Q else E := by
  have hw : Region.wanted o (yielded ops a.tmps) = true := by simp [Region.wanted, hgd]
  rw [if_pos hw]
  obtain ⟨i0, hi, hz, hs⟩ := infoD0
  refine wp_buildSlice _ TD len parts ho (dqc l).toArray i0 _ Try.underlying22 hi hz (by rw [hs]; omega) (by rw [hs]; omega) ?_ h
  rw [hp, hs, ← vals_cells]
  exact Great.fill_whole (by decide) _ _ (fun v hv => by obtain ⟨t, _, rfl⟩ := List.mem_map.1 hv; rfl) (by simp [hlen])
theorem ref01 : RefOk 0 1 := by constructor <;> decide
end Go.Proofs.Ythhmbmeajgjhcaa
