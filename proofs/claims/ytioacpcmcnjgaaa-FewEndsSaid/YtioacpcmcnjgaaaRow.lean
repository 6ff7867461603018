/- The row of a table: bytes that rise, and their references. -/
import Derived.Test.YtioacpcmcnjgaaaFr
import Derived.Laws.IdiomCopy
namespace Go.Proofs.Ytioacpcmcnjgaaa
open Go.RowKit
set_option maxRecDepth 100000

/-- A byte, and the two numbers of its reference. -/
abbrev En := UInt8 × Int × Int
structure RowAt (W : World) (q : Nat) (l : List En) (room : Nat) : Prop where
  len : l.length ≤ 16
  byte : ∀ j (h : j < l.length), W.cell? ⟨q, j, none⟩ = some (.int .u8 (l[j].1.toNat : Int))
  slot : ∀ j (h : j < l.length), W.cell? ⟨q, 16 + j * 2, none⟩ = some (.int .i64 l[j].2.1)
  gen : ∀ j (h : j < l.length), W.cell? ⟨q, 16 + j * 2 + 1, none⟩ = some (.int .u32 l[j].2.2)
  n : W.cell? ⟨q, 48, none⟩ = some (.int .i64 (l.length : Int))
  room : W.cell? ⟨q, 49, none⟩ = some (.int .i64 (room : Int))
  any : ∀ j, j < 50 → ∃ v, W.cell? ⟨q, j, none⟩ = some v ∧ v.oneCell' = true
  thaw : ∀ j, j < 50 → W.frozen? ⟨q, j, none⟩ = false

theorem cell_same {W W' : World} {p : Addr} (h : W'.heap[p.block]? = W.heap[p.block]?) : W'.cell? p = W.cell? p := by simp [World.cell?, h]
theorem frozen_same {W W' : World} {p : Addr} (h : W'.heap[p.block]? = W.heap[p.block]?) : W'.frozen? p = W.frozen? p := by simp [World.frozen?, h]
theorem cell_lt {W : World} {p : Addr} {v : Value} (h : W.cell? p = some v) : p.block < W.heap.size := by
  rcases Nat.lt_or_ge p.block W.heap.size with h1 | h1
  · exact h1
  · simp [World.cell?, Array.getElem?_eq_none h1] at h
theorem cell_row {W : World} {p : Addr} {v : Value} (h : W.cell? p = some v) {o : Obj} (ho : W.heap[p.block]? = some o) : o.isCells = true := by
  unfold World.cell? at h
  rw [ho] at h
  cases o <;> simp_all [Obj.isCells]
theorem kept_block {W W' : World} {row : Option Nat} {p : Addr} {v : Value} (h : W.cell? p = some v) (hg : W.grownBy W' row) (hr : ∀ r, row = some r → ∃ o : Obj, W.heap[r]? = some o ∧ o.isCells = false) : W'.heap[p.block]? = W.heap[p.block]? := by
  refine hg.block _ (cell_lt h) ?_
  intro e
  obtain ⟨o, ho, hc⟩ := hr _ e.symm
  have := cell_row h ho
  rw [hc] at this
  cases this
theorem RowAt.lt {W : World} {q : Nat} {l : List En} {room : Nat} (h : RowAt W q l room) : q < W.heap.size := cell_lt h.n
theorem RowAt.same {W W' : World} {q : Nat} {l : List En} {room : Nat} (h : RowAt W q l room) (e : W'.heap[q]? = W.heap[q]?) : RowAt W' q l room where
  len := h.len
  byte j hj := (cell_same (p := ⟨q, j, none⟩) e).trans (h.byte j hj)
  slot j hj := (cell_same (p := ⟨q, _, none⟩) e).trans (h.slot j hj)
  gen j hj := (cell_same (p := ⟨q, _, none⟩) e).trans (h.gen j hj)
  n := (cell_same (p := ⟨q, _, none⟩) e).trans h.n
  room := (cell_same (p := ⟨q, _, none⟩) e).trans h.room
  any j hj := by
    obtain ⟨v, h1, h2⟩ := h.any j hj
    exact ⟨v, (cell_same (p := ⟨q, j, none⟩) e).trans h1, h2⟩
  thaw j hj := (frozen_same (p := ⟨q, j, none⟩) e).trans (h.thaw j hj)
theorem RowAt.below {W W' : World} {q : Nat} {l : List En} {room : Nat} (h : RowAt W q l room) (hb : Below W.heap.size W W') : RowAt W' q l room := h.same (hb.block q h.lt)
theorem RowAt.turned {S : List Nat} {W W' : World} {q : Nat} {l : List En} {room : Nat} (h : RowAt W q l room) (ht : Turned S W W') (hn : q ∉ S) : RowAt W' q l room := h.same (ht.block q h.lt hn)
theorem RowAt.kept {W W' : World} {row : Option Nat} {q : Nat} {l : List En} {room : Nat} (h : RowAt W q l room) (hg : W.grownBy W' row) (hr : ∀ r, row = some r → ∃ o : Obj, W.heap[r]? = some o ∧ o.isCells = false) : RowAt W' q l room := h.same (kept_block h.n hg hr)

/-- A cell behind a stretch of stores. -/
theorem cell_many {W : World} {b o : Nat} {vs : List Value} (h : ∀ j, j < vs.length → (W.cell? ⟨b, o + j, none⟩).isSome = true) (k : Nat) :
    (W.setCells b o vs).cell? ⟨b, k, none⟩ = if o ≤ k ∧ k - o < vs.length then vs[k - o]? else W.cell? ⟨b, k, none⟩ := by
  by_cases hk : o ≤ k ∧ k - o < vs.length
  · rw [if_pos hk]
    have := World.cell?_setCells_in b vs o W h (k - o) hk.2
    rw [show o + (k - o) = k from by omega] at this
    rw [this, List.getElem?_eq_getElem hk.2]
  · rw [if_neg hk]
    exact World.cell?_setCells_out b vs o W _ (fun _ _ => by
      show k < o ∨ o + vs.length ≤ k
      omega)
theorem Turned.setCells {S : List Nat} {W W' : World} (b : Nat) (hb : b ∈ S ∨ W.heap.size ≤ b) : ∀ (vs : List Value) (o : Nat), Turned S W W' → Turned S W (W'.setCells b o vs)
  | [], _, h => h
  | v :: r, o, h => by
    rw [World.setCells]
    have h2 : Turned S W (W'.setCell ⟨b, o, none⟩ v) := h.setCell hb o v
    exact Turned.setCells b hb r (o + 1) h2
theorem cell_one {W : World} {b o : Nat} {v : Value} (h : (W.cell? ⟨b, o, none⟩).isSome = true) (k : Nat) :
    (W.setCell ⟨b, o, none⟩ v).cell? ⟨b, k, none⟩ = if k = o then some v else W.cell? ⟨b, k, none⟩ := by
  by_cases hk : k = o
  · subst hk; rw [if_pos rfl]; exact World.cell?_setCell_same' _ _ _ h
  · rw [if_neg hk]; exact World.cell?_setCell_other _ _ _ _ (by intro e; cases e; exact hk rfl)

/-- 'copy' of elements of any size. -/
theorem run_copy_size {P : Program} (w : World) (dT sT ty elem : TypeId) (z b o dLen dCap : Nat) (a : Addr) (sLen sCap : Nat) (cs : List Value) (k : Nat)
    (hu : P.underlying dT = some (.slice elem)) (hs : (P.info? elem).map (·.size) = some z) (hk : k = Nat.min sLen dLen) (hn : cs.length = k * z)
    (hsrc : ∀ j v, cs[j]? = some v → w.cell? (a.add j) = some v) (hc : ∀ j, j < cs.length → (w.cell? ⟨b, o + j, none⟩).isSome = true) (hf : ∀ j, j < cs.length → w.frozen? ⟨b, o + j, none⟩ = false) (h1 : ∀ v ∈ cs, v.oneCell' = true) :
    (Builtin.copy_ #[dT, sT] ty #[.slice (some ⟨b, o, none⟩) dLen dCap, .slice (some a) sLen sCap]).run P w = .ok (goInt k) (w.setCells b o cs) := by
  have hl := run_loadCells_list (P := P) w a cs hsrc
  have hst := run_storeCells_cells (P := P) b o cs 0 w (by simpa using hc) (by simpa using hf) h1
  rw [hn] at hl
  cases hq : P.info? elem with
  | none => simp [hq] at hs
  | some i =>
    have hi : i.size = z := by simpa [hq] using hs
    simp [Builtin.copy_, run_underlying hu, Builtin.lenOf, Builtin.firstCells, sizeOf, typeInfo, hq, hi, ← hk, hl, hst]
end Go.Proofs.Ytioacpcmcnjgaaa
