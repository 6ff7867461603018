/- A table's copy. -/
import Derived.Test.YtioacpcmcnjgaaaFew2
import Derived.Deep.MidRow
import Derived.Deep.WholeRow
namespace Go.Proofs.Ytioacpcmcnjgaaa
open Go.RowKit
set_option maxRecDepth 100000
set_option maxHeartbeats 2000000

/-- The cells of a row. -/
def cellsAt (W : World) (q : Nat) : List Value := (List.range 50).map fun j => (W.cell? ⟨q, j, none⟩).getD undef
theorem cellsAt_length (W : World) (q : Nat) : (cellsAt W q).length = 50 := by simp [cellsAt]
theorem cellsAt_get {W : World} {q : Nat} {l : List En} {room : Nat} (h : RowAt W q l room) (j : Nat) (hj : j < 50) : (cellsAt W q)[j]? = W.cell? ⟨q, j, none⟩ := by
  obtain ⟨v, hv, _⟩ := h.any j hj
  simp [cellsAt, List.getElem?_map, List.getElem?_range hj, hv]
theorem cellsAt_one {W : World} {q : Nat} {l : List En} {room : Nat} (h : RowAt W q l room) : (cellsAt W q).toArray.all (·.oneCell') = true := by
  rw [List.all_toArray, List.all_eq_true]
  intro v hv
  obtain ⟨j, hj, rfl⟩ := List.mem_map.1 hv
  obtain ⟨v, h1, h2⟩ := h.any j (List.mem_range.1 hj)
  rw [h1]; exact h2
theorem row_copy {W W' : World} {q q' : Nat} {l : List En} {room : Nat} {T : TypeId} (h : RowAt W q l room) (hf : Fresh W' q' (cellsAt W q).toArray T) : RowAt W' q' l room := by
  have hl := h.len
  have hc : ∀ j, j < 50 → W'.cell? ⟨q', j, none⟩ = W.cell? ⟨q, j, none⟩ := fun j hj => by
    rw [hf.cell, List.getElem?_toArray, cellsAt_get h j hj]
  exact ⟨hl, fun j hj => by rw [hc _ (by omega), h.byte j hj], fun j hj => by rw [hc _ (by omega), h.slot j hj], fun j hj => by rw [hc _ (by omega), h.gen j hj], by rw [hc _ (by omega), h.n], by rw [hc _ (by omega), h.room], fun j hj => by rw [hc _ hj]; exact h.any j hj, fun j _ => hf.thawed j⟩
theorem range_row {W : World} {q : Nat} {l : List En} {room : Nat} (h : RowAt W q l room) : W.rangeAt q 0 (cellsAt W q) := fun j v hj => by
  have hlt : j < 50 := by rw [← cellsAt_length W q]; exact (List.getElem?_eq_some_iff.1 hj).1
  rw [Nat.zero_add, ← cellsAt_get h j hlt, hj]
theorem step_load_row {ops : Array Oper} {rest : List Oper} {op : Oper} {a : Act} {w : World} {Q : Exit → Act → World → Prop} (hgd : op.guard = none) (x : Operand) (ho : op.op = .load 66 x)
    (q : Nat) (cs : List Value) (hx : a.eval x = .pointer (some ⟨q, 0, none⟩)) (hc : w.rangeAt q 0 cs) (hl : cs.length = 50)
    (h : wpList Try.prog ops Q rest (a.put op.dst (.agg cs.toArray)) w) : wpList Try.prog ops Q (op :: rest) a w :=
  wpList_load_mid hgd 66 x ho q 0 hx cs _ hc Try.underlying66 rfl (by rw [hl]; rfl) h
theorem step_store_row {ops : Array Oper} {rest : List Oper} {op : Oper} {a : Act} {w : World} {Q : Exit → Act → World → Prop} (hgd : op.guard = none) (x y : Operand) (ho : op.op = .store 66 x y)
    (cs : List Value) (hx : a.eval x = .pointer (some ⟨w.heap.size, 0, none⟩)) (hy : a.eval y = .agg cs.toArray) (hl : cs.length = 50) (h1 : cs.toArray.all (·.oneCell') = true)
    (h : wpList Try.prog ops Q rest (a.put op.dst undef) (w.alloc (.cells cs.toArray 66))) : wpList Try.prog ops Q (op :: rest) a (w.alloc (.cells (row0 0) 66)) :=
  wpList_plain hgd fun _ hK => by
    unfold Oper.wp execOp
    simp only [ho, hx, hy, Sem.run_bind, run_storeAt_new (P := Try.prog) w 66 (row0 0) cs.toArray (by rw [List.size_toArray, hl]; rfl) (by show 50 = _; rw [List.size_toArray, hl]) h1]
    exact hK _ _ h
theorem copy_any {W : World} {p q : Nat} {l : List En} {room : Nat} (h : FewAt W p q l room) :
    Calls Try.prog 20 #[.pointer (some ⟨p, 0, none⟩)] W fun e w' => e = .returned (.pointer (some ⟨W.heap.size + 1, 0, none⟩)) ∧ Below W.heap.size W w' ∧ FewAt w' (W.heap.size + 1) W.heap.size l room := by
  have p0 := h.ptr
  have HN := Lib.hid (isNil_any h)
  obtain ⟨cs, hcs⟩ : ∃ cs, cellsAt W q = cs := ⟨_, rfl⟩
  have HR : Hid (W.rangeAt q 0 cs) := by rw [← hcs]; exact range_row h.row
  have HO : Hid (cs.length = 50 ∧ cs.toArray.all (·.oneCell') = true) := by rw [← hcs]; exact ⟨cellsAt_length W q, cellsAt_one h.row⟩
  have HH := Lib.hid h
  have HC := Lib.hid hcs
  clear h hcs
  go_enter Try.func20, Try.ntmps20
  go_wp2_with (first
    | (go_at_call 29; refine HN.out.mono ?_; rintro e w1 ⟨rfl, hw⟩; replace hw := hw.symm; subst hw)
    | (refine step_load_row rfl (.tmp 10) rfl q cs rfl HR.out HO.out.1 ?_)
    | (refine step_store_row rfl (.tmp 3) (.tmp 11) rfl cs rfl rfl HO.out.1 HO.out.2 ?_))
  go_ret
  have low : Below W.heap.size W ((W.alloc (.cells cs.toArray 66)).alloc (.cells #[.pointer (some ⟨W.heap.size, 0, none⟩)] 49)) := Below.new (Below.new (Below.refl _ _) _) _
  refine ⟨rfl, low, ((Fresh.new _ _ _ _ (by simp)).cell 0).trans rfl, row_copy (T := 66) HH.out.row ?_, by omega⟩
  rw [HC.out]
  exact (Fresh.new _ _ _ _ rfl).alloc _
end Go.Proofs.Ytioacpcmcnjgaaa
