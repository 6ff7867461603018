/- Texts of stage 9, merged: FwCopyF, FwEachF, FwAllF, FwKeepT. -/
import Derived.Test.YtjaijomkdgoenaaDoorFwFew2
import Derived.Deep.MidRow
import Derived.Deep.WholeRow
import Derived.Test.YtjaijomkdgoenaaDoorSeqOwn
import Derived.OwnWalkIn
import Derived.TacticsInMore
import Derived.LoopNIn
import Derived.LoopIn
import Derived.TacticsIn
import Derived.Test.YtjaijomkdgoenaaDoorMix
import Derived.Shelf.Abstract
import Derived.Shelf.RegionOpen
/- A table's copy. -/
namespace Go.Proofs.YtjaijomkdgoenaaDoor.Fw
open Go.RowKit
set_option maxRecDepth 100000
set_option maxHeartbeats 2000000

/-- The cells of a row. -/
def cellsAt (W : World) (q : Nat) : List Value := (List.range 50).map fun j => (W.cell? ⟨q, j, none⟩).getD undef
theorem cellsAt_length (W : World) (q : Nat) : (cellsAt W q).length = 50 := by simp [cellsAt]
theorem cellsAt_get {W : World} {q : Nat} {l : List En} {room : Nat} (h : RowAt W q l room) (j : Nat) (hj : j < 50) : (cellsAt W q)[j]? = W.cell? ⟨q, j, none⟩ := by
  obtain ⟨v, hv, _⟩ := h.any j hj
  simp [cellsAt, List.getElem?_map, List.getElem?_range hj, hv]
theorem cellsAt_one {W : World} {q : Nat} {l : List En} {room : Nat} (h : RowAt W q l room) : (cellsAt W q).toArray.all (·.oneCell') = true := by
  rw [List.all_toArray, List.all_eq_true]
  intro v hv
  obtain ⟨j, hj, rfl⟩ := List.mem_map.1 hv
  obtain ⟨v, h1, h2⟩ := h.any j (List.mem_range.1 hj)
  rw [h1]; exact h2
theorem row_copy {W W' : World} {q q' : Nat} {l : List En} {room : Nat} {T : TypeId} (h : RowAt W q l room) (hf : Fresh W' q' (cellsAt W q).toArray T) : RowAt W' q' l room := by
  have hl := h.len
  have hc : ∀ j, j < 50 → W'.cell? ⟨q', j, none⟩ = W.cell? ⟨q, j, none⟩ := fun j hj => by
    rw [hf.cell, List.getElem?_toArray, cellsAt_get h j hj]
  exact ⟨hl, fun j hj => by rw [hc _ (by omega), h.byte j hj], fun j hj => by rw [hc _ (by omega), h.slot j hj], fun j hj => by rw [hc _ (by omega), h.gen j hj], by rw [hc _ (by omega), h.n], by rw [hc _ (by omega), h.room], fun j hj => by rw [hc _ hj]; exact h.any j hj, fun j _ => hf.thawed j⟩
theorem range_row {W : World} {q : Nat} {l : List En} {room : Nat} (h : RowAt W q l room) : W.rangeAt q 0 (cellsAt W q) := fun j v hj => by
  have hlt : j < 50 := by rw [← cellsAt_length W q]; exact (List.getElem?_eq_some_iff.1 hj).1
  rw [Nat.zero_add, ← cellsAt_get h j hlt, hj]
theorem step_load_row {ops : Array Oper} {rest : List Oper} {op : Oper} {a : Act} {w : World} {Q : Exit → Act → World → Prop} (hgd : op.guard = none) (x : Operand) (ho : op.op = .load 84 x)
    (q : Nat) (cs : List Value) (hx : a.eval x = .pointer (some ⟨q, 0, none⟩)) (hc : w.rangeAt q 0 cs) (hl : cs.length = 50)
    (h : wpList Tryd.prog ops Q rest (a.put op.dst (.agg cs.toArray)) w) : wpList Tryd.prog ops Q (op :: rest) a w :=
  wpList_load_mid hgd 84 x ho q 0 hx cs _ hc Tryd.underlying84 rfl (by rw [hl]; rfl) h
theorem step_store_row {ops : Array Oper} {rest : List Oper} {op : Oper} {a : Act} {w : World} {Q : Exit → Act → World → Prop} (hgd : op.guard = none) (x y : Operand) (ho : op.op = .store 84 x y)
    (cs : List Value) (hx : a.eval x = .pointer (some ⟨w.heap.size, 0, none⟩)) (hy : a.eval y = .agg cs.toArray) (hl : cs.length = 50) (h1 : cs.toArray.all (·.oneCell') = true)
    (h : wpList Tryd.prog ops Q rest (a.put op.dst undef) (w.alloc (.cells cs.toArray 84))) : wpList Tryd.prog ops Q (op :: rest) a (w.alloc (.cells (row0 0) 84)) :=
  wpList_plain hgd fun _ hK => by
    unfold Oper.wp execOp
    simp only [ho, hx, hy, Sem.run_bind, run_storeAt_new (P := Tryd.prog) w 84 (row0 0) cs.toArray (by rw [List.size_toArray, hl]; rfl) (by show 50 = _; rw [List.size_toArray, hl]) h1]
    exact hK _ _ h
end Go.Proofs.YtjaijomkdgoenaaDoor.Fw

/- The iterator over a row. -/
namespace Go.Proofs.YtjaijomkdgoenaaDoor.Fw
open Go.RowKit
attribute [local go_sem] Oper.semAt_some
set_option maxRecDepth 100000
set_option maxHeartbeats 2000000

/-- What a row yields at an entry. -/
def enV (x : En) : Array Value := #[.int .u8 (x.1.toNat : Int), refV x.2.1 x.2.2]
theorem each1_in (n : Nat) (hn : 1 ≤ n) (l0 Bw q room : Nat) (l : List En) (S : List Nat) (J Jx : List En → World → Prop)
    (hY : ∀ (k : Nat) (h : k < l.length) (W : World), J (l.take k) W → YieldAt Fence.wide (n - 1) Tryd.prog l0 (enV l[k]) W fun e W' =>
      (e = .returned (.bool true) ∧ J (l.take k ++ [l[k]]) W' ∧ Turned S W W') ∨ (e = .returned (.bool false) ∧ Jx (l.take k ++ [l[k]]) W'))
    (hAB : ∀ s X Y, Below X.heap.size X Y → J s X → J s Y)
    (W : World) (hR : RowAt W q l room) (hw : W.cell? ⟨Bw, 0, none⟩ = some (.pointer (some ⟨q, 0, none⟩))) (hq : q ∉ S) (hb : Bw ∉ S) (h0 : J [] W) :
    CallsIn Fence.wide n Tryd.prog 94 #[.func (.yield l0) #[] #[], .pointer (some ⟨Bw, 0, none⟩)] W fun e W' => (∃ v, e = .returned v) ∧
      (J l W' ∨ (∃ k, k < l.length ∧ Jx (l.take (k + 1)) W')) := by
  have h48 := hR.n
  have hlen := hR.len
  obtain ⟨m, hm⟩ : ∃ m, l.length = m := ⟨_, rfl⟩
  rw [hm] at h48 hlen
  have m0 : (0 : Int) ≤ (m : Int) := Int.natCast_nonneg _
  have m1 : (m : Int) ≤ 16 := by omega
  have HR := Lib.hid hR
  have HM := Lib.hid hm
  have HY := Lib.hid hY
  have HAB := Lib.hid hAB
  have HW := Lib.hid hw
  have H0 := Lib.hid h0
  have HS := Lib.hid (And.intro hq hb)
  have hbl : Hid (Bw < W.heap.size) := cell_lt hw
  clear hR hm hY hAB h0 hlen
  refine callsIn_of_wp Tryd.func94 rfl trivial ?_ rfl
  simp only [Tryd.ntmps94, List.size_toArray, List.length_cons, List.length_nil, Nat.reduceAdd, Nat.reduceSub, Array.replicate_succ, Array.replicate_zero, List.push_toArray, List.append_toArray, List.nil_append, List.cons_append]
  gi_wp2
  refine wpIn_wide.2 ?_
  go_region
  clear hw h48
  gi_wp2
  gi_loopw [14] (fun i wr => ∃ k : Nat, k ≤ m ∧ i = .int .i64 k ∧ J (l.take k) wr ∧ Turned S W wr) (fun i _ => m - (intOf i).toNat)
  case atStart => exact ⟨0, by omega, rfl, HAB.out _ _ _ ((Below.refl _ _).drew) H0.out, (Turned.refl _ _).drew⟩
  case round =>
    obtain ⟨k, hk, rfl, hJ, hT⟩ := hrel
    by_cases hlt : k < m
    · have kl : (k : Int) < (m : Int) := by omega
      have k0 : (0 : Int) ≤ (k : Int) := by omega
      have k16 : (k : Int) < 16 := by omega
      have kd : decide (k < m) = true := decide_eq_true hlt
      have hkl : k < l.length := by have := HM.out; omega
      have hRk := HR.out.turned hT HS.out.1
      have hwk : wr.cell? ⟨Bw, 0, none⟩ = some (.pointer (some ⟨q, 0, none⟩)) := (cell_same (p := ⟨Bw, 0, none⟩) (hT.block Bw hbl.out HS.out.2)).trans HW.out
      have hc := hRk.byte k hkl
      have hs := hRk.slot k hkl
      have hg := hRk.gen k hkl
      obtain ⟨fn, tmps, asg, body, hy, hRd⟩ := HY.out k hkl wr hJ
      obtain ⟨x, hx⟩ : ∃ x, l[k] = x := ⟨_, rfl⟩
      rw [hx] at hc hs hg hy hRd
      unfold enV at hy
      have hx2 : l.take k ++ [x] = l.take (k + 1) := by rw [← hx]; exact (List.take_succ_eq_append_getElem hkl).symm
      rw [hx2] at hRd
      have HRd := Lib.hid hRd
      have HT := Lib.hid hT
      have HK := Lib.hid hkl
      clear hRk hRd hx hx2 hJ hT hk hkl
      gi_wp2
      refine HRd.out.mono ?_
      rintro e W3 (⟨rfl, hJ3, hT3⟩ | ⟨rfl, hJx⟩)
      · have H3 := Lib.hid (And.intro hJ3 (HT.out.trans hT3))
        clear hJ3 hT3
        gi_wp2
        go_roundw
        case rel => exact ⟨k + 1, by omega, by go_num, H3.out⟩
        case measure => simp [intOf] <;> omega
      · have H3 := Lib.hid hJx
        clear hJx
        gi_wp2
        refine bodyPost_ret (results_none rfl _ _ _) rfl ?_
        exact ⟨⟨_, rfl⟩, .inr ⟨k, HK.out, H3.out⟩⟩
    · obtain rfl : k = m := by omega
      have H3 : Hid (J l wr) := by
        have := hJ
        rw [List.take_of_length_le (by have := HM.out; omega)] at this
        exact this
      clear hJ hT
      gi_wp2
      go_end0
      exact ⟨⟨_, rfl⟩, .inl H3.out⟩

/-- What is yielded: the entries, in order. -/
def NextE (l : List En) (pre : List En) : Prop := ∃ k, ∃ h : k < l.length, pre = l.take k ++ [l[k]'h]
theorem each_own (n : Nat) (hn : 1 ≤ n) (Bw q room : Nat) (l : List En) (S : List Nat) (w : World) (hR : RowAt w q l room) (hw : w.cell? ⟨Bw, 0, none⟩ = some (.pointer (some ⟨q, 0, none⟩))) (hq : q ∉ S) (hb : Bw ∉ S) :
    SeqOwn Fence.wide n Tryd.prog 94 #[.pointer (some ⟨Bw, 0, none⟩)] enV (Turned S) (fun xs => xs = l) (fun pre => ∃ k, k < l.length ∧ pre = l.take (k + 1)) (NextE l) w := fun l0 J Jx W hW _ hJ hJx hY h0 => by
  have := each1_in n hn l0 Bw q room l S J Jx
    (fun k hk W hj => by
      obtain ⟨fn, tmps, asg, body, e, hRd⟩ := hY (l.take k) l[k] W ⟨k, hk, rfl⟩ hj
      refine ⟨fn, tmps, asg, body, e, hRd.mono ?_⟩
      rintro e W' ⟨hB, ⟨rfl, hJ2⟩ | ⟨rfl, hJ2⟩⟩
      · exact .inl ⟨rfl, hJ2, hB⟩
      · exact .inr ⟨rfl, hJ2⟩)
    (fun s X Y hB hj => hJ s X Y none hj ⟨hB.os, hB.tape, hB.output, hB.size, fun k hk _ => hB.block k hk⟩ (fun r e => by cases e))
    W (hR.below hW) ((hW.cell (p := ⟨Bw, 0, none⟩) (cell_lt hw)).trans hw) hq hb h0
  refine this.mono ?_
  rintro e W' ⟨he, h | ⟨k, hk, h⟩⟩
  · exact ⟨he, .inl ⟨_, rfl, h⟩⟩
  · exact ⟨he, .inr ⟨_, ⟨k, hk, rfl⟩, h⟩⟩
theorem each_any (q : Nat) (w : World) : Calls Tryd.prog 90 #[.pointer (some ⟨q, 0, none⟩)] w fun e w' => e = .returned (.func (.func 94) #[] #[.pointer (some ⟨w.heap.size, 0, none⟩)]) ∧ w' = w.alloc (.cells #[.pointer (some ⟨q, 0, none⟩)] 80) := by
  have hmf := @makeFunc_run Tryd.prog
  go_enter Tryd.func90, Tryd.ntmps90
  go_wp2
  go_ret
  exact ⟨rfl, rfl⟩
theorem allv_any (p : Nat) (w : World) : Calls Tryd.prog 83 #[.pointer (some ⟨p, 0, none⟩)] w fun e w' => e = .returned (.func (.func 88) #[] #[.pointer (some ⟨w.heap.size, 0, none⟩)]) ∧ w' = w.alloc (.cells #[.pointer (some ⟨p, 0, none⟩)] 69) := by
  have hmf := @makeFunc_run Tryd.prog
  go_enter Tryd.func83, Tryd.ntmps83
  go_wp2
  go_ret
  exact ⟨rfl, rfl⟩
end Go.Proofs.YtjaijomkdgoenaaDoor.Fw

/- The iterator All of a table: it yields what was there when it began, whatever the rounds do. -/
namespace Go.Proofs.YtjaijomkdgoenaaDoor.Fw
open Go.RowKit Go.Shelf
attribute [local go_sem] Oper.semAt_some
set_option maxRecDepth 100000
set_option maxHeartbeats 4000000

theorem calm_ret1 {F : Fence} {n : Nat} {P : Program} {fn : Func} {R : Ending → World → Prop} {a : Act} {w : World} {v : Value} {D : Nat} (hd : a.defers = [{ target := .collected D, args := #[] }]) (hD : w.heap[D]? = some (.deferred (some []))) (hr : (results fn a.tmps).run P (w.putObj D (.deferred none)) = .ok v (w.putObj D (.deferred none))) (h : R (.returned v) (w.putObj D (.deferred none))) : calmQ (bodyPostM F n P fn R) .ret a w := by
  show LeavesInM F n P fn a.tmps R a.defers .returning w
  rw [hd]
  exact ⟨by simp, .inl ⟨_, _, rfl, run_takeDeferred hD, v, hr, h⟩⟩
theorem calm_end1 {F : Fence} {n : Nat} {P : Program} {fn : Func} {R : Ending → World → Prop} {a : Act} {w : World} {v : Value} {D : Nat} (hd : a.defers = [{ target := .collected D, args := #[] }]) (hD : w.heap[D]? = some (.deferred (some []))) (hr : (results fn a.tmps).run P (w.putObj D (.deferred none)) = .ok v (w.putObj D (.deferred none))) (h : R (.returned v) (w.putObj D (.deferred none))) : calmQ (bodyPostM F n P fn R) .normal a w := by
  show LeavesInM F n P fn a.tmps R a.defers .returning w
  rw [hd]
  exact ⟨by simp, .inl ⟨_, _, rfl, run_takeDeferred hD, v, hr, h⟩⟩
theorem roundIn_wide {n m l l' : Nat} {P : Program} {f : FuncId} {tmps : Array Value} {asg bd : Code} {w : World} {R : Ending → World → Prop} (h : RoundIn Fence.wide n P l f tmps asg bd w R) : RoundIn (Fence.wide.inRound l') m P l f tmps asg bd w R :=
  ⟨trivial, fun c cs _ => h.2 c cs (room_wide _)⟩
theorem all_own (n : Nat) (hn : 3 ≤ n) (b : Nat) (S : List Nat) (l : List En) (room : Nat) (w : World) (p q : Nat) (hA : FewAt w p q l room)
    (hb : w.cell? ⟨b, 0, none⟩ = some (.pointer (some ⟨p, 0, none⟩))) (hS : ∀ k ∈ S, k < w.heap.size + 2) :
    SeqOwn Fence.wide n Tryd.prog 88 #[.pointer (some ⟨b, 0, none⟩)] enV (Turned S) (fun ys => ys = l)
      (fun pre => ∃ k, k < l.length ∧ pre = l.take (k + 1)) (NextE l) w := by
  intro l0 J Jx W hW hsz hJ hJx hY h0
  have hAW := hA.below hW
  have hbW : W.cell? ⟨b, 0, none⟩ = some (.pointer (some ⟨p, 0, none⟩)) := (hW.cell (p := ⟨b, 0, none⟩) (cell_lt hb)).trans hb
  have hSW : ∀ k ∈ S, k < W.heap.size := fun k hk => by have := hS k hk; omega
  clear hW hA hb hS hsz
  refine callsIn_of_wp_marks Tryd.func88 rfl trivial ?_ rfl
  simp only [Tryd.ntmps88, List.size_toArray, List.length_cons, List.length_nil, Nat.reduceAdd, Nat.reduceSub, Array.replicate_succ, Array.replicate_zero, List.push_toArray, List.append_toArray, List.nil_append, List.cons_append]
  obtain ⟨W1, hW1⟩ : ∃ W1, W1 = W.alloc (.cells #[.func (.yield l0) #[] #[]] 129) := ⟨_, rfl⟩
  have B1 : Below W.heap.size W W1 := by rw [hW1]; exact Below.new (Below.refl _ _) _
  have A1 := hAW.below B1
  have b1 : W1.cell? ⟨b, 0, none⟩ = some (.pointer (some ⟨p, 0, none⟩)) := (B1.cell (p := ⟨b, 0, none⟩) (cell_lt hbW)).trans hbW
  have f1 : Fresh W1 W.heap.size #[.func (.yield l0) #[] #[]] 129 := by rw [hW1]; exact Fresh.new _ _ _ _ rfl
  have s1 : W1.heap.size = W.heap.size + 1 := by rw [hW1]; simp
  have j1 : J [] W1 := by rw [hW1]; exact hJ.alloc _ h0
  have p1 := A1.ptr
  obtain ⟨cs, hcs⟩ : ∃ cs, cellsAt W1 q = cs := ⟨_, rfl⟩
  have HR : Hid (W1.rangeAt q 0 cs) := by rw [← hcs]; exact range_row A1.row
  have HO : Hid (cs.length = 50 ∧ cs.toArray.all (·.oneCell') = true) := by rw [← hcs]; exact ⟨cellsAt_length W1 q, cellsAt_one A1.row⟩
  have HI := Lib.hid (isNil_any A1)
  have HA1 := Lib.hid A1
  have HC := Lib.hid hcs
  have HB1 := Lib.hid B1
  have HF1 := Lib.hid f1
  have HJ1 := Lib.hid j1
  have HJ := Lib.hid hJ
  have HJx := Lib.hid hJx
  have HY := Lib.hid hY
  have HSW := Lib.hid hSW
  have HW1 := Lib.hid hW1
  have HS1 := Lib.hid s1
  clear hAW B1 f1 j1 hJ hJx hY hSW hW1 s1 h0 A1 hcs
  refine wpIn_wide.2 ?_
  refine wp_mono (Q := calmQ _) ?_ calmQ_out
  go_upto_region 1 with fail
  rw [← HW1.out]
  go_wp2_with (first
    | (go_at_call 89; refine HI.out.mono ?_; rintro e w2 ⟨rfl, hw2⟩; replace hw2 := hw2.symm; subst hw2)
    | (refine step_load_row rfl (.tmp 12) rfl q cs rfl HR.out HO.out.1 ?_)
    | (refine step_store_row rfl (.tmp 3) (.tmp 13) rfl cs rfl rfl HO.out.1 HO.out.2 ?_)
    | (go_at_call 90; refine (each_any _ _).mono ?_; rintro e WL ⟨rfl, hWL⟩; have HWL := Lib.hid hWL; clear hWL))
  have z1 := HS1.out
  have szL : WL.heap.size = W1.heap.size + 2 := by rw [HWL.out]; simp
  have BL : Below W1.heap.size W1 WL := by rw [HWL.out]; exact Below.new (Below.new (Below.refl _ _) _) _
  have fy : Fresh WL W.heap.size #[.func (.yield l0) #[] #[]] 129 := HF1.out.below BL
  have fw : Fresh WL (W1.heap.size + 1) #[.pointer (some ⟨W1.heap.size, 0, none⟩)] 80 := by rw [HWL.out]; exact Fresh.new _ _ _ _ (by simp)
  have fr : RowAt WL W1.heap.size l room := by
    refine row_copy (T := 84) HA1.out.row ?_
    rw [HC.out, HWL.out]
    exact (Fresh.new _ _ _ _ rfl).alloc _
  obtain ⟨S', hS'⟩ : ∃ S', S' = (WL.heap.size + 1) :: S := ⟨_, rfl⟩
  have nS : ∀ k, W.heap.size ≤ k → k ≠ WL.heap.size + 1 → k ∉ S' := fun k h1 h2 h3 => by
    rw [hS'] at h3
    rcases List.mem_cons.1 h3 with h3 | h3
    · exact h2 h3
    · have := HSW.out k h3; omega
  have jL : J [] WL := by
    refine HJ.out [] W1 WL none HJ1.out ?_ (fun r e => by cases e)
    exact ⟨BL.os, BL.tape, BL.output, BL.size, fun k hk _ => BL.block k hk⟩
  refine (wpIn_wide (n := n)).1 ?_
  refine range_box rfl (by omega) (gf := 94) (lb := #[.pointer (some ⟨W1.heap.size + 1, 0, none⟩)]) rfl trivial (enters_of Tryd.func94 (by kernel_rfl) rfl)
    (each_own (n - 1) (by omega) (W1.heap.size + 1) W1.heap.size room l S' WL fr ((fw.cell 0).trans rfl) (nS _ (by omega) (by omega)) (nS _ (by omega) (by omega)))
    (fun h k => h.trans k) (fun Wc o _ => Turned.put (by rw [hS']; exact List.mem_cons_self ..) o) (Below.refl _ _) (fun _ => rfl)
    (fun pre Wc => J pre Wc ∧ Fresh Wc W.heap.size #[.func (.yield l0) #[] #[]] 129)
    (fun c pre Wc => c = .ret ∧ Jx pre Wc)
    (fun pre X Y row ⟨h1, h4⟩ hg hr => ⟨HJ.out pre X Y row h1 hg (fun r e => ⟨by have := (hr r e).1; omega, (hr r e).2⟩), h4.kept hg (fun r e => (hr r e).2)⟩)
    (fun c pre X Y row ⟨h1, h2⟩ hg hr => ⟨h1, HJx.out pre X Y row h2 hg (fun r e => ⟨by have := (hr r e).1; omega, (hr r e).2⟩)⟩)
    ⟨jL, fy⟩
    (fun x a' Wc => ∃ bx, a' = { tmps := #[.func (.yield l0) #[] #[], .pointer (some ⟨b, 0, none⟩), .pointer (some ⟨W.heap.size, 0, none⟩), .pointer (some ⟨W1.heap.size, 0, none⟩), .int .u8 (x.1.toNat : Int), .pointer (some ⟨bx, 0, none⟩), .pointer (some ⟨p, 0, none⟩), .bool false, .pointer (some ⟨p, 0, none⟩), .pointer (some ⟨p, 0, none⟩), .pointer (some ⟨p, 0, none⟩), .pointer (some ⟨q, 0, none⟩), .pointer (some ⟨q, 0, none⟩), .agg cs.toArray, .func (.func 94) #[] #[.pointer (some ⟨W1.heap.size + 1, 0, none⟩)], .int .u8 (x.1.toNat : Int), refV x.2.1 x.2.2, undef, undef, undef, undef, undef], defers := [] } ∧ Fresh Wc bx #[.int .i64 x.2.1, .int .u32 x.2.2] 29)
    (fun x a' _ X Y row ⟨bx, h1, h2⟩ hg hr => ⟨bx, h1, h2.kept hg (fun r e => (hr r e).2)⟩)
    ?assignment ?round ?done ?stop
  case assignment =>
    rintro l' pre x Wc K hG hI hK
    have HK := Lib.hid (hK _ (Wc.alloc (.cells #[.int .i64 x.2.1, .int .u32 x.2.2] 29)) ((KeepsOthers.alloc _ _).from _) ((Turned.refl _ Wc).alloc _) ⟨HJ.out.alloc _ hI.1, hI.2.alloc _⟩ ⟨Wc.heap.size, rfl, Fresh.new _ _ _ _ rfl⟩)
    clear hK hI hG
    clear z1 szL
    unfold enV
    gi_wp2
    exact HK.out
  case round =>
    rintro l' pre x a' W5 hG ⟨hj, hfy⟩ ⟨bx, rfl, hbx⟩ hz
    have d2 := hbx.cell 0
    have d3 := hbx.cell 1
    have d4 := hfy.cell 0
    simp only [List.getElem?_toArray, List.getElem?_cons_zero, List.getElem?_cons_succ] at d2 d3 d4
    obtain ⟨fn, tmps, assign, body, hy, hR⟩ := HY.out pre x W5 hG hj
    unfold enV at hy
    have HR := Lib.hid hR
    have HFY := Lib.hid hfy
    clear hR hj hfy hbx
    clear fw fy fr
    clear z1
    gi_wp2
    refine ⟨fun h => (by cases h), (roundIn_wide HR.out).mono ?_⟩
    have nSS : ∀ k, W.heap.size ≤ k → k ∉ S := fun k h1 h3 => by have := HSW.out k h3; omega
    have sB : ∀ k ∈ S, k < WL.heap.size := fun k h3 => by have := HSW.out k h3; have := HS1.out; omega
    have fin : ∀ W7, Turned S W5 W7 → KeepsFrom WL.heap.size W5 W7 ∧ Turned S' W5 W7 ∧ Fresh W7 W.heap.size #[.func (.yield l0) #[] #[]] 129 := fun W7 hT => by
      exact ⟨KeepsFrom.of_turned hT sB, hT.wide (fun k hk => by rw [hS']; exact List.mem_cons_of_mem _ hk), hT.other HFY.out (nSS _ (by omega))⟩
    have HFIN := Lib.hid fin
    clear fin nSS sB
    rintro e W7 ⟨hT7, ⟨rfl, hJ7⟩ | ⟨rfl, hJ7⟩⟩
    · have H7 := Lib.hid (HFIN.out W7 hT7)
      have HJ7 := Lib.hid hJ7
      clear hT7 hJ7
      gi_wp2
      exact ⟨H7.out.1, H7.out.2.1, HJ7.out, H7.out.2.2⟩
    · have H7 := Lib.hid (HFIN.out W7 hT7)
      have HJ7 := Lib.hid hJ7
      clear hT7 hJ7
      gi_wp2
      exact ⟨H7.out.1, H7.out.2.1, rfl, HJ7.out⟩
  case done =>
    rintro D xs W5 hD hS ⟨h1, _⟩ hK
    have HK := Lib.hid hK
    have H1 := Lib.hid h1
    clear hK h1
    have hD2 := hD
    clear z1
    go_wp2
    exact calm_end1 rfl HK.out (results_none rfl _ _ _) ⟨⟨_, rfl⟩, .inl ⟨xs, hS, HJ.out.putObj _ H1.out (by have := HS1.out; omega) HK.out rfl⟩⟩
  case stop =>
    rintro D c pre W5 hD hS ⟨rfl, h1⟩ hK
    have HK := Lib.hid hK
    have H1 := Lib.hid h1
    clear hK h1 z1
    refine wpIn_wide.2 ?_
    go_wp2
    exact calm_ret1 rfl HK.out (results_none rfl _ _ _) ⟨⟨_, rfl⟩, .inr ⟨pre, hS, HJx.out.putObj _ H1.out (by have := HS1.out; omega) HK.out rfl⟩⟩
end Go.Proofs.YtjaijomkdgoenaaDoor.Fw

/- Nothing but some blocks, and rows of bytes, has turned; the iterators over a row and a table, under it. -/
namespace Go.Proofs.YtjaijomkdgoenaaDoor.Fw
open Go.RowKit Go.Shelf
attribute [local go_sem] Oper.semAt_some
set_option maxRecDepth 100000
set_option maxHeartbeats 4000000

/-- A row of bytes. -/
abbrev Rw (t : TypeId) : Prop := t = 5 ∨ t = 29
def IsU8 (o : Option Obj) : Prop := ∃ cs t f, o = some (.cells cs t f) ∧ Rw t
def ObjKeep (o o' : Option Obj) : Prop := o' = o ∨ IsU8 o
theorem ObjKeep.trans {a b c : Option Obj} (h : ObjKeep a b) (k : ObjKeep b c) : ObjKeep a c := by
  rcases h with rfl | h1
  · exact k
  · exact .inr h1
structure KeepT (S : List Nat) (W W' : World) : Prop where
  os : W'.os = W.os
  tape : W'.tape = W.tape
  output : W'.output = W.output
  size : W.heap.size ≤ W'.heap.size
  block : ∀ k, k < W.heap.size → k ∉ S → ObjKeep W.heap[k]? W'.heap[k]?
theorem KeepT.refl (S : List Nat) (W : World) : KeepT S W W := ⟨rfl, rfl, rfl, Nat.le_refl _, fun _ _ _ => .inl rfl⟩
theorem KeepT.trans {S : List Nat} {W W' W'' : World} (h : KeepT S W W') (k : KeepT S W' W'') : KeepT S W W'' :=
  ⟨k.os.trans h.os, k.tape.trans h.tape, k.output.trans h.output, Nat.le_trans h.size k.size, fun j hj hn => (h.block j hj hn).trans (k.block j (Nat.lt_of_lt_of_le hj h.size) hn)⟩
theorem KeepT.of_turned {S : List Nat} {W W' : World} (h : Turned S W W') : KeepT S W W' := ⟨h.os, h.tape, h.output, h.size, fun k hk hn => .inl (h.block k hk hn)⟩
theorem KeepT.of_below {S : List Nat} {W W' : World} (h : Below W.heap.size W W') : KeepT S W W' := .of_turned (.of_below h)
theorem KeepT.drew {S : List Nat} {W W' : World} (h : KeepT S W W') : KeepT S W W'.drew := ⟨h.os, h.tape, h.output, h.size, h.block⟩
theorem KeepT.put {S : List Nat} {W : World} {k : Nat} (hk : k ∈ S) (o : Obj) : KeepT S W (W.putObj k o) := .of_turned (Turned.put hk o)
theorem KeepT.wide {S S' : List Nat} {W W' : World} (h : KeepT S W W') (hs : ∀ k ∈ S, k ∈ S') : KeepT S' W W' :=
  ⟨h.os, h.tape, h.output, h.size, fun k hk hn => h.block k hk (fun e => hn (hs k e))⟩
theorem KeepT.same {S : List Nat} {W W' : World} (h : KeepT S W W') {k : Nat} (hk : k < W.heap.size) (hn : k ∉ S) (h8 : ¬ IsU8 W.heap[k]?) : W'.heap[k]? = W.heap[k]? := by
  rcases h.block k hk hn with e | e
  · exact e
  · exact absurd e h8
theorem KeepT.other {S : List Nat} {W W' : World} (h : KeepT S W W') {p : Nat} {cs : Array Value} {t : TypeId} (hf : Fresh W p cs t) (hn : p ∉ S) (ht : ¬ Rw t) : Fresh W' p cs t :=
  (h.same hf.lt hn (by
    rintro ⟨c, t', f, e, e2⟩
    unfold Fresh at hf
    rw [hf] at e
    cases e
    exact ht e2)).trans hf
theorem KeepsFrom.of_keepT {S : List Nat} {W W' : World} {B : Nat} (h : KeepT S W W') (hs : ∀ k ∈ S, k < B) : KeepsFrom B W W' :=
  ⟨h.size, fun k o hB ho hc => (h.same (Array.getElem?_eq_some_iff.1 ho).1 (fun e => by have := hs k e; omega) (by
    rintro ⟨c, t', f, e, e2⟩
    rw [ho] at e
    cases e
    cases hc)).trans ho⟩
theorem fresh_not8 {W : World} {p : Nat} {cs : Array Value} {t : TypeId} (hf : Fresh W p cs t) (ht : ¬ Rw t) : ¬ IsU8 W.heap[p]? := by
  rintro ⟨c, t', f, e, e2⟩
  unfold Fresh at hf
  rw [hf] at e
  cases e
  exact ht e2
theorem each1T_in (n : Nat) (hn : 1 ≤ n) (l0 Bw q room : Nat) (l : List En) (S : List Nat) (J Jx : List En → World → Prop)
    (hY : ∀ (k : Nat) (h : k < l.length) (W : World), J (l.take k) W → YieldAt Fence.wide (n - 1) Tryd.prog l0 (enV l[k]) W fun e W' =>
      (e = .returned (.bool true) ∧ J (l.take k ++ [l[k]]) W' ∧ KeepT S W W') ∨ (e = .returned (.bool false) ∧ Jx (l.take k ++ [l[k]]) W'))
    (hAB : ∀ s X Y, Below X.heap.size X Y → J s X → J s Y)
    (W : World) (hR : RowAt W q l room) (hw : W.cell? ⟨Bw, 0, none⟩ = some (.pointer (some ⟨q, 0, none⟩))) (hq : q ∉ S ∧ ¬ IsU8 W.heap[q]?) (hb : Bw ∉ S ∧ ¬ IsU8 W.heap[Bw]?) (h0 : J [] W) :
    CallsIn Fence.wide n Tryd.prog 94 #[.func (.yield l0) #[] #[], .pointer (some ⟨Bw, 0, none⟩)] W fun e W' => (∃ v, e = .returned v) ∧
      (J l W' ∨ (∃ k, k < l.length ∧ Jx (l.take (k + 1)) W')) := by
  have h48 := hR.n
  have hlen := hR.len
  obtain ⟨m, hm⟩ : ∃ m, l.length = m := ⟨_, rfl⟩
  rw [hm] at h48 hlen
  have m0 : (0 : Int) ≤ (m : Int) := Int.natCast_nonneg _
  have m1 : (m : Int) ≤ 16 := by omega
  have HR := Lib.hid hR
  have HM := Lib.hid hm
  have HY := Lib.hid hY
  have HAB := Lib.hid hAB
  have HW := Lib.hid hw
  have H0 := Lib.hid h0
  have HS := Lib.hid (And.intro hq hb)
  have hbl : Hid (Bw < W.heap.size) := cell_lt hw
  clear hR hm hY hAB h0 hlen
  refine callsIn_of_wp Tryd.func94 rfl trivial ?_ rfl
  simp only [Tryd.ntmps94, List.size_toArray, List.length_cons, List.length_nil, Nat.reduceAdd, Nat.reduceSub, Array.replicate_succ, Array.replicate_zero, List.push_toArray, List.append_toArray, List.nil_append, List.cons_append]
  gi_wp2
  refine wpIn_wide.2 ?_
  go_region
  clear hw h48
  gi_wp2
  gi_loopw [14] (fun i wr => ∃ k : Nat, k ≤ m ∧ i = .int .i64 k ∧ J (l.take k) wr ∧ KeepT S W wr) (fun i _ => m - (intOf i).toNat)
  case atStart => exact ⟨0, by omega, rfl, HAB.out _ _ _ ((Below.refl _ _).drew) H0.out, (KeepT.refl _ _).drew⟩
  case round =>
    obtain ⟨k, hk, rfl, hJ, hT⟩ := hrel
    by_cases hlt : k < m
    · have kl : (k : Int) < (m : Int) := by omega
      have k0 : (0 : Int) ≤ (k : Int) := by omega
      have k16 : (k : Int) < 16 := by omega
      have kd : decide (k < m) = true := decide_eq_true hlt
      have hkl : k < l.length := by have := HM.out; omega
      have hRk := HR.out.same (hT.same HR.out.lt HS.out.1.1 HS.out.1.2)
      have hwk : wr.cell? ⟨Bw, 0, none⟩ = some (.pointer (some ⟨q, 0, none⟩)) := (cell_same (p := ⟨Bw, 0, none⟩) (hT.same hbl.out HS.out.2.1 HS.out.2.2)).trans HW.out
      have hc := hRk.byte k hkl
      have hs := hRk.slot k hkl
      have hg := hRk.gen k hkl
      obtain ⟨fn, tmps, asg, body, hy, hRd⟩ := HY.out k hkl wr hJ
      obtain ⟨x, hx⟩ : ∃ x, l[k] = x := ⟨_, rfl⟩
      rw [hx] at hc hs hg hy hRd
      unfold enV at hy
      have hx2 : l.take k ++ [x] = l.take (k + 1) := by rw [← hx]; exact (List.take_succ_eq_append_getElem hkl).symm
      rw [hx2] at hRd
      have HRd := Lib.hid hRd
      have HT := Lib.hid hT
      have HK := Lib.hid hkl
      clear hRk hRd hx hx2 hJ hT hk hkl
      gi_wp2
      refine HRd.out.mono ?_
      rintro e W3 (⟨rfl, hJ3, hT3⟩ | ⟨rfl, hJx⟩)
      · have H3 := Lib.hid (And.intro hJ3 (HT.out.trans hT3))
        clear hJ3 hT3
        gi_wp2
        go_roundw
        case rel => exact ⟨k + 1, by omega, by go_num, H3.out⟩
        case measure => simp [intOf] <;> omega
      · have H3 := Lib.hid hJx
        clear hJx
        gi_wp2
        refine bodyPost_ret (results_none rfl _ _ _) rfl ?_
        exact ⟨⟨_, rfl⟩, .inr ⟨k, HK.out, H3.out⟩⟩
    · obtain rfl : k = m := by omega
      have H3 : Hid (J l wr) := by
        have := hJ
        rw [List.take_of_length_le (by have := HM.out; omega)] at this
        exact this
      clear hJ hT
      gi_wp2
      go_end0
      exact ⟨⟨_, rfl⟩, .inl H3.out⟩

theorem eachT_own (n : Nat) (hn : 1 ≤ n) (Bw q room : Nat) (l : List En) (S : List Nat) (w : World) (hR : RowAt w q l room) (hw : w.cell? ⟨Bw, 0, none⟩ = some (.pointer (some ⟨q, 0, none⟩))) (hq : q ∉ S ∧ ¬ IsU8 w.heap[q]?) (hb : Bw ∉ S ∧ ¬ IsU8 w.heap[Bw]?) :
    SeqOwn Fence.wide n Tryd.prog 94 #[.pointer (some ⟨Bw, 0, none⟩)] enV (KeepT S) (fun xs => xs = l) (fun pre => ∃ k, k < l.length ∧ pre = l.take (k + 1)) (NextE l) w := fun l0 J Jx W hW _ hJ hJx hY h0 => by
  have := each1T_in n hn l0 Bw q room l S J Jx
    (fun k hk W hj => by
      obtain ⟨fn, tmps, asg, body, e, hRd⟩ := hY (l.take k) l[k] W ⟨k, hk, rfl⟩ hj
      refine ⟨fn, tmps, asg, body, e, hRd.mono ?_⟩
      rintro e W' ⟨hB, ⟨rfl, hJ2⟩ | ⟨rfl, hJ2⟩⟩
      · exact .inl ⟨rfl, hJ2, hB⟩
      · exact .inr ⟨rfl, hJ2⟩)
    (fun s X Y hB hj => hJ s X Y none hj ⟨hB.os, hB.tape, hB.output, hB.size, fun k hk _ => hB.block k hk⟩ (fun r e => by cases e))
    W (hR.below hW) ((hW.cell (p := ⟨Bw, 0, none⟩) (cell_lt hw)).trans hw) ⟨hq.1, by rw [hW.block q hR.lt]; exact hq.2⟩ ⟨hb.1, by rw [hW.block Bw (cell_lt hw)]; exact hb.2⟩ h0
  refine this.mono ?_
  rintro e W' ⟨he, h | ⟨k, hk, h⟩⟩
  · exact ⟨he, .inl ⟨_, rfl, h⟩⟩
  · exact ⟨he, .inr ⟨_, ⟨k, hk, rfl⟩, h⟩⟩
theorem allT_own (n : Nat) (hn : 3 ≤ n) (b : Nat) (S : List Nat) (l : List En) (room : Nat) (w : World) (p q : Nat) (hA : FewAt w p q l room)
    (hb : w.cell? ⟨b, 0, none⟩ = some (.pointer (some ⟨p, 0, none⟩))) (hS : ∀ k ∈ S, k < w.heap.size + 2) :
    SeqOwn Fence.wide n Tryd.prog 88 #[.pointer (some ⟨b, 0, none⟩)] enV (KeepT S) (fun ys => ys = l)
      (fun pre => ∃ k, k < l.length ∧ pre = l.take (k + 1)) (NextE l) w := by
  intro l0 J Jx W hW hsz hJ hJx hY h0
  have hAW := hA.below hW
  have hbW : W.cell? ⟨b, 0, none⟩ = some (.pointer (some ⟨p, 0, none⟩)) := (hW.cell (p := ⟨b, 0, none⟩) (cell_lt hb)).trans hb
  have hSW : ∀ k ∈ S, k < W.heap.size := fun k hk => by have := hS k hk; omega
  clear hW hA hb hS hsz
  refine callsIn_of_wp_marks Tryd.func88 rfl trivial ?_ rfl
  simp only [Tryd.ntmps88, List.size_toArray, List.length_cons, List.length_nil, Nat.reduceAdd, Nat.reduceSub, Array.replicate_succ, Array.replicate_zero, List.push_toArray, List.append_toArray, List.nil_append, List.cons_append]
  obtain ⟨W1, hW1⟩ : ∃ W1, W1 = W.alloc (.cells #[.func (.yield l0) #[] #[]] 129) := ⟨_, rfl⟩
  have B1 : Below W.heap.size W W1 := by rw [hW1]; exact Below.new (Below.refl _ _) _
  have A1 := hAW.below B1
  have b1 : W1.cell? ⟨b, 0, none⟩ = some (.pointer (some ⟨p, 0, none⟩)) := (B1.cell (p := ⟨b, 0, none⟩) (cell_lt hbW)).trans hbW
  have f1 : Fresh W1 W.heap.size #[.func (.yield l0) #[] #[]] 129 := by rw [hW1]; exact Fresh.new _ _ _ _ rfl
  have s1 : W1.heap.size = W.heap.size + 1 := by rw [hW1]; simp
  have j1 : J [] W1 := by rw [hW1]; exact hJ.alloc _ h0
  have p1 := A1.ptr
  obtain ⟨cs, hcs⟩ : ∃ cs, cellsAt W1 q = cs := ⟨_, rfl⟩
  have HR : Hid (W1.rangeAt q 0 cs) := by rw [← hcs]; exact range_row A1.row
  have HO : Hid (cs.length = 50 ∧ cs.toArray.all (·.oneCell') = true) := by rw [← hcs]; exact ⟨cellsAt_length W1 q, cellsAt_one A1.row⟩
  have HI := Lib.hid (isNil_any A1)
  have HA1 := Lib.hid A1
  have HC := Lib.hid hcs
  have HB1 := Lib.hid B1
  have HF1 := Lib.hid f1
  have HJ1 := Lib.hid j1
  have HJ := Lib.hid hJ
  have HJx := Lib.hid hJx
  have HY := Lib.hid hY
  have HSW := Lib.hid hSW
  have HW1 := Lib.hid hW1
  have HS1 := Lib.hid s1
  clear hAW B1 f1 j1 hJ hJx hY hSW hW1 s1 h0 A1 hcs
  refine wpIn_wide.2 ?_
  refine wp_mono (Q := calmQ _) ?_ calmQ_out
  go_upto_region 1 with fail
  rw [← HW1.out]
  go_wp2_with (first
    | (go_at_call 89; refine HI.out.mono ?_; rintro e w2 ⟨rfl, hw2⟩; replace hw2 := hw2.symm; subst hw2)
    | (refine step_load_row rfl (.tmp 12) rfl q cs rfl HR.out HO.out.1 ?_)
    | (refine step_store_row rfl (.tmp 3) (.tmp 13) rfl cs rfl rfl HO.out.1 HO.out.2 ?_)
    | (go_at_call 90; refine (each_any _ _).mono ?_; rintro e WL ⟨rfl, hWL⟩; have HWL := Lib.hid hWL; clear hWL))
  have z1 := HS1.out
  have szL : WL.heap.size = W1.heap.size + 2 := by rw [HWL.out]; simp
  have BL : Below W1.heap.size W1 WL := by rw [HWL.out]; exact Below.new (Below.new (Below.refl _ _) _) _
  have fy : Fresh WL W.heap.size #[.func (.yield l0) #[] #[]] 129 := HF1.out.below BL
  have fw : Fresh WL (W1.heap.size + 1) #[.pointer (some ⟨W1.heap.size, 0, none⟩)] 80 := by rw [HWL.out]; exact Fresh.new _ _ _ _ (by simp)
  have f8 : ¬ IsU8 WL.heap[W1.heap.size]? := by
    refine fresh_not8 (cs := cs.toArray) (t := 84) ?_ (by decide)
    rw [HWL.out]
    exact (Fresh.new _ _ _ _ rfl).alloc _
  have fr : RowAt WL W1.heap.size l room := by
    refine row_copy (T := 84) HA1.out.row ?_
    rw [HC.out, HWL.out]
    exact (Fresh.new _ _ _ _ rfl).alloc _
  obtain ⟨S', hS'⟩ : ∃ S', S' = (WL.heap.size + 1) :: S := ⟨_, rfl⟩
  have nS : ∀ k, W.heap.size ≤ k → k ≠ WL.heap.size + 1 → k ∉ S' := fun k h1 h2 h3 => by
    rw [hS'] at h3
    rcases List.mem_cons.1 h3 with h3 | h3
    · exact h2 h3
    · have := HSW.out k h3; omega
  have jL : J [] WL := by
    refine HJ.out [] W1 WL none HJ1.out ?_ (fun r e => by cases e)
    exact ⟨BL.os, BL.tape, BL.output, BL.size, fun k hk _ => BL.block k hk⟩
  refine (wpIn_wide (n := n)).1 ?_
  refine range_box rfl (by omega) (gf := 94) (lb := #[.pointer (some ⟨W1.heap.size + 1, 0, none⟩)]) rfl trivial (enters_of Tryd.func94 (by kernel_rfl) rfl)
    (eachT_own (n - 1) (by omega) (W1.heap.size + 1) W1.heap.size room l S' WL fr ((fw.cell 0).trans rfl) ⟨nS _ (by omega) (by omega), f8⟩ ⟨nS _ (by omega) (by omega), fresh_not8 fw (by decide)⟩)
    (fun h k => h.trans k) (fun Wc o _ => KeepT.put (by rw [hS']; exact List.mem_cons_self ..) o) (Below.refl _ _) (fun _ => rfl)
    (fun pre Wc => J pre Wc ∧ Fresh Wc W.heap.size #[.func (.yield l0) #[] #[]] 129)
    (fun c pre Wc => c = .ret ∧ Jx pre Wc)
    (fun pre X Y row ⟨h1, h4⟩ hg hr => ⟨HJ.out pre X Y row h1 hg (fun r e => ⟨by have := (hr r e).1; omega, (hr r e).2⟩), h4.kept hg (fun r e => (hr r e).2)⟩)
    (fun c pre X Y row ⟨h1, h2⟩ hg hr => ⟨h1, HJx.out pre X Y row h2 hg (fun r e => ⟨by have := (hr r e).1; omega, (hr r e).2⟩)⟩)
    ⟨jL, fy⟩
    (fun x a' Wc => ∃ bx, a' = { tmps := #[.func (.yield l0) #[] #[], .pointer (some ⟨b, 0, none⟩), .pointer (some ⟨W.heap.size, 0, none⟩), .pointer (some ⟨W1.heap.size, 0, none⟩), .int .u8 (x.1.toNat : Int), .pointer (some ⟨bx, 0, none⟩), .pointer (some ⟨p, 0, none⟩), .bool false, .pointer (some ⟨p, 0, none⟩), .pointer (some ⟨p, 0, none⟩), .pointer (some ⟨p, 0, none⟩), .pointer (some ⟨q, 0, none⟩), .pointer (some ⟨q, 0, none⟩), .agg cs.toArray, .func (.func 94) #[] #[.pointer (some ⟨W1.heap.size + 1, 0, none⟩)], .int .u8 (x.1.toNat : Int), refV x.2.1 x.2.2, undef, undef, undef, undef, undef], defers := [] } ∧ Fresh Wc bx #[.int .i64 x.2.1, .int .u32 x.2.2] 29)
    (fun x a' _ X Y row ⟨bx, h1, h2⟩ hg hr => ⟨bx, h1, h2.kept hg (fun r e => (hr r e).2)⟩)
    ?assignment ?round ?done ?stop
  case assignment =>
    rintro l' pre x Wc K hG hI hK
    have HK := Lib.hid (hK _ (Wc.alloc (.cells #[.int .i64 x.2.1, .int .u32 x.2.2] 29)) ((KeepsOthers.alloc _ _).from _) (KeepT.of_turned ((Turned.refl _ Wc).alloc _)) ⟨HJ.out.alloc _ hI.1, hI.2.alloc _⟩ ⟨Wc.heap.size, rfl, Fresh.new _ _ _ _ rfl⟩)
    clear hK hI hG
    clear z1 szL
    unfold enV
    gi_wp2
    exact HK.out
  case round =>
    rintro l' pre x a' W5 hG ⟨hj, hfy⟩ ⟨bx, rfl, hbx⟩ hz
    have d2 := hbx.cell 0
    have d3 := hbx.cell 1
    have d4 := hfy.cell 0
    simp only [List.getElem?_toArray, List.getElem?_cons_zero, List.getElem?_cons_succ] at d2 d3 d4
    obtain ⟨fn, tmps, assign, body, hy, hR⟩ := HY.out pre x W5 hG hj
    unfold enV at hy
    have HR := Lib.hid hR
    have HFY := Lib.hid hfy
    clear hR hj hfy hbx
    clear fw fy fr f8
    clear z1
    gi_wp2
    refine ⟨fun h => (by cases h), (roundIn_wide HR.out).mono ?_⟩
    have nSS : ∀ k, W.heap.size ≤ k → k ∉ S := fun k h1 h3 => by have := HSW.out k h3; omega
    have sB : ∀ k ∈ S, k < WL.heap.size := fun k h3 => by have := HSW.out k h3; have := HS1.out; omega
    have fin : ∀ W7, KeepT S W5 W7 → KeepsFrom WL.heap.size W5 W7 ∧ KeepT S' W5 W7 ∧ Fresh W7 W.heap.size #[.func (.yield l0) #[] #[]] 129 := fun W7 hT => by
      exact ⟨KeepsFrom.of_keepT hT sB, hT.wide (fun k hk => by rw [hS']; exact List.mem_cons_of_mem _ hk), hT.other HFY.out (nSS _ (by omega)) (by decide)⟩
    have HFIN := Lib.hid fin
    clear fin nSS sB
    rintro e W7 ⟨hT7, ⟨rfl, hJ7⟩ | ⟨rfl, hJ7⟩⟩
    · have H7 := Lib.hid (HFIN.out W7 hT7)
      have HJ7 := Lib.hid hJ7
      clear hT7 hJ7
      gi_wp2
      exact ⟨H7.out.1, H7.out.2.1, HJ7.out, H7.out.2.2⟩
    · have H7 := Lib.hid (HFIN.out W7 hT7)
      have HJ7 := Lib.hid hJ7
      clear hT7 hJ7
      gi_wp2
      exact ⟨H7.out.1, H7.out.2.1, rfl, HJ7.out⟩
  case done =>
    rintro D xs W5 hD hS ⟨h1, _⟩ hK
    have HK := Lib.hid hK
    have H1 := Lib.hid h1
    clear hK h1
    have hD2 := hD
    clear z1
    go_wp2
    exact calm_end1 rfl HK.out (results_none rfl _ _ _) ⟨⟨_, rfl⟩, .inl ⟨xs, hS, HJ.out.putObj _ H1.out (by have := HS1.out; omega) HK.out rfl⟩⟩
  case stop =>
    rintro D c pre W5 hD hS ⟨rfl, h1⟩ hK
    have HK := Lib.hid hK
    have H1 := Lib.hid h1
    clear hK h1 z1
    refine wpIn_wide.2 ?_
    go_wp2
    exact calm_ret1 rfl HK.out (results_none rfl _ _ _) ⟨⟨_, rfl⟩, .inr ⟨pre, hS, HJx.out.putObj _ H1.out (by have := HS1.out; omega) HK.out rfl⟩⟩
end Go.Proofs.YtjaijomkdgoenaaDoor.Fw
