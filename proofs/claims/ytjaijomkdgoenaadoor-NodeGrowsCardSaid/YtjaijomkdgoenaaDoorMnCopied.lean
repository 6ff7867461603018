/- A copy of a row. -/
import Derived.Test.YtjaijomkdgoenaaDoorMnCloneM
import Derived.BigQuiet
import Derived.Laws.Tables
import Derived.Great.FillDense
import Derived.OrdersHeld
namespace Go.Proofs.YtjaijomkdgoenaaDoor.Mn
open Go.RowKit
set_option maxRecDepth 100000
set_option maxHeartbeats 4000000

def arrOf (cs : Array Value) : Array Value := (cs.toList.take 256).toArray
theorem arr_load {o : Oper} {a : Act} {w : World} {x : Operand} {q e : Nat} {es : List En} {room : Nat} {cs : Array Value} {v : Value} (ho : o.op = .load 89 x) (hx : a.eval x = .pointer (some ⟨q, 0, none⟩)) (h : RowM w q e es room cs v) :
    (execOp a.eval o).run Tryd.prog w = .ok (.value (.agg (arrOf cs))) w := by
  have hc : w.rangeAt q 0 (cs.toList.take 256) := fun j u hj => by
    have hlt : j < 256 := by have := (List.getElem?_eq_some_iff.1 hj).1; simp at this; omega
    rw [List.getElem?_take_of_lt hlt, Array.getElem?_toList] at hj
    rw [Nat.zero_add, h.box.cell, hj]
  have hl : (cs.toList.take 256).length = 256 := by simp [h.size]
  unfold execOp
  simp only [ho, hx, Instr.loadAt, Instr.sureAddr, Sem.run_bind, Sem.run_pure, Result.andThen_ok, run_loadVar_mid w q 0 89 _ _ hc Tryd.underlying89 rfl (by rw [hl]; rfl)]
  rfl
theorem fill_part {place : Nat → Option (Nat × Nat)} {i off size : Nat} {v : Value} {cells : Array Value} {rest : List (Nat × Value)} (hp : place i = some (off, size)) (hv : v.cells.size = size) (hle : off + size ≤ cells.size) :
    ∃ r, Instr.fill place cells ((i, v) :: rest) = Instr.fill place r rest ∧ r.size = cells.size ∧ ∀ k, r[k]? = if off ≤ k ∧ k < off + size then v.cells[k - off]? else cells[k]? := by
  obtain ⟨g1, g2⟩ := Great.foldl_set off v.cells.toList 0 cells
  refine ⟨(v.cells.toList.zipIdx 0).foldl (fun cs (x : Value × Nat) => cs.setIfInBounds (off + x.2) x.1) cells, ?_, g1, fun k => ?_⟩
  · rw [Instr.fill, hp]
    simp only [hv]
    rw [if_neg (by simp; omega)]
    congr 1
    rw [← Array.foldl_toList, Array.toList_zipIdx]
  · rw [g2 k]
    simp only [Nat.add_zero, Array.length_toList, hv, Array.getElem?_toList]
    by_cases hk : off ≤ k ∧ k < off + size
    · rw [if_pos hk, if_pos (by omega)]
    · rw [if_neg hk, if_neg (by omega)]
theorem built_row (cs : Array Value) (hs : cs.size = 258) (v' : Value) (hv : v'.cells = #[v']) (room : Int) :
    ∃ r, Tryd.prog.built 92 [(0, .agg (arrOf cs)), (1, v'), (2, .int .i64 room)] = some r ∧ r.size = 258 ∧ (∀ k, k < 256 → r[k]? = cs[k]?) ∧ r[256]? = some v' ∧ r[257]? = some (.int .i64 room) := by
  have hz : (Tryd.prog.info? 92).bind (fun it => it.zero.map fun z => z.cells.size) = some 258 := by kernel_rfl
  have hpl : (match Tryd.prog.underlying 92 with
    | some (.struct fields) => fields.toList.mapM (fun f => (Tryd.prog.info? f.type).map fun i => (f.offset, i.size))
    | _ => none) = some [(0, 256), (256, 1), (257, 1)] := by kernel_rfl
  unfold Program.built
  cases hit : Tryd.prog.info? 92 with
  | none => rw [hit] at hz; cases hz
  | some it =>
    rw [hit] at hz
    cases hu : Tryd.prog.underlying 92 with
    | none => rw [hu] at hpl; cases hpl
    | some d =>
      rw [hu] at hpl
      cases d <;> try (cases hpl; done)
      case struct fields =>
        cases hzz : it.zero with
        | none => rw [show (some it).bind _ = it.zero.map _ from rfl, hzz] at hz; cases hz
        | some z =>
          rw [show (some it).bind _ = it.zero.map _ from rfl, hzz] at hz
          have hz' : z.cells.size = 258 := by simpa using hz
          simp only at hpl ⊢
          rw [hpl]
          simp only [hzz]
          have ha : (arrOf cs).size = 256 := by simp [arrOf, hs]
          obtain ⟨r1, e1, s1, k1⟩ := fill_part (place := fun i => ([(0, 256), (256, 1), (257, 1)] : List (Nat × Nat)).toArray[i]?) (i := 0) (off := 0) (size := 256) (v := .agg (arrOf cs)) (cells := z.cells) (rest := [(1, v'), (2, .int .i64 room)]) rfl ha (by omega)
          obtain ⟨r2, e2, s2, k2⟩ := fill_part (place := fun i => ([(0, 256), (256, 1), (257, 1)] : List (Nat × Nat)).toArray[i]?) (i := 1) (off := 256) (size := 1) (v := v') (cells := r1) (rest := [(2, .int .i64 room)]) rfl (by rw [hv]; rfl) (by omega)
          obtain ⟨r3, e3, s3, k3⟩ := fill_part (place := fun i => ([(0, 256), (256, 1), (257, 1)] : List (Nat × Nat)).toArray[i]?) (i := 2) (off := 257) (size := 1) (v := .int .i64 room) (cells := r2) (rest := []) rfl rfl (by omega)
          refine ⟨r3, e1.trans (e2.trans (e3.trans rfl)), by omega, fun k hk => ?_, ?_, ?_⟩
          · rw [k3, if_neg (by omega), k2, if_neg (by omega), k1, if_pos (by omega)]
            show (arrOf cs)[k - 0]? = _
            rw [arrOf, List.getElem?_toArray, List.getElem?_take_of_lt (by omega), Array.getElem?_toList]; rfl
          · rw [k3, if_neg (by omega), k2, if_pos (by omega), hv]; rfl
          · rw [k3, if_pos (by omega)]; rfl
theorem build_op {o : Oper} {a : Act} {w : World} {x y z : Operand} {vx vy vz : Value} {r : Array Value} (ho : o.op = .build 92 #[(0, x), (1, y), (2, z)]) (hx : a.eval x = vx) (hy : a.eval y = vy) (hz : a.eval z = vz) (hb : Tryd.prog.built 92 [(0, vx), (1, vy), (2, vz)] = some r) :
    (execOp a.eval o).run Tryd.prog w = .ok (.value (.agg r)) w := by
  unfold execOp
  simp only [ho, hx, hy, hz, List.map_toArray, List.map_cons, List.map_nil, Sem.run_bind, run_build w _ #[(0, vx), (1, vy), (2, vz)] _ hb, Result.andThen_ok, Sem.run_pure]
theorem copied_fin {W w2 : World} {q e : Nat} {es : List En} {room : Nat} {cs : Array Value} {v v' : Value} {r : Array Value} (h : RowM W q e es room cs v) (hb : Below W.heap.size W w2) (hown : w2.ownsRow 0 137 3 v' es.length (flat es)) (hblk : ∀ k, v'.ownBlock = some k → W.heap.size ≤ k)
    (hr : r.size = 258 ∧ (∀ k, k < 256 → r[k]? = cs[k]?) ∧ r[256]? = some v' ∧ r[257]? = some (.int .i64 (room : Int))) : ∃ e2, W.heap.size ≤ e2 ∧ RowM (w2.alloc (.cells r 92)) w2.heap.size e2 es room r v' := by
  have B : Below w2.heap.size w2 (w2.alloc (.cells r 92)) := Below.new (Below.refl _ _) _
  have F : Fresh (w2.alloc (.cells r 92)) w2.heap.size r 92 := Fresh.new _ _ _ _ rfl
  have T : Tab r es := fun b => by
    obtain ⟨n, h1, h2⟩ := h.tab b
    exact ⟨n, by rw [hr.2.1 _ (by have := b.toNat_lt; omega)]; exact h1, h2⟩
  have O := own_same hown (fun k hk => B.block k (hown.lt k hk).2)
  rcases hown.2 with ⟨h1, h2⟩ | ⟨g, cap, cur, h1, h2, h3, _⟩
  · exact ⟨w2.heap.size, hb.size, F, hr.1, T, hr.2.2.1, hr.2.2.2, O, (fun k hk => by rw [h1] at hk; cases hk), h.dist, h.len, F.lt, .inl rfl⟩
  · have hg := (Array.getElem?_eq_some_iff.1 h3).1
    have hv : v'.ownBlock = some g := by rw [h1]; rfl
    exact ⟨g, hblk g hv, F, hr.1, T, hr.2.2.1, hr.2.2.2, O, (fun k hk => by rw [hv] at hk; exact (Option.some.inj hk).symm), h.dist, h.len, Nat.lt_of_lt_of_le hg B.size, .inr ⟨cur, (B.block g hg).trans h3⟩⟩
theorem copied_any {W : World} {q e : Nat} {es : List En} {room : Nat} {cs : Array Value} {v : Value} (h : RowM W q e es room cs v) :
    Calls Tryd.prog 104 #[.pointer (some ⟨q, 0, none⟩)] W fun e' w' => ∃ q2 e2 cs2 v2, e' = .returned (.pointer (some ⟨q2, 0, none⟩)) ∧ W.heap.size ≤ q2 ∧ W.heap.size ≤ e2 ∧ Below W.heap.size W w' ∧ RowM w' q2 e2 es room cs2 v2 := by
  have HD := Lib.hid h.drew
  have HH := Lib.hid h
  clear h
  go_enter Tryd.func104, Tryd.ntmps104
  go_upto_region 1 with fail
  refine wp_region_held_drew (S := fun W' => RowM W' q e es room cs v) (by kernel_rfl) ?_ (fun hHeld => ?_)
  · (try dsimp only)
    first | exact HD.out | exact HD.out.below HC2.out.1 | exact HD.out.below (Below.new HC2.out.1 _)
  refine wpAnyH_take (i := 0) (oi := ?_) (v := ?_) ?_ (by kernel_rfl) (by kernel_rfl) (by kernel_rfl) ?_ (Or.inl ⟨?_, ?_⟩) (by assumption) ?_
  rotate_left 2
  · simp only [List.getElem?_toArray, List.getElem?_cons_succ, List.getElem?_cons_zero] <;> rfl
  · exact fun _ _ _ h => h
  · rfl
  · (intro w hSw; have e0 := (hSw.box.cell 256).trans hSw.ent; have e1 := (hSw.box.cell 257).trans hSw.room; first | (clear hSw; go_simp; try (with_reducible rfl); done) | exact load_arr hSw)
  try simp only [Act.put, List.setIfInBounds_toArray, List.set_cons_zero, List.set_cons_succ]
  refine wpAnyH_take (i := 1) (oi := ?_) (v := ?_) ?_ (by kernel_rfl) (by kernel_rfl) (by kernel_rfl) ?_ (Or.inl ⟨?_, ?_⟩) (by assumption) ?_
  rotate_left 2
  · simp only [List.getElem?_toArray, List.getElem?_cons_succ, List.getElem?_cons_zero] <;> rfl
  · exact fun _ _ _ h => h
  · rfl
  · (intro w hSw; have e0 := (hSw.box.cell 256).trans hSw.ent; have e1 := (hSw.box.cell 257).trans hSw.room; first | (clear hSw; go_simp; try (with_reducible rfl); done) | exact load_arr hSw)
  try simp only [Act.put, List.setIfInBounds_toArray, List.set_cons_zero, List.set_cons_succ]
  refine wpAnyH_take (i := 2) (oi := ?_) (v := ?_) ?_ (by kernel_rfl) (by kernel_rfl) (by kernel_rfl) ?_ (Or.inl ⟨?_, ?_⟩) (by assumption) ?_
  rotate_left 2
  · simp only [List.getElem?_toArray, List.getElem?_cons_succ, List.getElem?_cons_zero] <;> rfl
  · exact fun _ _ _ h => h
  · rfl
  · (intro w hSw; have e0 := (hSw.box.cell 256).trans hSw.ent; have e1 := (hSw.box.cell 257).trans hSw.room; first | (clear hSw; go_simp; try (with_reducible rfl); done) | exact load_arr hSw)
  try simp only [Act.put, List.setIfInBounds_toArray, List.set_cons_zero, List.set_cons_succ]
  refine wpAnyH_take (i := 3) (oi := ?_) (v := ?_) ?_ (by kernel_rfl) (by kernel_rfl) (by kernel_rfl) ?_ (Or.inl ⟨?_, ?_⟩) (by assumption) ?_
  rotate_left 2
  · simp only [List.getElem?_toArray, List.getElem?_cons_succ, List.getElem?_cons_zero] <;> rfl
  · exact fun _ _ _ h => h
  · rfl
  · (intro w hSw; refine arr_load (x := .tmp 5) ?_ ?_ hSw <;> rfl)
  try simp only [Act.put, List.setIfInBounds_toArray, List.set_cons_zero, List.set_cons_succ]
  refine wpAnyH_take (i := 4) (oi := ?_) (v := ?_) ?_ (by kernel_rfl) (by kernel_rfl) (by kernel_rfl) ?_ (Or.inl ⟨?_, ?_⟩) (by assumption) ?_
  rotate_left 2
  · simp only [List.getElem?_toArray, List.getElem?_cons_succ, List.getElem?_cons_zero] <;> rfl
  · exact fun _ _ _ h => h
  · rfl
  · (intro w hSw; have e0 := (hSw.box.cell 256).trans hSw.ent; have e1 := (hSw.box.cell 257).trans hSw.room; first | (clear hSw; go_simp; try (with_reducible rfl); done) | exact load_arr hSw)
  try simp only [Act.put, List.setIfInBounds_toArray, List.set_cons_zero, List.set_cons_succ]
  refine wpAnyH_take (i := 5) (oi := ?_) (v := ?_) ?_ (by kernel_rfl) (by kernel_rfl) (by kernel_rfl) ?_ (Or.inl ⟨?_, ?_⟩) (by assumption) ?_
  rotate_left 2
  · simp only [List.getElem?_toArray, List.getElem?_cons_succ, List.getElem?_cons_zero] <;> rfl
  · exact fun _ _ _ h => h
  · rfl
  · (intro w hSw; have e0 := (hSw.box.cell 256).trans hSw.ent; have e1 := (hSw.box.cell 257).trans hSw.room; first | (clear hSw; go_simp; try (with_reducible rfl); done) | exact load_arr hSw)
  try simp only [Act.put, List.setIfInBounds_toArray, List.set_cons_zero, List.set_cons_succ]
  refine wpAnyH_take (i := 6) (oi := ?_) (v := ?_) ?_ (by kernel_rfl) (by kernel_rfl) (by kernel_rfl) ?_ (Or.inl ⟨?_, ?_⟩) (by assumption) ?_
  rotate_left 2
  · simp only [List.getElem?_toArray, List.getElem?_cons_succ, List.getElem?_cons_zero] <;> rfl
  · exact fun _ _ _ h => h
  · rfl
  · (intro w hSw; have e0 := (hSw.box.cell 256).trans hSw.ent; have e1 := (hSw.box.cell 257).trans hSw.room; first | (clear hSw; go_simp; try (with_reducible rfl); done) | exact load_arr hSw)
  try simp only [Act.put, List.setIfInBounds_toArray, List.set_cons_zero, List.set_cons_succ]
  refine wpAnyH_take (i := 7) (oi := ?_) (v := ?_) ?_ (by kernel_rfl) (by kernel_rfl) (by kernel_rfl) ?_ (Or.inl ⟨?_, ?_⟩) (by assumption) ?_
  rotate_left 2
  · simp only [List.getElem?_toArray, List.getElem?_cons_succ, List.getElem?_cons_zero] <;> rfl
  · exact fun _ _ _ h => h
  · rfl
  · (intro w hSw; have e0 := (hSw.box.cell 256).trans hSw.ent; have e1 := (hSw.box.cell 257).trans hSw.room; first | (clear hSw; go_simp; try (with_reducible rfl); done) | exact load_arr hSw)
  try simp only [Act.put, List.setIfInBounds_toArray, List.set_cons_zero, List.set_cons_succ]
  refine wpAnyH_take (i := 9) (oi := ?_) (v := ?_) ?_ (by kernel_rfl) (by kernel_rfl) (by kernel_rfl) ?_ (Or.inl ⟨?_, ?_⟩) (by assumption) ?_
  rotate_left 2
  · simp only [List.getElem?_toArray, List.getElem?_cons_succ, List.getElem?_cons_zero] <;> rfl
  · exact fun _ _ _ h => h
  · rfl
  · (intro w hSw; have e0 := (hSw.box.cell 256).trans hSw.ent; have e1 := (hSw.box.cell 257).trans hSw.room; first | (clear hSw; go_simp; try (with_reducible rfl); done) | exact load_arr hSw)
  try simp only [Act.put, List.setIfInBounds_toArray, List.set_cons_zero, List.set_cons_succ]
  refine wpAnyH_take (i := 10) (oi := ?_) (v := ?_) ?_ (by kernel_rfl) (by kernel_rfl) (by kernel_rfl) ?_ (Or.inl ⟨?_, ?_⟩) (by assumption) ?_
  rotate_left 2
  · simp only [List.getElem?_toArray, List.getElem?_cons_succ, List.getElem?_cons_zero] <;> rfl
  · exact fun _ _ _ h => h
  · rfl
  · (intro w hSw; have e0 := (hSw.box.cell 256).trans hSw.ent; have e1 := (hSw.box.cell 257).trans hSw.room; first | (clear hSw; go_simp; try (with_reducible rfl); done) | exact load_arr hSw)
  try simp only [Act.put, List.setIfInBounds_toArray, List.set_cons_zero, List.set_cons_succ]
  refine wpAnyH_take (i := 11) (oi := ?_) (v := ?_) ?_ (by kernel_rfl) (by kernel_rfl) (by kernel_rfl) ?_ (Or.inl ⟨?_, ?_⟩) (by assumption) ?_
  rotate_left 2
  · simp only [List.getElem?_toArray, List.getElem?_cons_succ, List.getElem?_cons_zero] <;> rfl
  · exact fun _ _ _ h => h
  · rfl
  · (intro w hSw; have e0 := (hSw.box.cell 256).trans hSw.ent; have e1 := (hSw.box.cell 257).trans hSw.room; first | (clear hSw; go_simp; try (with_reducible rfl); done) | exact load_arr hSw)
  try simp only [Act.put, List.setIfInBounds_toArray, List.set_cons_zero, List.set_cons_succ]
  refine wpAnyH_take (i := 12) (oi := ?_) (v := ?_) ?_ (by kernel_rfl) (by kernel_rfl) (by kernel_rfl) ?_ (Or.inl ⟨?_, ?_⟩) (by assumption) ?_
  rotate_left 2
  · simp only [List.getElem?_toArray, List.getElem?_cons_succ, List.getElem?_cons_zero] <;> rfl
  · exact fun _ _ _ h => h
  · rfl
  · (intro w hSw; have e0 := (hSw.box.cell 256).trans hSw.ent; have e1 := (hSw.box.cell 257).trans hSw.room; first | (clear hSw; go_simp; try (with_reducible rfl); done) | exact load_arr hSw)
  try simp only [Act.put, List.setIfInBounds_toArray, List.set_cons_zero, List.set_cons_succ]
  refine wpAnyH_ready (rs := [8]) (by kernel_rfl) (by simp) ?_
  refine AllReadyH.cons (o := _) (by simp only [List.getElem?_toArray, List.getElem?_cons_succ, List.getElem?_cons_zero] <;> rfl) (fun K hK => ?_) ?_
  · go_simp
    go_at_call 110
    refine (clone_any (by first | assumption)).mono ?_
    rintro e' w2 ⟨v', rfl, hb2, hown2, hblk2⟩
    obtain ⟨r, hr, hrs⟩ := built_row cs HD.out.size v' (by rcases hown2.2 with ⟨rfl, _⟩ | ⟨_, _, _, rfl, _⟩ <;> rfl) (room : Int)
    have HBR := Lib.hid hr
    have HRS := Lib.hid hrs
    clear hr hrs
    have HC2 := Lib.hid (And.intro hb2 (And.intro hown2 hblk2))
    go_wp2_with fail
    refine hK.out _ _ ?_ (fun hHeld => ?_)
    · (try dsimp only)
      first | exact HD.out | exact HD.out.below HC2.out.1 | exact HD.out.below (Below.new HC2.out.1 _)
    clear hK K
    try simp only [Act.put, List.setIfInBounds_toArray, List.set_cons_zero, List.set_cons_succ]
    refine wpAnyH_take (i := 13) (oi := ?_) (v := ?_) ?_ (by kernel_rfl) (by kernel_rfl) (by kernel_rfl) ?_ (Or.inl ⟨?_, ?_⟩) (by assumption) ?_
    rotate_left 2
    · simp only [List.getElem?_toArray, List.getElem?_cons_succ, List.getElem?_cons_zero] <;> rfl
    · exact fun _ _ _ h => h
    · rfl
    · (intro w hSw; refine build_op (x := .tmp 6) (y := .tmp 11) (z := .tmp 15) ?_ ?_ ?_ ?_ HBR.out <;> rfl)
    try simp only [Act.put, List.setIfInBounds_toArray, List.set_cons_zero, List.set_cons_succ]
    refine wpAnyH_ready (rs := [14]) (by kernel_rfl) (by simp) ?_
    refine AllReadyH.cons (o := _) (by simp only [List.getElem?_toArray, List.getElem?_cons_succ, List.getElem?_cons_zero] <;> rfl) (fun K hK => ?_) ?_
    · go_simp
      refine hK.out _ _ ?_ (fun hHeld => ?_)
      · (try dsimp only)
        first | exact HD.out | exact HD.out.below HC2.out.1 | exact HD.out.below (Below.new HC2.out.1 _)
      clear hK K
      try simp only [Act.put, List.setIfInBounds_toArray, List.set_cons_zero, List.set_cons_succ]
      refine wpAnyH_take (i := 15) (oi := ?_) (v := ?_) ?_ (by kernel_rfl) (by kernel_rfl) (by kernel_rfl) ?_ (Or.inl ⟨?_, ?_⟩) (by assumption) ?_
      rotate_left 2
      · simp only [List.getElem?_toArray, List.getElem?_cons_succ, List.getElem?_cons_zero] <;> rfl
      · exact fun _ _ _ h => h
      · rfl
      · (intro w hSw; have e0 := (hSw.box.cell 256).trans hSw.ent; have e1 := (hSw.box.cell 257).trans hSw.room; first | (clear hSw; go_simp; try (with_reducible rfl); done) | exact load_arr hSw)
      try simp only [Act.put, List.setIfInBounds_toArray, List.set_cons_zero, List.set_cons_succ]
      refine wpAnyH_done (by kernel_rfl) ?_ _
      obtain ⟨e2, he2, hR2⟩ := copied_fin HD.out HC2.out.1 HC2.out.2.1 HC2.out.2.2 HRS.out
      have HFIN := Lib.hid (And.intro he2 hR2)
      clear he2 hR2
      go_wp2_with fail
      go_ret
      have hb := HC2.out.1
      exact ⟨w2.heap.size, e2, r, v', rfl, hb.size, HFIN.out.1, Below.new (Below.step (Below.refl _ _).drew hb) _, HFIN.out.2⟩
    exact AllReadyH.nil
  exact AllReadyH.nil
end Go.Proofs.YtjaijomkdgoenaaDoor.Mn
