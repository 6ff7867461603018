/- A store: unset. -/
import Derived.Test.YtcpmnkihhenbgaaKeys
import Derived.Deep.RegionHeld3
namespace Go.Proofs.Ytcpmnkihhenbgaa
open Go.RowKit
set_option maxRecDepth 1000000
set_option maxHeartbeats 4000000

abbrev sCells (v : Value) (m : Nat) (n K B : Nat) : Array Value := #[v, .map (some m), .int .u64 (n : Int), .int .u64 (K : Int), .int .u64 (B : Int)]
structure MapHas (W : World) (m : Nat) (l : List Pr) : Prop where
  is : ∃ ms es c, W.heap[m]? = some (.map es c) ∧ MapIs ms es ∧ Uniq ms ∧ ∀ z, z ∈ ms ↔ z ∈ l
theorem MapHas.same {W W' : World} {m : Nat} {l : List Pr} (h : MapHas W m l) (hm : W'.heap[m]? = W.heap[m]?) : MapHas W' m l := by
  obtain ⟨ms, es, c, h1, h2⟩ := h.is
  exact ⟨ms, es, c, hm.trans h1, h2⟩
theorem MapHas.lt {W : World} {m : Nat} {l : List Pr} (h : MapHas W m l) : m < W.heap.size := by
  obtain ⟨ms, es, c, h1, h2⟩ := h.is
  exact (Array.getElem?_eq_some_iff.1 h1).1
theorem MapHas.ne {W : World} {m p : Nat} {l : List Pr} {cs : Array Value} {t : TypeId} (h : MapHas W m l) (hf : Fresh W p cs t) : m ≠ p := by
  rintro rfl
  obtain ⟨ms, es, c, h1, h2⟩ := h.is
  unfold Fresh at hf
  rw [hf] at h1
  cases h1
structure StAt (W : World) (q e m : Nat) (l : List Pr) (K B : Nat) (v : Value) : Prop where
  key : KeyAt W q e (keys l) (sCells v m (lenP l) K B) v
  map : MapHas W m l
  srt : SrtP l
  txt : TxtP l
theorem StAt.lt {W : World} {q e m : Nat} {l : List Pr} {K B : Nat} {v : Value} (h : StAt W q e m l K B v) : q < W.heap.size ∧ e < W.heap.size ∧ m < W.heap.size := ⟨h.key.lt.1, h.key.lt.2, h.map.lt⟩
theorem KeyAt.me {W : World} {q e m : Nat} {ks : List ByteArray} {cs : Array Value} {v : Value} {l : List Pr} (h : KeyAt W q e ks cs v) (hm : MapHas W m l) : m ≠ q ∧ m ≠ e := by
  refine ⟨hm.ne h.box, ?_⟩
  rcases h.ety with h1 | ⟨cur, h1⟩
  · rw [h1]; exact hm.ne h.box
  · exact hm.ne h1
theorem StAt.same {W W' : World} {q e m : Nat} {l : List Pr} {K B : Nat} {v : Value} (h : StAt W q e m l K B v) (h1 : W'.heap[q]? = W.heap[q]?) (h2 : W'.heap[e]? = W.heap[e]?) (h3 : W'.heap[m]? = W.heap[m]?) : StAt W' q e m l K B v :=
  ⟨h.key.same h1 h2, h.map.same h3, h.srt, h.txt⟩
theorem StAt.below {W W' : World} {q e m : Nat} {l : List Pr} {K B : Nat} {v : Value} (h : StAt W q e m l K B v) (hb : Below W.heap.size W W') : StAt W' q e m l K B v :=
  h.same (hb.block q h.lt.1) (hb.block e h.lt.2.1) (hb.block m h.lt.2.2)
theorem StAt.cells {W : World} {q e m : Nat} {l : List Pr} {K B : Nat} {v : Value} (h : StAt W q e m l K B v) :
    W.cell? ⟨q, 0, none⟩ = some v ∧ W.cell? ⟨q, 1, none⟩ = some (.map (some m)) ∧ W.cell? ⟨q, 2, none⟩ = some (.int .u64 (lenP l : Nat)) ∧ W.cell? ⟨q, 3, none⟩ = some (.int .u64 (K : Nat)) ∧ W.cell? ⟨q, 4, none⟩ = some (.int .u64 (B : Nat)) ∧ ∀ j, W.frozen? ⟨q, j, none⟩ = false :=
  ⟨h.key.box.cell 0, h.key.box.cell 1, h.key.box.cell 2, h.key.box.cell 3, h.key.box.cell 4, fun j => h.key.box.thawed j⟩
/-- What a look gives. -/
def seeV (o : Option Pr) : Value := match o with | some t => .tuple #[.string t.2, .bool true] | none => .tuple #[.string ⟨#[]⟩, .bool false]
theorem StAt.look {W : World} {q e m : Nat} {l : List Pr} {K B : Nat} {v : Value} (h : StAt W q e m l K B v) (x : ByteArray) :
    (Instr.lookup 68 (.map (some m)) (.string x) true).run Try.prog W = .ok (seeV (getT l x)) W := by
  obtain ⟨ms, es, c, h1, h2, h3, h4⟩ := h.map.is
  rw [run_look h2 h3 h1 x]
  unfold getV seeV
  rw [get_same h3 (srt_uniq h.srt) h4 x]
  cases getT l x <;> rfl
theorem RowS.lit {W : World} {b : Nat} {ks : List ByteArray} (h : Fresh W b (strs ks).toArray 9) (hn : ks.length ≤ 9223372036854775807) : RowS W b ks (.slice (some ⟨b, 0, none⟩) ks.length ks.length) :=
  ⟨.inr ⟨ks.length, _, rfl, h, Nat.le_refl _, hn, by simp [strs], fun j k hk => by simp [strs, hk]⟩⟩

theorem KeyAt.turn {W W5 : World} {q e : Nat} {ks : List ByteArray} {cs cs5 : Array Value} {v : Value} (h : KeyAt W q e ks cs v) (ht : Turned [q] W W5) (hf : Fresh W5 q cs5 72) (hs : cs5.size = 5) (h0 : cs5[0]? = some v) : KeyAt W5 q e ks cs5 v := by
  refine ⟨hf, hs, h0, ?_, ?_⟩
  · rcases h.row.form with ⟨h1, h2⟩ | ⟨cap, cur, h1, h2, h3⟩
    · exact ⟨.inl ⟨h1, h2⟩⟩
    · refine ⟨.inr ⟨cap, cur, h1, ht.other h2 ?_, h3⟩⟩
      intro hx
      simp at hx
      subst hx
      exact absurd (fresh_ty h.box h2) (by decide)
  · rcases h.ety with h1 | ⟨cur, h1⟩
    · exact .inl h1
    · refine .inr ⟨cur, ht.other h1 ?_⟩
      intro hx
      simp at hx
      subst hx
      exact absurd (fresh_ty h.box h1) (by decide)
theorem MapHas.turned {S : List Nat} {W W' : World} {m : Nat} {l : List Pr} (h : MapHas W m l) (ht : Turned S W W') (hn : m ∉ S) : MapHas W' m l := h.same (ht.block m h.lt hn)
theorem uniq_del {l : List Pr} (h : Uniq l) (x : ByteArray) : Uniq (delT l x) := by
  unfold Uniq delT at *
  exact List.Sublist.nodup (List.Sublist.map _ List.filter_sublist) h
theorem MapHas.del {W : World} {m : Nat} {l : List Pr} (h : MapHas W m l) (x : ByteArray) :
    ∃ es c, (∀ ty : TypeId, (Builtin.delete_ #[68, 9] ty #[.map (some m), .string x]).run Try.prog W = .ok (.tuple #[]) (setObj W m (.map es c))) ∧ MapHas (setObj W m (.map es c)) m (dropP x l) := by
  obtain ⟨ms, es, c, h1, h2, h3, h4⟩ := h.is
  obtain ⟨es', k1, k2⟩ := run_del h2 h3 h1 x
  refine ⟨es', c, k2, ⟨delT ms x, es', c, setObj_at h.lt _, k1, uniq_del h3 x, fun z => ?_⟩⟩
  have e1 : z ∈ delT ms x ↔ z ∈ ms ∧ z.1 ≠ x := mem_drop
  rw [e1, mem_drop, h4]
theorem setObj_other {W : World} {m p : Nat} (h : p ≠ m) (o : Obj) : (setObj W m o).heap[p]? = W.heap[p]? := by
  show (W.heap.setIfInBounds m o)[p]? = _
  rw [Array.getElem?_setIfInBounds, if_neg (fun e => h e.symm)]
theorem MapHas.put {W : World} {m : Nat} {l : List Pr} (h : MapHas W m l) (hl : Uniq l) (x y : ByteArray) (hx : getT l x = none) :
    ∃ es c, (Instr.mapUpdate 68 (.map (some m)) (.string x) (.string y)).run Try.prog W = .ok () (setObj W m (.map es c)) ∧ MapHas (setObj W m (.map es c)) m (insP x y l) := by
  obtain ⟨ms, es, c, h1, h2, h3, h4⟩ := h.is
  have hg : getT ms x = none := by rw [get_same h3 hl h4 x]; exact hx
  obtain ⟨es', k1, k2⟩ := run_put h2 h3 h1 x y hg
  refine ⟨es', c + 1, k2, ⟨ms ++ [(x, y)], es', c + 1, setObj_at h.lt _, k1, ?_, fun z => ?_⟩⟩
  · unfold Uniq at h3 ⊢
    rw [List.map_append, List.nodup_append]
    refine ⟨h3, by simp, fun a ha b hb => ?_⟩
    obtain rfl : b = x := by simpa using hb
    rintro rfl
    exact (get_none_iff.1 hg) ha
  · rw [List.mem_append, mem_ins, h4, List.mem_singleton]
    exact Or.comm
theorem unset_fin {W W5 w6 : World} {q e m : Nat} {l : List Pr} {K B n2 : Nat} {v v6 : Value} {x : ByteArray} {o : Obj} (h : StAt W q e m l K B v) (h5 : Turned [q] W W5) (h6 : Turned [q, e] W5 w6) (k6 : KeyAt w6 q e ((keys l).filter fun k => !decide (k = x)) ((sCells v m n2 K B).setIfInBounds 0 v6) v6) (m6 : MapHas w6 m l) (hm : MapHas (setObj w6 m o) m (dropP x l)) (hn : lenP (dropP x l) = n2) :
    Turned [q, e, m] W (setObj w6 m o) ∧ StAt (setObj w6 m o) q e m (dropP x l) K B v6 := by
  obtain ⟨a1, a2⟩ := k6.me m6
  refine ⟨Turned.setObj ((h5.wide (by simp)).trans (h6.wide (by simp))) (by simp) o, ⟨?_, hm, drop_srt h.srt, drop_txt h.txt⟩⟩
  rw [keys_drop, hn]
  exact k6.same (setObj_other a1.symm o) (setObj_other a2.symm o)
theorem unset_none {W : World} {q e m : Nat} {l : List Pr} {K B : Nat} {v : Value} (h : StAt W q e m l K B v) (x : ByteArray) (hx : getT l x = none) :
    Calls Try.prog 47 #[.pointer (some ⟨q, 0, none⟩), .string x] W fun e' w' => (∃ u, e' = .returned u) ∧ w' = W := by
  obtain ⟨c0, c1, c2, c3, c4, f⟩ := h.cells
  have hl := h.look x
  rw [hx] at hl
  simp only [seeV] at hl
  clear h
  go_enter Try.func47, Try.ntmps47
  go_wp2_with fail
  go_end0
  exact ⟨⟨_, rfl⟩, rfl⟩
theorem unset_some {W : World} {q e m : Nat} {l : List Pr} {K B : Nat} {v : Value} (h : StAt W q e m l K B v) (hn : l.length < 100000) (x y : ByteArray) (hx : getT l x = some (x, y)) :
    Calls Try.prog 47 #[.pointer (some ⟨q, 0, none⟩), .string x] W fun e' w' => (∃ u, e' = .returned u) ∧ ∃ v', Turned [q, e, m] W w' ∧ StAt w' q e m (dropP x l) K B v' := by
  obtain ⟨c0, c1, c2, c3, c4, f⟩ := h.cells
  have f2 := f 2
  have hl := h.look x
  rw [hx] at hl
  simp only [seeV] at hl
  have ht := h.txt (x, y) (get_mem hx).1
  have hlp := lenP_drop (srt_uniq h.srt) hx
  have hle := lenP_le h.txt
  have HH := Lib.hid h
  obtain ⟨n, hnn⟩ : ∃ n, lenP l = n := ⟨_, rfl⟩
  obtain ⟨n2, hnn2⟩ : ∃ n, lenP (dropP x l) = n := ⟨_, rfl⟩
  rw [hnn] at c2 hlp hle
  rw [hnn2] at hlp
  obtain ⟨s, hsn⟩ : ∃ s, x.size + y.size = s := ⟨_, rfl⟩
  have hs : ∀ (w : World) (b : Nat), Fresh w b #[.string x, .string y] 9 → Calls Try.prog 76 #[.slice (some ⟨b, 0, none⟩) 2 2] w fun e' w' => e' = .returned (.int .u64 (s : Nat)) ∧ w' = w := by
    intro w b hf
    subst hsn
    have hr := RowS.lit (ks := [x, y]) hf (by simp)
    have := size_any hr (by simp) (by simp [lenS] at *; omega)
    simpa [lenS] using this
  have hw : IntKind.u64.wrap ((n : Int) - (s : Int)) = (n2 : Int) := by rw [IntKind.wrap_u64]; omega
  have HS := Lib.hid hs
  have HLP := Lib.hid hlp
  have hqn : q ≠ W.heap.size := Nat.ne_of_lt h.lt.1
  have ca := ((h.key.box.alloc (.cells #[.string x, .string y] 9)).cell 2)
  have hq1 := h.lt.1
  clear h ht hs hlp hle
  go_enter Try.func47, Try.ntmps47
  go_wp2_with fail
  refine wp_region_held_drew (S := fun _ => True) (by kernel_rfl) ?_ (fun hHeld => ?_)
  · (try dsimp only)
    all_goals trivial
  refine wpAnyH_take (i := 0) (oi := ?_) (v := ?_) ?_ (by kernel_rfl) (by kernel_rfl) (by kernel_rfl) ?_ (Or.inl ⟨?_, ?_⟩) (by assumption) ?_
  rotate_left 2
  · simp only [List.getElem?_toArray, List.getElem?_cons_succ, List.getElem?_cons_zero] <;> rfl
  · exact fun _ _ _ h => h
  · rfl
  · (intro w hSw; (try dsimp only at hSw); go_simp; try (with_reducible rfl))
  try simp only [Act.put, List.setIfInBounds_toArray, List.set_cons_zero, List.set_cons_succ]
  refine wpAnyH_take (i := 1) (oi := ?_) (v := ?_) ?_ (by kernel_rfl) (by kernel_rfl) (by kernel_rfl) ?_ (Or.inl ⟨?_, ?_⟩) (by assumption) ?_
  rotate_left 2
  · simp only [List.getElem?_toArray, List.getElem?_cons_succ, List.getElem?_cons_zero] <;> rfl
  · exact fun _ _ _ h => h
  · rfl
  · (intro w hSw; (try dsimp only at hSw); go_simp; try (with_reducible rfl))
  try simp only [Act.put, List.setIfInBounds_toArray, List.set_cons_zero, List.set_cons_succ]
  refine wpAnyH_take (i := 2) (oi := ?_) (v := ?_) ?_ (by kernel_rfl) (by kernel_rfl) (by kernel_rfl) ?_ (Or.inl ⟨?_, ?_⟩) (by assumption) ?_
  rotate_left 2
  · simp only [List.getElem?_toArray, List.getElem?_cons_succ, List.getElem?_cons_zero] <;> rfl
  · exact fun _ _ _ h => h
  · rfl
  · (intro w hSw; (try dsimp only at hSw); go_simp; try (with_reducible rfl))
  try simp only [Act.put, List.setIfInBounds_toArray, List.set_cons_zero, List.set_cons_succ]
  refine wpAnyH_take (i := 4) (oi := ?_) (v := ?_) ?_ (by kernel_rfl) (by kernel_rfl) (by kernel_rfl) ?_ (Or.inl ⟨?_, ?_⟩) (by assumption) ?_
  rotate_left 2
  · simp only [List.getElem?_toArray, List.getElem?_cons_succ, List.getElem?_cons_zero] <;> rfl
  · exact fun _ _ _ h => h
  · rfl
  · (intro w hSw; (try dsimp only at hSw); go_simp; try (with_reducible rfl))
  try simp only [Act.put, List.setIfInBounds_toArray, List.set_cons_zero, List.set_cons_succ]
  refine wpAnyH_take (i := 5) (oi := ?_) (v := ?_) ?_ (by kernel_rfl) (by kernel_rfl) (by kernel_rfl) ?_ (Or.inl ⟨?_, ?_⟩) (by assumption) ?_
  rotate_left 2
  · simp only [List.getElem?_toArray, List.getElem?_cons_succ, List.getElem?_cons_zero] <;> rfl
  · exact fun _ _ _ h => h
  · rfl
  · (intro w hSw; (try dsimp only at hSw); go_simp; try (with_reducible rfl))
  try simp only [Act.put, List.setIfInBounds_toArray, List.set_cons_zero, List.set_cons_succ]
  refine wpAnyH_ready (rs := [3, 6]) (by kernel_rfl) (by simp) ?_
  refine AllReadyH.cons (o := _) (by simp only [List.getElem?_toArray, List.getElem?_cons_succ, List.getElem?_cons_zero] <;> rfl) (fun K hK => ?_) ?_
  · go_simp
    refine hK.out _ _ ?_ (fun hHeld => ?_)
    · (try dsimp only)
      all_goals trivial
    clear hK K
    try simp only [Act.put, List.setIfInBounds_toArray, List.set_cons_zero, List.set_cons_succ]
    refine wpAnyH_ready (rs := [6]) (by kernel_rfl) (by simp) ?_
    refine AllReadyH.cons (o := _) (by simp only [List.getElem?_toArray, List.getElem?_cons_succ, List.getElem?_cons_zero] <;> rfl) (fun K hK => ?_) ?_
    · go_simp
      refine hK.out _ _ ?_ (fun hHeld => ?_)
      · (try dsimp only)
        all_goals trivial
      clear hK K
      try simp only [Act.put, List.setIfInBounds_toArray, List.set_cons_zero, List.set_cons_succ]
      refine wpAnyH_ready (rs := [7]) (by kernel_rfl) (by simp) ?_
      refine AllReadyH.cons (o := _) (by simp only [List.getElem?_toArray, List.getElem?_cons_succ, List.getElem?_cons_zero] <;> rfl) (fun K hK => ?_) ?_
      · go_simp
        go_at_call 76
        refine (HS.out _ _ (Fresh.new W W.heap.size _ _ rfl).drew).mono ?_
        rintro e1 w1 ⟨rfl, rfl⟩
        go_wp2_with fail
        refine hK.out _ _ ?_ (fun hHeld => ?_)
        · (try dsimp only)
          all_goals trivial
        clear hK K
        try simp only [Act.put, List.setIfInBounds_toArray, List.set_cons_zero, List.set_cons_succ]
        refine wpAnyH_take (i := 8) (oi := ?_) (v := ?_) ?_ (by kernel_rfl) (by kernel_rfl) (by kernel_rfl) ?_ (Or.inl ⟨?_, ?_⟩) (by assumption) ?_
        rotate_left 2
        · simp only [List.getElem?_toArray, List.getElem?_cons_succ, List.getElem?_cons_zero] <;> rfl
        · exact fun _ _ _ h => h
        · rfl
        · (intro w hSw; (try dsimp only at hSw); go_simp; try (with_reducible rfl))
        try simp only [Act.put, List.setIfInBounds_toArray, List.set_cons_zero, List.set_cons_succ]
        refine wpAnyH_take (i := 9) (oi := ?_) (v := ?_) ?_ (by kernel_rfl) (by kernel_rfl) (by kernel_rfl) ?_ (Or.inl ⟨?_, ?_⟩) (by assumption) ?_
        rotate_left 2
        · simp only [List.getElem?_toArray, List.getElem?_cons_succ, List.getElem?_cons_zero] <;> rfl
        · exact fun _ _ _ h => h
        · rfl
        · (intro w hSw; (try dsimp only at hSw); go_simp; try (with_reducible rfl))
        try simp only [Act.put, List.setIfInBounds_toArray, List.set_cons_zero, List.set_cons_succ]
        refine wpAnyH_take (i := 10) (oi := ?_) (v := ?_) ?_ (by kernel_rfl) (by kernel_rfl) (by kernel_rfl) ?_ (Or.inl ⟨?_, ?_⟩) (by assumption) ?_
        rotate_left 2
        · simp only [List.getElem?_toArray, List.getElem?_cons_succ, List.getElem?_cons_zero] <;> rfl
        · exact fun _ _ _ h => h
        · rfl
        · (intro w hSw; (try dsimp only at hSw); go_simp; try (with_reducible rfl))
        try simp only [Act.put, List.setIfInBounds_toArray, List.set_cons_zero, List.set_cons_succ]
        refine wpAnyH_ready (rs := [11]) (by kernel_rfl) (by simp) ?_
        refine AllReadyH.cons (o := _) (by simp only [List.getElem?_toArray, List.getElem?_cons_succ, List.getElem?_cons_zero] <;> rfl) (fun K hK => ?_) ?_
        · go_simp
          refine hK.out _ _ ?_ (fun hHeld => ?_)
          · (try dsimp only)
            all_goals trivial
          clear hK K
          try simp only [Act.put, List.setIfInBounds_toArray, List.set_cons_zero, List.set_cons_succ]
          refine wpAnyH_done (by kernel_rfl) ?_ _
          all_goals skip
          obtain ⟨W5, hW5⟩ : ∃ W5, W5 = ((W.setCell ⟨q, 2, none⟩ (.int .u64 (n2 : Int))).alloc (.cells #[.string x, .string y] 9)).drew := ⟨_, rfl⟩
          rw [← hW5]
          have F5 : Fresh W5 q (sCells v m n2 K B) 72 := by rw [hW5]; exact ((HH.out.key.box.set 2 (.int .u64 (n2 : Int))).alloc _).drew
          have T5 : Turned [q] W W5 := by rw [hW5]; exact (((Turned.refl _ _).setCell (.inl (by simp)) _ _).alloc _).drew
          have K5 := Lib.hid (HH.out.key.turn T5 F5 rfl rfl)
          have M5 := Lib.hid (HH.out.map.turned T5 (by simpa using (HH.out.key.me HH.out.map).1))
          have HT5 := Lib.hid T5
          clear hW5 T5 F5
          go_wp2_with (go_at_call 77; refine (remove_any K5.out HH.out.srt (by rw [keys_len]; omega) x).mono ?_; rintro e6 w6 ⟨⟨u6, rfl⟩, v6, t6, k6⟩; have K6 := Lib.hid k6; have M6 := Lib.hid (M5.out.turned t6 (by have := K5.out.me M5.out; simpa using this)); have d1 := k6.box.cell 1; simp only [List.setIfInBounds_toArray, List.set_cons_zero, List.getElem?_toArray, List.getElem?_cons_succ, List.getElem?_cons_zero] at d1; obtain ⟨es, c, hdel, hmap⟩ := M6.out.del x; have HM := Lib.hid hmap; have HT6 := Lib.hid t6; clear t6 k6 hmap)
          go_end0
          exact ⟨⟨_, rfl⟩, _, unset_fin HH.out HT5.out HT6.out K6.out M6.out HM.out hnn2⟩
        exact AllReadyH.nil
      exact AllReadyH.nil
    exact AllReadyH.nil
  refine AllReadyH.cons (o := _) (by simp only [List.getElem?_toArray, List.getElem?_cons_succ, List.getElem?_cons_zero] <;> rfl) (fun K hK => ?_) ?_
  · go_simp
    refine hK.out _ _ ?_ (fun hHeld => ?_)
    · (try dsimp only)
      all_goals trivial
    clear hK K
    try simp only [Act.put, List.setIfInBounds_toArray, List.set_cons_zero, List.set_cons_succ]
    refine wpAnyH_ready (rs := [3, 7]) (by kernel_rfl) (by simp) ?_
    refine AllReadyH.cons (o := _) (by simp only [List.getElem?_toArray, List.getElem?_cons_succ, List.getElem?_cons_zero] <;> rfl) (fun K hK => ?_) ?_
    · go_simp
      refine hK.out _ _ ?_ (fun hHeld => ?_)
      · (try dsimp only)
        all_goals trivial
      clear hK K
      try simp only [Act.put, List.setIfInBounds_toArray, List.set_cons_zero, List.set_cons_succ]
      refine wpAnyH_ready (rs := [7]) (by kernel_rfl) (by simp) ?_
      refine AllReadyH.cons (o := _) (by simp only [List.getElem?_toArray, List.getElem?_cons_succ, List.getElem?_cons_zero] <;> rfl) (fun K hK => ?_) ?_
      · go_simp
        go_at_call 76
        refine (HS.out _ _ (Fresh.new W W.heap.size _ _ rfl).drew).mono ?_
        rintro e1 w1 ⟨rfl, rfl⟩
        go_wp2_with fail
        refine hK.out _ _ ?_ (fun hHeld => ?_)
        · (try dsimp only)
          all_goals trivial
        clear hK K
        try simp only [Act.put, List.setIfInBounds_toArray, List.set_cons_zero, List.set_cons_succ]
        refine wpAnyH_take (i := 8) (oi := ?_) (v := ?_) ?_ (by kernel_rfl) (by kernel_rfl) (by kernel_rfl) ?_ (Or.inl ⟨?_, ?_⟩) (by assumption) ?_
        rotate_left 2
        · simp only [List.getElem?_toArray, List.getElem?_cons_succ, List.getElem?_cons_zero] <;> rfl
        · exact fun _ _ _ h => h
        · rfl
        · (intro w hSw; (try dsimp only at hSw); go_simp; try (with_reducible rfl))
        try simp only [Act.put, List.setIfInBounds_toArray, List.set_cons_zero, List.set_cons_succ]
        refine wpAnyH_take (i := 9) (oi := ?_) (v := ?_) ?_ (by kernel_rfl) (by kernel_rfl) (by kernel_rfl) ?_ (Or.inl ⟨?_, ?_⟩) (by assumption) ?_
        rotate_left 2
        · simp only [List.getElem?_toArray, List.getElem?_cons_succ, List.getElem?_cons_zero] <;> rfl
        · exact fun _ _ _ h => h
        · rfl
        · (intro w hSw; (try dsimp only at hSw); go_simp; try (with_reducible rfl))
        try simp only [Act.put, List.setIfInBounds_toArray, List.set_cons_zero, List.set_cons_succ]
        refine wpAnyH_take (i := 10) (oi := ?_) (v := ?_) ?_ (by kernel_rfl) (by kernel_rfl) (by kernel_rfl) ?_ (Or.inl ⟨?_, ?_⟩) (by assumption) ?_
        rotate_left 2
        · simp only [List.getElem?_toArray, List.getElem?_cons_succ, List.getElem?_cons_zero] <;> rfl
        · exact fun _ _ _ h => h
        · rfl
        · (intro w hSw; (try dsimp only at hSw); go_simp; try (with_reducible rfl))
        try simp only [Act.put, List.setIfInBounds_toArray, List.set_cons_zero, List.set_cons_succ]
        refine wpAnyH_ready (rs := [11]) (by kernel_rfl) (by simp) ?_
        refine AllReadyH.cons (o := _) (by simp only [List.getElem?_toArray, List.getElem?_cons_succ, List.getElem?_cons_zero] <;> rfl) (fun K hK => ?_) ?_
        · go_simp
          refine hK.out _ _ ?_ (fun hHeld => ?_)
          · (try dsimp only)
            all_goals trivial
          clear hK K
          try simp only [Act.put, List.setIfInBounds_toArray, List.set_cons_zero, List.set_cons_succ]
          refine wpAnyH_done (by kernel_rfl) ?_ _
          all_goals skip
          obtain ⟨W5, hW5⟩ : ∃ W5, W5 = ((W.setCell ⟨q, 2, none⟩ (.int .u64 (n2 : Int))).alloc (.cells #[.string x, .string y] 9)).drew := ⟨_, rfl⟩
          rw [← hW5]
          have F5 : Fresh W5 q (sCells v m n2 K B) 72 := by rw [hW5]; exact ((HH.out.key.box.set 2 (.int .u64 (n2 : Int))).alloc _).drew
          have T5 : Turned [q] W W5 := by rw [hW5]; exact (((Turned.refl _ _).setCell (.inl (by simp)) _ _).alloc _).drew
          have K5 := Lib.hid (HH.out.key.turn T5 F5 rfl rfl)
          have M5 := Lib.hid (HH.out.map.turned T5 (by simpa using (HH.out.key.me HH.out.map).1))
          have HT5 := Lib.hid T5
          clear hW5 T5 F5
          go_wp2_with (go_at_call 77; refine (remove_any K5.out HH.out.srt (by rw [keys_len]; omega) x).mono ?_; rintro e6 w6 ⟨⟨u6, rfl⟩, v6, t6, k6⟩; have K6 := Lib.hid k6; have M6 := Lib.hid (M5.out.turned t6 (by have := K5.out.me M5.out; simpa using this)); have d1 := k6.box.cell 1; simp only [List.setIfInBounds_toArray, List.set_cons_zero, List.getElem?_toArray, List.getElem?_cons_succ, List.getElem?_cons_zero] at d1; obtain ⟨es, c, hdel, hmap⟩ := M6.out.del x; have HM := Lib.hid hmap; have HT6 := Lib.hid t6; clear t6 k6 hmap)
          go_end0
          exact ⟨⟨_, rfl⟩, _, unset_fin HH.out HT5.out HT6.out K6.out M6.out HM.out hnn2⟩
        exact AllReadyH.nil
      exact AllReadyH.nil
    refine AllReadyH.cons (o := _) (by simp only [List.getElem?_toArray, List.getElem?_cons_succ, List.getElem?_cons_zero] <;> rfl) (fun K hK => ?_) ?_
    · go_simp
      go_at_call 76
      refine (HS.out _ _ (Fresh.new W W.heap.size _ _ rfl).drew).mono ?_
      rintro e1 w1 ⟨rfl, rfl⟩
      go_wp2_with fail
      refine hK.out _ _ ?_ (fun hHeld => ?_)
      · (try dsimp only)
        all_goals trivial
      clear hK K
      try simp only [Act.put, List.setIfInBounds_toArray, List.set_cons_zero, List.set_cons_succ]
      refine wpAnyH_ready (rs := [3]) (by kernel_rfl) (by simp) ?_
      refine AllReadyH.cons (o := _) (by simp only [List.getElem?_toArray, List.getElem?_cons_succ, List.getElem?_cons_zero] <;> rfl) (fun K hK => ?_) ?_
      · go_simp
        refine hK.out _ _ ?_ (fun hHeld => ?_)
        · (try dsimp only)
          all_goals trivial
        clear hK K
        try simp only [Act.put, List.setIfInBounds_toArray, List.set_cons_zero, List.set_cons_succ]
        refine wpAnyH_take (i := 8) (oi := ?_) (v := ?_) ?_ (by kernel_rfl) (by kernel_rfl) (by kernel_rfl) ?_ (Or.inl ⟨?_, ?_⟩) (by assumption) ?_
        rotate_left 2
        · simp only [List.getElem?_toArray, List.getElem?_cons_succ, List.getElem?_cons_zero] <;> rfl
        · exact fun _ _ _ h => h
        · rfl
        · (intro w hSw; (try dsimp only at hSw); go_simp; try (with_reducible rfl))
        try simp only [Act.put, List.setIfInBounds_toArray, List.set_cons_zero, List.set_cons_succ]
        refine wpAnyH_take (i := 9) (oi := ?_) (v := ?_) ?_ (by kernel_rfl) (by kernel_rfl) (by kernel_rfl) ?_ (Or.inl ⟨?_, ?_⟩) (by assumption) ?_
        rotate_left 2
        · simp only [List.getElem?_toArray, List.getElem?_cons_succ, List.getElem?_cons_zero] <;> rfl
        · exact fun _ _ _ h => h
        · rfl
        · (intro w hSw; (try dsimp only at hSw); go_simp; try (with_reducible rfl))
        try simp only [Act.put, List.setIfInBounds_toArray, List.set_cons_zero, List.set_cons_succ]
        refine wpAnyH_take (i := 10) (oi := ?_) (v := ?_) ?_ (by kernel_rfl) (by kernel_rfl) (by kernel_rfl) ?_ (Or.inl ⟨?_, ?_⟩) (by assumption) ?_
        rotate_left 2
        · simp only [List.getElem?_toArray, List.getElem?_cons_succ, List.getElem?_cons_zero] <;> rfl
        · exact fun _ _ _ h => h
        · rfl
        · (intro w hSw; (try dsimp only at hSw); go_simp; try (with_reducible rfl))
        try simp only [Act.put, List.setIfInBounds_toArray, List.set_cons_zero, List.set_cons_succ]
        refine wpAnyH_ready (rs := [11]) (by kernel_rfl) (by simp) ?_
        refine AllReadyH.cons (o := _) (by simp only [List.getElem?_toArray, List.getElem?_cons_succ, List.getElem?_cons_zero] <;> rfl) (fun K hK => ?_) ?_
        · go_simp
          refine hK.out _ _ ?_ (fun hHeld => ?_)
          · (try dsimp only)
            all_goals trivial
          clear hK K
          try simp only [Act.put, List.setIfInBounds_toArray, List.set_cons_zero, List.set_cons_succ]
          refine wpAnyH_done (by kernel_rfl) ?_ _
          all_goals skip
          obtain ⟨W5, hW5⟩ : ∃ W5, W5 = ((W.setCell ⟨q, 2, none⟩ (.int .u64 (n2 : Int))).alloc (.cells #[.string x, .string y] 9)).drew := ⟨_, rfl⟩
          rw [← hW5]
          have F5 : Fresh W5 q (sCells v m n2 K B) 72 := by rw [hW5]; exact ((HH.out.key.box.set 2 (.int .u64 (n2 : Int))).alloc _).drew
          have T5 : Turned [q] W W5 := by rw [hW5]; exact (((Turned.refl _ _).setCell (.inl (by simp)) _ _).alloc _).drew
          have K5 := Lib.hid (HH.out.key.turn T5 F5 rfl rfl)
          have M5 := Lib.hid (HH.out.map.turned T5 (by simpa using (HH.out.key.me HH.out.map).1))
          have HT5 := Lib.hid T5
          clear hW5 T5 F5
          go_wp2_with (go_at_call 77; refine (remove_any K5.out HH.out.srt (by rw [keys_len]; omega) x).mono ?_; rintro e6 w6 ⟨⟨u6, rfl⟩, v6, t6, k6⟩; have K6 := Lib.hid k6; have M6 := Lib.hid (M5.out.turned t6 (by have := K5.out.me M5.out; simpa using this)); have d1 := k6.box.cell 1; simp only [List.setIfInBounds_toArray, List.set_cons_zero, List.getElem?_toArray, List.getElem?_cons_succ, List.getElem?_cons_zero] at d1; obtain ⟨es, c, hdel, hmap⟩ := M6.out.del x; have HM := Lib.hid hmap; have HT6 := Lib.hid t6; clear t6 k6 hmap)
          go_end0
          exact ⟨⟨_, rfl⟩, _, unset_fin HH.out HT5.out HT6.out K6.out M6.out HM.out hnn2⟩
        exact AllReadyH.nil
      exact AllReadyH.nil
    exact AllReadyH.nil
  exact AllReadyH.nil
theorem unset_any {W : World} {q e m : Nat} {l : List Pr} {K B : Nat} {v : Value} (h : StAt W q e m l K B v) (hn : l.length < 100000) (x : ByteArray) :
    Calls Try.prog 47 #[.pointer (some ⟨q, 0, none⟩), .string x] W fun e' w' => (∃ u, e' = .returned u) ∧ ∃ v', Turned [q, e, m] W w' ∧ StAt w' q e m (dropP x l) K B v' := by
  cases hx : getT l x with
  | none =>
    refine (unset_none h x hx).mono ?_
    rintro e' w' ⟨hu, rfl⟩
    rw [drop_none hx]
    exact ⟨hu, v, Turned.refl _ _, h⟩
  | some t =>
    obtain ⟨_, h2⟩ := get_mem hx
    obtain ⟨a, b⟩ := t
    obtain rfl : a = x := h2
    exact unset_some h hn a b hx
theorem set_fin {W W1 w2 W3 W5 : World} {q e e2 m : Nat} {l : List Pr} {K B n n2 : Nat} {v v2 : Value} {x y : ByteArray} {o : Obj} (h1 : Turned [q, e, m] W W1) (s1 : StAt W1 q e m (dropP x l) K B v) (h2 : Turned [q, e] W1 w2) (k2 : KeyAt w2 q e2 (keys (putP x y l)) ((sCells v m n K B).setIfInBounds 0 v2) v2) (h3 : W3 = setObj w2 m o) (hm : MapHas W3 m (putP x y l)) (h5 : Turned [q] W3 W5) (f5 : Fresh W5 q (sCells v2 m n2 K B) 72) (hn : lenP (putP x y l) = n2) (hx : x.size ≤ 16) (hy : y.size ≤ 32) (hl : SrtP l) (ht : TxtP l) (hne : m ≠ q ∧ m ≠ e2) :
    Turned [q, e, m] W W5 ∧ StAt W5 q e2 m (putP x y l) K B v2 := by
  have k3 : KeyAt W3 q e2 (keys (putP x y l)) ((sCells v m n K B).setIfInBounds 0 v2) v2 := by
    rw [h3]
    exact k2.same (setObj_other hne.1.symm o) (setObj_other hne.2.symm o)
  refine ⟨h1.trans (Turned.trans (W' := W3) ?_ (h5.wide (by simp))), ?_, hm.turned h5 (by simpa using hne.1), put_srt hl, put_txt ht hx hy⟩
  · rw [h3]
    exact Turned.setObj (h2.wide (by simp)) (by simp) o
  · rw [hn]
    exact k3.turn h5 f5 rfl rfl

theorem set_any {W : World} {q e m : Nat} {l : List Pr} {K B : Nat} {v : Value} (h : StAt W q e m l K B v) (hn : l.length < 100000) (x y : ByteArray) (hx : x.size ≤ 16) (hy : y.size ≤ 32) :
    Calls Try.prog 49 #[.pointer (some ⟨q, 0, none⟩), .string x, .string y] W fun e' w' => (∃ u, e' = .returned u) ∧ ∃ v' e2, (e2 = e ∨ W.heap.size ≤ e2) ∧ Turned [q, e, m] W w' ∧ StAt w' q e2 m (putP x y l) K B v' := by
  have HH := Lib.hid h
  have HX := Lib.hid hx
  have HY := Lib.hid hy
  have hdl := drop_len x l
  have hle := lenP_le (drop_txt (x := x) h.txt)
  have hlp := (lenP_ins x y (dropP x l)).1
  obtain ⟨n, hnn⟩ : ∃ n, lenP (dropP x l) = n := ⟨_, rfl⟩
  obtain ⟨n2, hnn2⟩ : ∃ n, lenP (putP x y l) = n := ⟨_, rfl⟩
  obtain ⟨s, hsn⟩ : ∃ s, x.size + y.size = s := ⟨_, rfl⟩
  have hlp2 : n2 = n + s := by rw [← hnn2, ← hnn, ← hsn]; exact hlp
  have hs : ∀ (w : World) (b : Nat), Fresh w b #[.string x, .string y] 9 → Calls Try.prog 76 #[.slice (some ⟨b, 0, none⟩) 2 2] w fun e' w' => e' = .returned (.int .u64 (s : Nat)) ∧ w' = w := by
    intro w b hf
    subst hsn
    have hr := RowS.lit (ks := [x, y]) hf (by simp)
    have := size_any hr (by simp) (by simp [lenS] at *; omega)
    simpa [lenS] using this
  have hw : IntKind.u64.wrap ((n : Int) + (s : Int)) = (n2 : Int) := by rw [IntKind.wrap_u64]; omega
  have HS := Lib.hid hs
  clear h hs hle hlp hlp2 hx hy
  go_enter Try.func49, Try.ntmps49
  go_wp2_with (first
    | (go_at_call 47
       refine (unset_any HH.out hn x).mono ?_
       rintro e1 w1 ⟨⟨u1, rfl⟩, v1, t1, s1⟩
       have S1 := Lib.hid s1
       have T1 := Lib.hid t1
       clear s1 t1)
    | (go_at_call 78
       refine (insert_key S1.out.key S1.out.srt (by rw [keys_len]; omega) x (not_mem_drop x l)).mono ?_
       rintro e2 w2 ⟨⟨u2, rfl⟩, v2, g2, hg2, t2, k2⟩
       rw [← keys_ins x y] at k2
       have K2 := Lib.hid k2
       have T2 := Lib.hid t2
       have G2 := Lib.hid hg2
       have M2 := Lib.hid (S1.out.map.turned t2 (by have := S1.out.key.me S1.out.map; simpa using this))
       have d1 := k2.box.cell 1
       simp only [List.setIfInBounds_toArray, List.set_cons_zero, List.getElem?_toArray, List.getElem?_cons_succ, List.getElem?_cons_zero] at d1
       obtain ⟨es, c, hput, hmap⟩ := M2.out.put (srt_uniq S1.out.srt) x y (get_none_iff.2 (not_mem_drop x l))
       have HM := Lib.hid hmap
       clear k2 t2 hg2 hmap))
  obtain ⟨W3, hW3⟩ : ∃ W3, W3 = setObj w2 m (.map es c) := ⟨_, rfl⟩
  rw [← hW3]
  have K3 : KeyAt W3 q g2 (keys (putP x y l)) ((sCells v1 m n K B).setIfInBounds 0 v2) v2 := by
    obtain ⟨a1, a2⟩ := K2.out.me M2.out
    rw [hW3, ← hnn]
    exact K2.out.same (setObj_other a1.symm _) (setObj_other a2.symm _)
  have c2 := K3.box.cell 2
  have f2 := K3.box.thawed 2
  have ca := (K3.box.alloc (.cells #[.string x, .string y] 9)).cell 2
  simp only [List.setIfInBounds_toArray, List.set_cons_zero, List.getElem?_toArray, List.getElem?_cons_succ, List.getElem?_cons_zero] at c2 ca
  have hqn : q ≠ W3.heap.size := Nat.ne_of_lt K3.lt.1
  have hq1 := K3.lt.1
  have HK3 := Lib.hid K3
  have HW3 := Lib.hid hW3
  clear K3 hW3
  refine wp_region_held_drew (S := fun _ => True) (by kernel_rfl) ?_ (fun hHeld => ?_)
  · (try dsimp only)
    all_goals trivial
  refine wpAnyH_take (i := 0) (oi := ?_) (v := ?_) ?_ (by kernel_rfl) (by kernel_rfl) (by kernel_rfl) ?_ (Or.inl ⟨?_, ?_⟩) (by assumption) ?_
  rotate_left 2
  · simp only [List.getElem?_toArray, List.getElem?_cons_succ, List.getElem?_cons_zero] <;> rfl
  · exact fun _ _ _ h => h
  · rfl
  · (intro w hSw; (try dsimp only at hSw); go_simp; try (with_reducible rfl))
  try simp only [Act.put, List.setIfInBounds_toArray, List.set_cons_zero, List.set_cons_succ]
  refine wpAnyH_take (i := 1) (oi := ?_) (v := ?_) ?_ (by kernel_rfl) (by kernel_rfl) (by kernel_rfl) ?_ (Or.inl ⟨?_, ?_⟩) (by assumption) ?_
  rotate_left 2
  · simp only [List.getElem?_toArray, List.getElem?_cons_succ, List.getElem?_cons_zero] <;> rfl
  · exact fun _ _ _ h => h
  · rfl
  · (intro w hSw; (try dsimp only at hSw); go_simp; try (with_reducible rfl))
  try simp only [Act.put, List.setIfInBounds_toArray, List.set_cons_zero, List.set_cons_succ]
  refine wpAnyH_take (i := 2) (oi := ?_) (v := ?_) ?_ (by kernel_rfl) (by kernel_rfl) (by kernel_rfl) ?_ (Or.inl ⟨?_, ?_⟩) (by assumption) ?_
  rotate_left 2
  · simp only [List.getElem?_toArray, List.getElem?_cons_succ, List.getElem?_cons_zero] <;> rfl
  · exact fun _ _ _ h => h
  · rfl
  · (intro w hSw; (try dsimp only at hSw); go_simp; try (with_reducible rfl))
  try simp only [Act.put, List.setIfInBounds_toArray, List.set_cons_zero, List.set_cons_succ]
  refine wpAnyH_take (i := 4) (oi := ?_) (v := ?_) ?_ (by kernel_rfl) (by kernel_rfl) (by kernel_rfl) ?_ (Or.inl ⟨?_, ?_⟩) (by assumption) ?_
  rotate_left 2
  · simp only [List.getElem?_toArray, List.getElem?_cons_succ, List.getElem?_cons_zero] <;> rfl
  · exact fun _ _ _ h => h
  · rfl
  · (intro w hSw; (try dsimp only at hSw); go_simp; try (with_reducible rfl))
  try simp only [Act.put, List.setIfInBounds_toArray, List.set_cons_zero, List.set_cons_succ]
  refine wpAnyH_take (i := 5) (oi := ?_) (v := ?_) ?_ (by kernel_rfl) (by kernel_rfl) (by kernel_rfl) ?_ (Or.inl ⟨?_, ?_⟩) (by assumption) ?_
  rotate_left 2
  · simp only [List.getElem?_toArray, List.getElem?_cons_succ, List.getElem?_cons_zero] <;> rfl
  · exact fun _ _ _ h => h
  · rfl
  · (intro w hSw; (try dsimp only at hSw); go_simp; try (with_reducible rfl))
  try simp only [Act.put, List.setIfInBounds_toArray, List.set_cons_zero, List.set_cons_succ]
  refine wpAnyH_ready (rs := [3, 6]) (by kernel_rfl) (by simp) ?_
  refine AllReadyH.cons (o := _) (by simp only [List.getElem?_toArray, List.getElem?_cons_succ, List.getElem?_cons_zero] <;> rfl) (fun K hK => ?_) ?_
  · go_simp
    refine hK.out _ _ ?_ (fun hHeld => ?_)
    · (try dsimp only)
      all_goals trivial
    clear hK K
    try simp only [Act.put, List.setIfInBounds_toArray, List.set_cons_zero, List.set_cons_succ]
    refine wpAnyH_ready (rs := [6]) (by kernel_rfl) (by simp) ?_
    refine AllReadyH.cons (o := _) (by simp only [List.getElem?_toArray, List.getElem?_cons_succ, List.getElem?_cons_zero] <;> rfl) (fun K hK => ?_) ?_
    · go_simp
      refine hK.out _ _ ?_ (fun hHeld => ?_)
      · (try dsimp only)
        all_goals trivial
      clear hK K
      try simp only [Act.put, List.setIfInBounds_toArray, List.set_cons_zero, List.set_cons_succ]
      refine wpAnyH_ready (rs := [7]) (by kernel_rfl) (by simp) ?_
      refine AllReadyH.cons (o := _) (by simp only [List.getElem?_toArray, List.getElem?_cons_succ, List.getElem?_cons_zero] <;> rfl) (fun K hK => ?_) ?_
      · go_simp
        go_at_call 76
        refine (HS.out _ _ (Fresh.new W3 W3.heap.size _ _ rfl).drew).mono ?_
        rintro e1 w1 ⟨rfl, rfl⟩
        go_wp2_with fail
        refine hK.out _ _ ?_ (fun hHeld => ?_)
        · (try dsimp only)
          all_goals trivial
        clear hK K
        try simp only [Act.put, List.setIfInBounds_toArray, List.set_cons_zero, List.set_cons_succ]
        refine wpAnyH_take (i := 8) (oi := ?_) (v := ?_) ?_ (by kernel_rfl) (by kernel_rfl) (by kernel_rfl) ?_ (Or.inl ⟨?_, ?_⟩) (by assumption) ?_
        rotate_left 2
        · simp only [List.getElem?_toArray, List.getElem?_cons_succ, List.getElem?_cons_zero] <;> rfl
        · exact fun _ _ _ h => h
        · rfl
        · (intro w hSw; (try dsimp only at hSw); go_simp; try (with_reducible rfl))
        try simp only [Act.put, List.setIfInBounds_toArray, List.set_cons_zero, List.set_cons_succ]
        refine wpAnyH_take (i := 9) (oi := ?_) (v := ?_) ?_ (by kernel_rfl) (by kernel_rfl) (by kernel_rfl) ?_ (Or.inl ⟨?_, ?_⟩) (by assumption) ?_
        rotate_left 2
        · simp only [List.getElem?_toArray, List.getElem?_cons_succ, List.getElem?_cons_zero] <;> rfl
        · exact fun _ _ _ h => h
        · rfl
        · (intro w hSw; (try dsimp only at hSw); go_simp; try (with_reducible rfl))
        try simp only [Act.put, List.setIfInBounds_toArray, List.set_cons_zero, List.set_cons_succ]
        refine wpAnyH_take (i := 10) (oi := ?_) (v := ?_) ?_ (by kernel_rfl) (by kernel_rfl) (by kernel_rfl) ?_ (Or.inl ⟨?_, ?_⟩) (by assumption) ?_
        rotate_left 2
        · simp only [List.getElem?_toArray, List.getElem?_cons_succ, List.getElem?_cons_zero] <;> rfl
        · exact fun _ _ _ h => h
        · rfl
        · (intro w hSw; (try dsimp only at hSw); go_simp; try (with_reducible rfl))
        try simp only [Act.put, List.setIfInBounds_toArray, List.set_cons_zero, List.set_cons_succ]
        refine wpAnyH_ready (rs := [11]) (by kernel_rfl) (by simp) ?_
        refine AllReadyH.cons (o := _) (by simp only [List.getElem?_toArray, List.getElem?_cons_succ, List.getElem?_cons_zero] <;> rfl) (fun K hK => ?_) ?_
        · go_simp
          refine hK.out _ _ ?_ (fun hHeld => ?_)
          · (try dsimp only)
            all_goals trivial
          clear hK K
          try simp only [Act.put, List.setIfInBounds_toArray, List.set_cons_zero, List.set_cons_succ]
          refine wpAnyH_done (by kernel_rfl) ?_ _
          all_goals skip
          obtain ⟨W5, hW5⟩ : ∃ W5, W5 = ((W3.setCell ⟨q, 2, none⟩ (.int .u64 (n2 : Int))).alloc (.cells #[.string x, .string y] 9)).drew := ⟨_, rfl⟩
          rw [← hW5]
          have F5 : Fresh W5 q (sCells v2 m n2 K B) 72 := by rw [hW5]; exact ((HK3.out.box.set 2 (.int .u64 (n2 : Int))).alloc _).drew
          have T5 : Turned [q] W3 W5 := by rw [hW5]; exact (((Turned.refl _ _).setCell (.inl (by simp)) _ _).alloc _).drew
          clear hW5
          go_end0
          have r5 := set_fin T1.out S1.out T2.out K2.out HW3.out (by rw [HW3.out]; exact HM.out) T5 F5 hnn2 HX.out HY.out HH.out.srt HH.out.txt (K2.out.me M2.out)
          exact ⟨⟨_, rfl⟩, _, g2, G2.out.imp id (fun h => Nat.le_trans T1.out.size h), r5⟩
        exact AllReadyH.nil
      exact AllReadyH.nil
    exact AllReadyH.nil
  refine AllReadyH.cons (o := _) (by simp only [List.getElem?_toArray, List.getElem?_cons_succ, List.getElem?_cons_zero] <;> rfl) (fun K hK => ?_) ?_
  · go_simp
    refine hK.out _ _ ?_ (fun hHeld => ?_)
    · (try dsimp only)
      all_goals trivial
    clear hK K
    try simp only [Act.put, List.setIfInBounds_toArray, List.set_cons_zero, List.set_cons_succ]
    refine wpAnyH_ready (rs := [3, 7]) (by kernel_rfl) (by simp) ?_
    refine AllReadyH.cons (o := _) (by simp only [List.getElem?_toArray, List.getElem?_cons_succ, List.getElem?_cons_zero] <;> rfl) (fun K hK => ?_) ?_
    · go_simp
      refine hK.out _ _ ?_ (fun hHeld => ?_)
      · (try dsimp only)
        all_goals trivial
      clear hK K
      try simp only [Act.put, List.setIfInBounds_toArray, List.set_cons_zero, List.set_cons_succ]
      refine wpAnyH_ready (rs := [7]) (by kernel_rfl) (by simp) ?_
      refine AllReadyH.cons (o := _) (by simp only [List.getElem?_toArray, List.getElem?_cons_succ, List.getElem?_cons_zero] <;> rfl) (fun K hK => ?_) ?_
      · go_simp
        go_at_call 76
        refine (HS.out _ _ (Fresh.new W3 W3.heap.size _ _ rfl).drew).mono ?_
        rintro e1 w1 ⟨rfl, rfl⟩
        go_wp2_with fail
        refine hK.out _ _ ?_ (fun hHeld => ?_)
        · (try dsimp only)
          all_goals trivial
        clear hK K
        try simp only [Act.put, List.setIfInBounds_toArray, List.set_cons_zero, List.set_cons_succ]
        refine wpAnyH_take (i := 8) (oi := ?_) (v := ?_) ?_ (by kernel_rfl) (by kernel_rfl) (by kernel_rfl) ?_ (Or.inl ⟨?_, ?_⟩) (by assumption) ?_
        rotate_left 2
        · simp only [List.getElem?_toArray, List.getElem?_cons_succ, List.getElem?_cons_zero] <;> rfl
        · exact fun _ _ _ h => h
        · rfl
        · (intro w hSw; (try dsimp only at hSw); go_simp; try (with_reducible rfl))
        try simp only [Act.put, List.setIfInBounds_toArray, List.set_cons_zero, List.set_cons_succ]
        refine wpAnyH_take (i := 9) (oi := ?_) (v := ?_) ?_ (by kernel_rfl) (by kernel_rfl) (by kernel_rfl) ?_ (Or.inl ⟨?_, ?_⟩) (by assumption) ?_
        rotate_left 2
        · simp only [List.getElem?_toArray, List.getElem?_cons_succ, List.getElem?_cons_zero] <;> rfl
        · exact fun _ _ _ h => h
        · rfl
        · (intro w hSw; (try dsimp only at hSw); go_simp; try (with_reducible rfl))
        try simp only [Act.put, List.setIfInBounds_toArray, List.set_cons_zero, List.set_cons_succ]
        refine wpAnyH_take (i := 10) (oi := ?_) (v := ?_) ?_ (by kernel_rfl) (by kernel_rfl) (by kernel_rfl) ?_ (Or.inl ⟨?_, ?_⟩) (by assumption) ?_
        rotate_left 2
        · simp only [List.getElem?_toArray, List.getElem?_cons_succ, List.getElem?_cons_zero] <;> rfl
        · exact fun _ _ _ h => h
        · rfl
        · (intro w hSw; (try dsimp only at hSw); go_simp; try (with_reducible rfl))
        try simp only [Act.put, List.setIfInBounds_toArray, List.set_cons_zero, List.set_cons_succ]
        refine wpAnyH_ready (rs := [11]) (by kernel_rfl) (by simp) ?_
        refine AllReadyH.cons (o := _) (by simp only [List.getElem?_toArray, List.getElem?_cons_succ, List.getElem?_cons_zero] <;> rfl) (fun K hK => ?_) ?_
        · go_simp
          refine hK.out _ _ ?_ (fun hHeld => ?_)
          · (try dsimp only)
            all_goals trivial
          clear hK K
          try simp only [Act.put, List.setIfInBounds_toArray, List.set_cons_zero, List.set_cons_succ]
          refine wpAnyH_done (by kernel_rfl) ?_ _
          all_goals skip
          obtain ⟨W5, hW5⟩ : ∃ W5, W5 = ((W3.setCell ⟨q, 2, none⟩ (.int .u64 (n2 : Int))).alloc (.cells #[.string x, .string y] 9)).drew := ⟨_, rfl⟩
          rw [← hW5]
          have F5 : Fresh W5 q (sCells v2 m n2 K B) 72 := by rw [hW5]; exact ((HK3.out.box.set 2 (.int .u64 (n2 : Int))).alloc _).drew
          have T5 : Turned [q] W3 W5 := by rw [hW5]; exact (((Turned.refl _ _).setCell (.inl (by simp)) _ _).alloc _).drew
          clear hW5
          go_end0
          have r5 := set_fin T1.out S1.out T2.out K2.out HW3.out (by rw [HW3.out]; exact HM.out) T5 F5 hnn2 HX.out HY.out HH.out.srt HH.out.txt (K2.out.me M2.out)
          exact ⟨⟨_, rfl⟩, _, g2, G2.out.imp id (fun h => Nat.le_trans T1.out.size h), r5⟩
        exact AllReadyH.nil
      exact AllReadyH.nil
    refine AllReadyH.cons (o := _) (by simp only [List.getElem?_toArray, List.getElem?_cons_succ, List.getElem?_cons_zero] <;> rfl) (fun K hK => ?_) ?_
    · go_simp
      go_at_call 76
      refine (HS.out _ _ (Fresh.new W3 W3.heap.size _ _ rfl).drew).mono ?_
      rintro e1 w1 ⟨rfl, rfl⟩
      go_wp2_with fail
      refine hK.out _ _ ?_ (fun hHeld => ?_)
      · (try dsimp only)
        all_goals trivial
      clear hK K
      try simp only [Act.put, List.setIfInBounds_toArray, List.set_cons_zero, List.set_cons_succ]
      refine wpAnyH_ready (rs := [3]) (by kernel_rfl) (by simp) ?_
      refine AllReadyH.cons (o := _) (by simp only [List.getElem?_toArray, List.getElem?_cons_succ, List.getElem?_cons_zero] <;> rfl) (fun K hK => ?_) ?_
      · go_simp
        refine hK.out _ _ ?_ (fun hHeld => ?_)
        · (try dsimp only)
          all_goals trivial
        clear hK K
        try simp only [Act.put, List.setIfInBounds_toArray, List.set_cons_zero, List.set_cons_succ]
        refine wpAnyH_take (i := 8) (oi := ?_) (v := ?_) ?_ (by kernel_rfl) (by kernel_rfl) (by kernel_rfl) ?_ (Or.inl ⟨?_, ?_⟩) (by assumption) ?_
        rotate_left 2
        · simp only [List.getElem?_toArray, List.getElem?_cons_succ, List.getElem?_cons_zero] <;> rfl
        · exact fun _ _ _ h => h
        · rfl
        · (intro w hSw; (try dsimp only at hSw); go_simp; try (with_reducible rfl))
        try simp only [Act.put, List.setIfInBounds_toArray, List.set_cons_zero, List.set_cons_succ]
        refine wpAnyH_take (i := 9) (oi := ?_) (v := ?_) ?_ (by kernel_rfl) (by kernel_rfl) (by kernel_rfl) ?_ (Or.inl ⟨?_, ?_⟩) (by assumption) ?_
        rotate_left 2
        · simp only [List.getElem?_toArray, List.getElem?_cons_succ, List.getElem?_cons_zero] <;> rfl
        · exact fun _ _ _ h => h
        · rfl
        · (intro w hSw; (try dsimp only at hSw); go_simp; try (with_reducible rfl))
        try simp only [Act.put, List.setIfInBounds_toArray, List.set_cons_zero, List.set_cons_succ]
        refine wpAnyH_take (i := 10) (oi := ?_) (v := ?_) ?_ (by kernel_rfl) (by kernel_rfl) (by kernel_rfl) ?_ (Or.inl ⟨?_, ?_⟩) (by assumption) ?_
        rotate_left 2
        · simp only [List.getElem?_toArray, List.getElem?_cons_succ, List.getElem?_cons_zero] <;> rfl
        · exact fun _ _ _ h => h
        · rfl
        · (intro w hSw; (try dsimp only at hSw); go_simp; try (with_reducible rfl))
        try simp only [Act.put, List.setIfInBounds_toArray, List.set_cons_zero, List.set_cons_succ]
        refine wpAnyH_ready (rs := [11]) (by kernel_rfl) (by simp) ?_
        refine AllReadyH.cons (o := _) (by simp only [List.getElem?_toArray, List.getElem?_cons_succ, List.getElem?_cons_zero] <;> rfl) (fun K hK => ?_) ?_
        · go_simp
          refine hK.out _ _ ?_ (fun hHeld => ?_)
          · (try dsimp only)
            all_goals trivial
          clear hK K
          try simp only [Act.put, List.setIfInBounds_toArray, List.set_cons_zero, List.set_cons_succ]
          refine wpAnyH_done (by kernel_rfl) ?_ _
          all_goals skip
          obtain ⟨W5, hW5⟩ : ∃ W5, W5 = ((W3.setCell ⟨q, 2, none⟩ (.int .u64 (n2 : Int))).alloc (.cells #[.string x, .string y] 9)).drew := ⟨_, rfl⟩
          rw [← hW5]
          have F5 : Fresh W5 q (sCells v2 m n2 K B) 72 := by rw [hW5]; exact ((HK3.out.box.set 2 (.int .u64 (n2 : Int))).alloc _).drew
          have T5 : Turned [q] W3 W5 := by rw [hW5]; exact (((Turned.refl _ _).setCell (.inl (by simp)) _ _).alloc _).drew
          clear hW5
          go_end0
          have r5 := set_fin T1.out S1.out T2.out K2.out HW3.out (by rw [HW3.out]; exact HM.out) T5 F5 hnn2 HX.out HY.out HH.out.srt HH.out.txt (K2.out.me M2.out)
          exact ⟨⟨_, rfl⟩, _, g2, G2.out.imp id (fun h => Nat.le_trans T1.out.size h), r5⟩
        exact AllReadyH.nil
      exact AllReadyH.nil
    exact AllReadyH.nil
  exact AllReadyH.nil
end Go.Proofs.Ytcpmnkihhenbgaa
