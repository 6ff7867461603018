/- The reference model of an art: Delete. -/
import Derived.Test.YtfffifmpfkkgbaaRef11c
import Derived.Deep.RegionHeld3
namespace Go.Proofs.Ytfffifmpfkkgbaa
open Go.RowKit Go.Shelf
set_option maxRecDepth 1000000
set_option maxHeartbeats 4000000

theorem step_app_run {w : World} {ops : Array Oper} {o : Oper} {a : Act} {K : Act → World → Prop} {Q : Exit → Act → World → Prop} {E : Prop} (hw : Region.wanted o (yielded ops a.tmps) = true) (s x : Operand) (t t' : TypeId)
    (ho : o.op = .call { callee := .builtin .append, args := #[s, x], argTypes := #[t, t'] }) (v u : Value) (hs : a.eval s = v) (hx : a.eval x = u) {v' : Value} {w' : World} (hr : ∀ ty, (Builtin.append_ #[t, t'] ty #[v, u]).run Try.prog w = .ok v' w') (h : K (a.put o.dst v') w') :
    if Region.wanted o (yielded ops a.tmps) = true then Oper.wp Try.prog o a w K Q else E := by
  rw [if_pos hw]
  unfold Oper.wp execOp
  simp only [ho, resolve, invoke, builtin, Sem.run_bind, Sem.run_pure, Result.andThen_ok, List.map_toArray, List.map_cons, List.map_nil, hs, hx, hr]
  exact h
theorem rdelete_none {W : World} {v : Value} {l : List Pr} (h : Seg W v l) (hs : SrtP l) (ht : TxtP l) (hn : l.length < 900) (x : ByteArray) (hh : hasK x (keys l) = false) :
    Calls Try.prog 28 #[rb v, .string x] W fun e' w' => ∃ v', e' = .returned (.tuple #[rb v', .int .i64 5]) ∧ Below W.heap.size W w' ∧ Seg w' v' l := by
  obtain ⟨a, cap, rfl, hcap, _⟩ := h.form
  obtain ⟨W1, hW1, b1, f1, f2, s1⟩ := rbox2 W (.slice a l.length cap)
  have HHA := Lib.hid (rhas_any (h.below b1) hs ht (by omega) x)
  rw [hh] at HHA
  have HS := Lib.hid (h.below b1)
  have HB := Lib.hid b1
  have HW1 := Lib.hid hW1
  have HF2 := Lib.hid f2
  have c0 := f1.cell 0
  simp only [List.getElem?_toArray, List.getElem?_cons_zero] at c0
  clear h hs ht hn b1 f1 f2 hW1 hh
  unfold rb at HHA ⊢
  generalize hPost : (fun (e' : Ending) (w' : World) => ∃ v', e' = .returned (.tuple #[.agg #[v'], .int .i64 5]) ∧ Below W.heap.size W w' ∧ Seg w' v' l) = Post
  have HPost := Lib.hid hPost
  clear hPost
  go_enter Try.func28, Try.ntmps28
  go_upto_region 1 with fail
  rw [← HW1.out]
  go_wp2_with (go_at_call 48; refine HHA.out.mono ?_; rintro e2 w2 ⟨rfl, hb2⟩; have H2 := Lib.hid hb2; have c0 := (hb2.cell (cell_lt c0)).trans c0; have f2 := HF2.out.below hb2; have s0 := f2.thawed 0; have t0 := f2.cell 0; simp only [List.getElem?_toArray, List.getElem?_cons_zero] at t0; have HFF := Lib.hid f2; clear hb2 f2)
  obtain ⟨hR1, hR2⟩ := told (v := .slice a l.length cap) (Below.step HB.out H2.out) (HS.out.below H2.out) HFF.out (Nat.le_succ _)
  have q0 := (HFF.out.set 0 (.slice a l.length cap)).cell 0
  simp at q0
  refine bodyPost_ret (v := .tuple #[rb (.slice a l.length cap), .int .i64 5]) (by simp [results, Try.results28, go_sem, rb, q0]) rfl ?_
  rw [← HPost.out]
  exact ⟨_, rfl, hR1, hR2⟩
theorem rdelete_some {W : World} {v : Value} {l : List Pr} (h : Seg W v l) (hs : SrtP l) (ht : TxtP l) (hn : l.length < 900) (x : ByteArray) (hh : hasK x (keys l) = true) :
    Calls Try.prog 28 #[rb v, .string x] W fun e' w' => ∃ v', e' = .returned (.tuple #[rb v', .int .i64 0]) ∧ Below W.heap.size W w' ∧ Seg w' v' (dropP x l) := by
  obtain ⟨a, cap, rfl, hcap, _⟩ := h.form
  obtain ⟨W1, hW1, b1, f1, f2, s1⟩ := rbox2 W (.slice a l.length cap)
  have HHA := Lib.hid (rhas_any (h.below b1) hs ht (by omega) x)
  have HAT : Hid (∀ W', Below W1.heap.size W1 W' → Calls Try.prog 47 #[rb (.slice a l.length cap), .string x] W' fun e' w' => e' = .returned (.int .i64 (atK x (keys l) : Nat)) ∧ Below W'.heap.size W' w') := fun W' hb => rat_any ((h.below b1).below hb) hs ht (by omega) x
  have hdp := drop_place hs x
  rw [hh, if_pos rfl] at hdp
  obtain ⟨A, hA⟩ : ∃ A, atK x (keys l) = A := ⟨_, rfl⟩
  have hA1 : A < l.length := by
    rcases place_has hs x with ⟨y, h1, _⟩ | ⟨h1, _⟩
    · rw [hA] at h1; exact (List.getElem?_eq_some_iff.1 h1).1
    · rw [hh] at h1; cases h1
  rw [hA] at HAT hdp
  rw [hh] at HHA
  have HS := Lib.hid (h.below b1)
  have HB := Lib.hid b1
  have HW1 := Lib.hid hW1
  have HF2 := Lib.hid f2
  have HN := Lib.hid (And.intro hn hA1)
  have c0 := f1.cell 0
  simp only [List.getElem?_toArray, List.getElem?_cons_zero] at c0
  have hA0 : (0 : Int) ≤ (A : Int) := by omega
  have hAc : (A : Int) ≤ (cap : Int) := by omega
  have hAc' : A ≤ cap := by omega
  have q1 : (0 : Int) ≤ (A : Int) + 1 := by omega
  have q2 : (A : Int) + 1 ≤ (l.length : Int) := by omega
  have q3 : ((A : Int) + 1).toNat = A + 1 := by omega
  have q4 : IntKind.i64.wrap ((A : Int) + 1) = (A : Int) + 1 := by rw [IntKind.wrap_i64]; omega
  have HDP := Lib.hid hdp
  clear h hs ht hn b1 f1 f2 hW1 hA hh hA1 hdp
  unfold rb at HAT HHA ⊢
  generalize hPost : (fun (e' : Ending) (w' : World) => ∃ v', e' = .returned (.tuple #[.agg #[v'], .int .i64 0]) ∧ Below W.heap.size W w' ∧ Seg w' v' (dropP x l)) = Post
  have HPost := Lib.hid hPost
  clear hPost
  go_enter Try.func28, Try.ntmps28
  go_upto_region 1 with fail
  rw [← HW1.out]
  go_upto_region 4 with (first
    | (go_at_call 48; refine HHA.out.mono ?_; rintro e2 w2 ⟨rfl, hb2⟩; have H2 := Lib.hid hb2; have c0 := (hb2.cell (cell_lt c0)).trans c0; clear hb2)
    | (go_at_call 47; refine (HAT.out _ H2.out).mono ?_; rintro e3 w3 ⟨rfl, hb3⟩; have H3 := Lib.hid (Below.step H2.out hb3); have c0 := (hb3.cell (cell_lt c0)).trans c0; clear hb3))
  have hAle : A ≤ l.length := by have := HN.out.2; omega
  have lA : (l.take A).length = A := by rw [List.length_take, Nat.min_eq_left hAle]
  have BD : Below w3.heap.size w3 w3.drew := (Below.refl _ _).drew
  obtain ⟨v4, W4, r4, o4, g4⟩ := app_seg (row_none w3.drew) ((((HS.out.below H3.out).below BD).take hAle).below (Below.new (Below.refl _ _) _)) (by simp) (by have := HN.out.1; simp; omega)
  have b4 : Below w3.heap.size w3 W4 := Below.step BD (Below.grown2 (Below.new (Below.refl w3.drew.heap.size w3.drew) _) g4 (fun r hr => ((row_none w3.drew).lt r hr).1))
  rw [List.nil_append] at o4
  obtain ⟨a4, k4, rfl⟩ := row_form o4
  obtain ⟨v5, W5, r5, o5, g5, y5⟩ := second (w2 := w3.drew) (L := l.take A) (a := a) (cap := cap) (l := l) (A + 1) o4 (by have := b4.size; exact this) (Below.refl _ _) ((HS.out.below H3.out).below b4) (by have := HN.out.2; omega) (by have := HN.out.1; omega) (by rw [lA]; have := HN.out.1; omega)
  rw [lA] at r4 r5
  rw [← HDP.out] at o5
  obtain ⟨a5, k5, rfl⟩ := row_form o5
  obtain ⟨n5, hn5⟩ : ∃ n5, (dropP x l).length = n5 := ⟨_, rfl⟩
  rw [hn5] at r5 o5
  have b5 : Below w3.heap.size w3 W5 := Below.grown2 b4 g5 y5
  have H5 := Lib.hid (And.intro (Below.step H3.out b5) (show Seg W5 (.slice a5 n5 k5) (dropP x l) from Seg.of_row (by rw [hn5]; exact o5)))
  have f5 := HF2.out.below H5.out.1
  have s5 := f5.thawed 0
  have t5 := f5.cell 0
  simp only [List.getElem?_toArray, List.getElem?_cons_zero] at t5
  have HF5 := Lib.hid f5
  obtain ⟨W2e, hE3⟩ : ∃ W2e, W2e = (w3.alloc (.cells #[] 34)).drew := ⟨_, rfl⟩
  have hE4 : w3.drew.alloc (.cells #[] 34) = W2e := by rw [hE3]; rfl
  rw [hE4] at r4
  have HE3 := Lib.hid hE3
  have C2 : Hid (w3.drew.cell? ⟨W.heap.size, 0, none⟩ = some (.slice a l.length cap)) := c0
  have C3 : Hid (W2e.cell? ⟨W.heap.size, 0, none⟩ = some (.slice a l.length cap)) := by show _ = _; rw [← hE4]; exact ((Below.new (Below.refl w3.drew.heap.size w3.drew) _).cell (cell_lt c0)).trans c0
  have C3b : Hid (((w3.alloc (.cells #[] 34)).drew).cell? ⟨W.heap.size, 0, none⟩ = some (.slice a l.length cap)) := by show _ = _; rw [← hE3]; exact C3.out
  have C4 : Hid (W4.cell? ⟨W.heap.size, 0, none⟩ = some (.slice a l.length cap)) := (b4.cell (cell_lt c0)).trans c0
  have C5 : Hid (W5.cell? ⟨W.heap.size, 0, none⟩ = some (.slice a l.length cap)) := (b5.cell (cell_lt c0)).trans c0
  have C6 : Hid ((W5.setCell ⟨W.heap.size + 1, 0, none⟩ (.slice a5 n5 k5)).cell? ⟨W.heap.size, 0, none⟩ = some (.slice a l.length cap)) := by
    show _ = _
    rw [cell_same (Below.heap_setCell W5 ⟨W.heap.size + 1, 0, none⟩ _ W.heap.size (by simp))]
    exact C5.out
  clear o4 g4 b4 o5 g5 y5 b5 f5 hn5 lA hE3 hE4 BD
  focus
    refine wp_region_held_drew (S := fun w' => w'.cell? ⟨W.heap.size, 0, none⟩ = some (.slice a l.length cap)) (by kernel_rfl) ?_ (fun hHeld => ?_)
    · (try dsimp only)
      first | assumption | exact C2.out | exact C3.out | exact C3b.out | exact C4.out | exact C5.out | exact C6.out
    refine wpAnyH_take (i := 1) (oi := ?_) (v := ?_) ?_ (by kernel_rfl) (by kernel_rfl) (by kernel_rfl) ?_ (Or.inl ⟨?_, ?_⟩) (by assumption) ?_
    rotate_left 2
    · simp only [List.getElem?_toArray, List.getElem?_cons_succ, List.getElem?_cons_zero] <;> rfl
    · exact fun _ _ _ h => h
    · rfl
    · (intro w hSw; (try dsimp only at hSw); go_simp; try (with_reducible rfl))
    try simp only [Act.put, List.setIfInBounds_toArray, List.set_cons_zero, List.set_cons_succ]
    refine wpAnyH_take (i := 2) (oi := ?_) (v := ?_) ?_ (by kernel_rfl) (by kernel_rfl) (by kernel_rfl) ?_ (Or.inl ⟨?_, ?_⟩) (by assumption) ?_
    rotate_left 2
    · simp only [List.getElem?_toArray, List.getElem?_cons_succ, List.getElem?_cons_zero] <;> rfl
    · exact fun _ _ _ h => h
    · rfl
    · (intro w hSw; (try dsimp only at hSw); go_simp; try (with_reducible rfl))
    try simp only [Act.put, List.setIfInBounds_toArray, List.set_cons_zero, List.set_cons_succ]
    refine wpAnyH_take (i := 3) (oi := ?_) (v := ?_) ?_ (by kernel_rfl) (by kernel_rfl) (by kernel_rfl) ?_ (Or.inl ⟨?_, ?_⟩) (by assumption) ?_
    rotate_left 2
    · simp only [List.getElem?_toArray, List.getElem?_cons_succ, List.getElem?_cons_zero] <;> rfl
    · exact fun _ _ _ h => h
    · rfl
    · (intro w hSw; (try dsimp only at hSw); go_simp; try (with_reducible rfl))
    try simp only [Act.put, List.setIfInBounds_toArray, List.set_cons_zero, List.set_cons_succ]
    refine wpAnyH_take (i := 4) (oi := ?_) (v := ?_) ?_ (by kernel_rfl) (by kernel_rfl) (by kernel_rfl) ?_ (Or.inl ⟨?_, ?_⟩) (by assumption) ?_
    rotate_left 2
    · simp only [List.getElem?_toArray, List.getElem?_cons_succ, List.getElem?_cons_zero] <;> rfl
    · exact fun _ _ _ h => h
    · rfl
    · (intro w hSw; (try dsimp only at hSw); go_simp; try (with_reducible rfl))
    try simp only [Act.put, List.setIfInBounds_toArray, List.set_cons_zero, List.set_cons_succ]
    refine wpAnyH_take (i := 6) (oi := ?_) (v := ?_) ?_ (by kernel_rfl) (by kernel_rfl) (by kernel_rfl) ?_ (Or.inl ⟨?_, ?_⟩) (by assumption) ?_
    rotate_left 2
    · simp only [List.getElem?_toArray, List.getElem?_cons_succ, List.getElem?_cons_zero] <;> rfl
    · exact fun _ _ _ h => h
    · rfl
    · (intro w hSw; (try dsimp only at hSw); go_simp; try (with_reducible rfl))
    try simp only [Act.put, List.setIfInBounds_toArray, List.set_cons_zero, List.set_cons_succ]
    refine wpAnyH_take (i := 7) (oi := ?_) (v := ?_) ?_ (by kernel_rfl) (by kernel_rfl) (by kernel_rfl) ?_ (Or.inl ⟨?_, ?_⟩) (by assumption) ?_
    rotate_left 2
    · simp only [List.getElem?_toArray, List.getElem?_cons_succ, List.getElem?_cons_zero] <;> rfl
    · exact fun _ _ _ h => h
    · rfl
    · (intro w hSw; (try dsimp only at hSw); go_simp; try (with_reducible rfl))
    try simp only [Act.put, List.setIfInBounds_toArray, List.set_cons_zero, List.set_cons_succ]
    refine wpAnyH_take (i := 8) (oi := ?_) (v := ?_) ?_ (by kernel_rfl) (by kernel_rfl) (by kernel_rfl) ?_ (Or.inl ⟨?_, ?_⟩) (by assumption) ?_
    rotate_left 2
    · simp only [List.getElem?_toArray, List.getElem?_cons_succ, List.getElem?_cons_zero] <;> rfl
    · exact fun _ _ _ h => h
    · rfl
    · (intro w hSw; (try dsimp only at hSw); go_simp; try (with_reducible rfl))
    try simp only [Act.put, List.setIfInBounds_toArray, List.set_cons_zero, List.set_cons_succ]
    refine wpAnyH_take (i := 9) (oi := ?_) (v := ?_) ?_ (by kernel_rfl) (by kernel_rfl) (by kernel_rfl) ?_ (Or.inl ⟨?_, ?_⟩) (by assumption) ?_
    rotate_left 2
    · simp only [List.getElem?_toArray, List.getElem?_cons_succ, List.getElem?_cons_zero] <;> rfl
    · exact fun _ _ _ h => h
    · rfl
    · (intro w hSw; (try dsimp only at hSw); go_simp; try (with_reducible rfl))
    try simp only [Act.put, List.setIfInBounds_toArray, List.set_cons_zero, List.set_cons_succ]
    refine wpAnyH_take (i := 10) (oi := ?_) (v := ?_) ?_ (by kernel_rfl) (by kernel_rfl) (by kernel_rfl) ?_ (Or.inl ⟨?_, ?_⟩) (by assumption) ?_
    rotate_left 2
    · simp only [List.getElem?_toArray, List.getElem?_cons_succ, List.getElem?_cons_zero] <;> rfl
    · exact fun _ _ _ h => h
    · rfl
    · (intro w hSw; (try dsimp only at hSw); go_simp; try (with_reducible rfl))
    try simp only [Act.put, List.setIfInBounds_toArray, List.set_cons_zero, List.set_cons_succ]
    refine wpAnyH_ready (rs := [0]) (by kernel_rfl) (by simp) ?_
    refine AllReadyH.cons (o := _) (by simp only [List.getElem?_toArray, List.getElem?_cons_zero] <;> rfl) (fun K hK => ?_) ?_
    · go_simp
      refine hK.out _ _ ?_ (fun hHeld => ?_)
      · (try dsimp only)
        first | assumption | exact C2.out | exact C3.out | exact C3b.out | exact C4.out | exact C5.out | exact C6.out
      clear hK K
      try simp only [Act.put, List.setIfInBounds_toArray, List.set_cons_zero, List.set_cons_succ]
      refine wpAnyH_ready (rs := [5]) (by kernel_rfl) (by simp) ?_
      refine AllReadyH.cons (o := _) (by simp only [List.getElem?_toArray, List.getElem?_cons_succ, List.getElem?_cons_zero] <;> rfl) (fun K hK => ?_) ?_
      · rw [← HE3.out]
        refine step_app_run (by rfl) _ _ 26 26 (by rfl) _ _ (by rfl) (by rfl) r4 ?_
        refine hK.out _ _ ?_ (fun hHeld => ?_)
        · (try dsimp only)
          first | assumption | exact C2.out | exact C3.out | exact C3b.out | exact C4.out | exact C5.out | exact C6.out
        clear hK K
        try simp only [Act.put, List.setIfInBounds_toArray, List.set_cons_zero, List.set_cons_succ]
        refine wpAnyH_ready (rs := [11]) (by kernel_rfl) (by simp) ?_
        refine AllReadyH.cons (o := _) (by simp only [List.getElem?_toArray, List.getElem?_cons_succ, List.getElem?_cons_zero] <;> rfl) (fun K hK => ?_) ?_
        · skip
          refine step_app_run (by rfl) _ _ 26 26 (by rfl) _ _ (by rfl) (by rfl) r5 ?_
          refine hK.out _ _ ?_ (fun hHeld => ?_)
          · (try dsimp only)
            first | assumption | exact C2.out | exact C3.out | exact C3b.out | exact C4.out | exact C5.out | exact C6.out
          clear hK K
          try simp only [Act.put, List.setIfInBounds_toArray, List.set_cons_zero, List.set_cons_succ]
          refine wpAnyH_take (i := 12) (oi := ?_) (v := ?_) ?_ (by kernel_rfl) (by kernel_rfl) (by kernel_rfl) ?_ (Or.inl ⟨?_, ?_⟩) (by assumption) ?_
          rotate_left 2
          · simp only [List.getElem?_toArray, List.getElem?_cons_succ, List.getElem?_cons_zero] <;> rfl
          · exact fun _ _ _ h => h
          · rfl
          · (intro w hSw; (try dsimp only at hSw); go_simp; try (with_reducible rfl))
          try simp only [Act.put, List.setIfInBounds_toArray, List.set_cons_zero, List.set_cons_succ]
          refine wpAnyH_ready (rs := [13]) (by kernel_rfl) (by simp) ?_
          refine AllReadyH.cons (o := _) (by simp only [List.getElem?_toArray, List.getElem?_cons_succ, List.getElem?_cons_zero] <;> rfl) (fun K hK => ?_) ?_
          · go_simp
            refine hK.out _ _ ?_ (fun hHeld => ?_)
            · (try dsimp only)
              first | assumption | exact C2.out | exact C3.out | exact C3b.out | exact C4.out | exact C5.out | exact C6.out
            clear hK K
            try simp only [Act.put, List.setIfInBounds_toArray, List.set_cons_zero, List.set_cons_succ]
            refine wpAnyH_take (i := 14) (oi := ?_) (v := ?_) ?_ (by kernel_rfl) (by kernel_rfl) (by kernel_rfl) ?_ (Or.inl ⟨?_, ?_⟩) (by assumption) ?_
            rotate_left 2
            · simp only [List.getElem?_toArray, List.getElem?_cons_succ, List.getElem?_cons_zero] <;> rfl
            · exact fun _ _ _ h => h
            · rfl
            · (intro w hSw; (try dsimp only at hSw); go_simp; try (with_reducible rfl))
            try simp only [Act.put, List.setIfInBounds_toArray, List.set_cons_zero, List.set_cons_succ]
            refine wpAnyH_done (by kernel_rfl) ?_ _
            go_wp2_with fail
            all_goals
              obtain ⟨hR1, hR2⟩ := told (v := .slice a5 n5 k5) (Below.step HB.out H5.out.1) H5.out.2 HF5.out (Nat.le_succ _)
              have q0 := (HF5.out.set 0 (.slice a5 n5 k5)).cell 0
              simp at q0
              refine bodyPost_ret (v := .tuple #[rb (.slice a5 n5 k5), .int .i64 0]) (by simp [results, Try.results28, go_sem, rb, q0]) rfl ?_
              rw [← HPost.out]
              exact ⟨_, rfl, hR1, hR2⟩
          exact AllReadyH.nil
        exact AllReadyH.nil
      exact AllReadyH.nil
    exact AllReadyH.nil
theorem rput_any {W : World} {v : Value} {l : List Pr} (h : Seg W v l) (hs : SrtP l) (ht : TxtP l) (hn : l.length < 900) (x y : ByteArray) (hxs : x.size ≤ 1000) :
    Calls Try.prog 27 #[rb v, .string x, .string y] W fun e' w' => ∃ v', e' = .returned (.tuple #[rb v', .int .i64 (putA x y l).2]) ∧ Below W.heap.size W w' ∧ Seg w' v' (putA x y l).1 := by
  by_cases hb : Cd.isCode x.data.toList = true ∧ y.size ≤ 32
  · have e : putA x y l = (putP x y l, 0) := by unfold putA; rw [if_pos hb.1, if_pos hb.2]
    rw [e]
    exact rput_ok h hs ht hn x y hb.1 hb.2 hxs
  · have e : (putA x y l).1 = l := by
      unfold putA
      by_cases h1 : Cd.isCode x.data.toList = true
      · rw [if_pos h1, if_neg (fun h2 => hb ⟨h1, h2⟩)]
      · rw [if_neg h1]
    rw [e]
    exact rput_bad h x y hxs hb
theorem rdelete_any {W : World} {v : Value} {l : List Pr} (h : Seg W v l) (hs : SrtP l) (ht : TxtP l) (hn : l.length < 900) (x : ByteArray) :
    Calls Try.prog 28 #[rb v, .string x] W fun e' w' => ∃ v', e' = .returned (.tuple #[rb v', .int .i64 (delA x l).2]) ∧ Below W.heap.size W w' ∧ Seg w' v' (delA x l).1 := by
  unfold delA
  cases hh : hasK x (keys l)
  · exact rdelete_none h hs ht hn x hh
  · exact rdelete_some h hs ht hn x hh
end Go.Proofs.Ytfffifmpfkkgbaa
