/- A slab of elements of type int: its state, and what its methods tell. -/
import Derived.Test.YtbbadkgmnfjfaaaBase
namespace Go.Proofs.Ytbbadkgmnfjfaaa.Si
open Go.RowKit Go.Proofs.Ytbbadkgmnfjfaaa
set_option maxRecDepth 100000
set_option maxHeartbeats 4000000

structure At (W : World) (p a g : Nat) (s : Sb) : Prop where
  hp : Fresh W p #[.pointer (some ⟨a, 0, none⟩)] 67
  ha : Fresh W a #[.slice (some ⟨g, 0, none⟩) s.l.length s.cap, .int .i64 s.len, .int .i64 s.left, .int .i64 s.low] 65
  hg : Fresh W g (cec s.l ++ s.rest).toArray 82
theorem At.below {W W' : World} {p a g : Nat} {s : Sb} (h : At W p a g s) (hb : Below W.heap.size W W') : At W' p a g s := ⟨h.hp.below hb, h.ha.below hb, h.hg.below hb⟩
theorem At.drew {W : World} {p a g : Nat} {s : Sb} (h : At W p a g s) : At W.drew p a g s := ⟨h.hp.drew, h.ha.drew, h.hg.drew⟩
theorem At.cells {W : World} {p a g : Nat} {s : Sb} (h : At W p a g s) : W.cell? ⟨p, 0, none⟩ = some (.pointer (some ⟨a, 0, none⟩)) ∧ W.cell? ⟨a, 0, none⟩ = some (.slice (some ⟨g, 0, none⟩) s.l.length s.cap) ∧ W.cell? ⟨a, 1, none⟩ = some (.int .i64 s.len) ∧ W.cell? ⟨a, 2, none⟩ = some (.int .i64 s.left) ∧ W.cell? ⟨a, 3, none⟩ = some (.int .i64 s.low) :=
  ⟨h.hp.cell 0, h.ha.cell 0, h.ha.cell 1, h.ha.cell 2, h.ha.cell 3⟩
theorem At.one {W : World} {p a g : Nat} {s : Sb} (h : At W p a g s) (i : Nat) (t : Ce) (ht : s.l[i]? = some t) : W.cell? ⟨g, i * 3, none⟩ = some t.x ∧ W.cell? ⟨g, i * 3 + 1, none⟩ = some (.int .u32 t.u) ∧ W.cell? ⟨g, i * 3 + 2, none⟩ = some (.bool t.t) := by
  obtain ⟨a0, a1, a2⟩ := cec_at s.l i t ht
  have hl := cec_length s.l
  have hi := (List.getElem?_eq_some_iff.1 ht).1
  refine ⟨(h.hg.cell _).trans ?_, (h.hg.cell _).trans ?_, (h.hg.cell _).trans ?_⟩
  · rw [List.getElem?_toArray, cec_app _ _ _ (by omega)]; exact a0
  · rw [List.getElem?_toArray, cec_app _ _ _ (by omega)]; exact a1
  · rw [List.getElem?_toArray, cec_app _ _ _ (by omega)]; exact a2
theorem At.pa {W : World} {p a g : Nat} {s : Sb} (h : At W p a g s) : p ≠ a := by
  rintro rfl
  have h1 := h.hp
  have h2 := h.ha
  unfold Fresh at h1 h2
  rw [h1] at h2
  simp at h2
theorem At.pg {W : World} {p a g : Nat} {s : Sb} (h : At W p a g s) : p ≠ g := by
  rintro rfl
  have h1 := h.hp
  have h2 := h.hg
  unfold Fresh at h1 h2
  rw [h1] at h2
  injection h2 with h2
  injection h2 with _ h2 _
  exact absurd h2 (by decide)
theorem At.ag {W : World} {p a g : Nat} {s : Sb} (h : At W p a g s) : a ≠ g := by
  rintro rfl
  have h1 := h.ha
  have h2 := h.hg
  unfold Fresh at h1 h2
  rw [h1] at h2
  injection h2 with h2
  injection h2 with _ h2 _
  exact absurd h2 (by decide)

theorem isNil_any {W : World} {p a g : Nat} {s : Sb} (h : At W p a g s) :
    Calls Try.prog 33 #[.pointer (some ⟨p, 0, none⟩)] W fun e w' => e = .returned (.bool false) ∧ w' = W := by
  obtain ⟨c, c0, c1, c2, c3⟩ := h.cells
  clear h
  go_enter Try.func33, Try.ntmps33
  go_wp2_with fail
  go_ret
  exact ⟨rfl, rfl⟩
theorem len_any {W : World} {p a g : Nat} {s : Sb} (h : At W p a g s) :
    Calls Try.prog 15 #[.pointer (some ⟨p, 0, none⟩)] W fun e w' => e = .returned (.int .i64 s.len) ∧ w' = W := by
  have HI := Lib.hid (isNil_any h)
  obtain ⟨c, c0, c1, c2, c3⟩ := h.cells
  clear h
  go_enter Try.func15, Try.ntmps15
  go_wp2_with fail
  refine HI.out.mono ?_
  rintro e w1 ⟨rfl, rfl⟩
  go_wp2_with fail
  go_ret
  exact ⟨rfl, rfl⟩
theorem left_any {W : World} {p a g : Nat} {s : Sb} (h : At W p a g s) :
    Calls Try.prog 21 #[.pointer (some ⟨p, 0, none⟩)] W fun e w' => e = .returned (.int .i64 s.left) ∧ w' = W := by
  have HI := Lib.hid (isNil_any h)
  obtain ⟨c, c0, c1, c2, c3⟩ := h.cells
  clear h
  go_enter Try.func21, Try.ntmps21
  go_wp2_with fail
  refine HI.out.mono ?_
  rintro e w1 ⟨rfl, rfl⟩
  go_wp2_with fail
  go_ret
  exact ⟨rfl, rfl⟩

/-- A reference in its box. -/
structure Boxed (W W1 : World) (p a g : Nat) (s : Sb) (x k : Int) : Prop where
  is : W1 = W.alloc (.cells #[.int .i64 x, .int .u32 k] 36)
  at' : At W1 p a g s
  box : Fresh W1 W.heap.size #[.int .i64 x, .int .u32 k] 36
  low : Below W.heap.size W W1
theorem At.boxed {W : World} {p a g : Nat} {s : Sb} (h : At W p a g s) (x k : Int) : ∃ W1, Boxed W W1 p a g s x k := by
  refine ⟨_, rfl, h.below ?_, Fresh.new _ _ _ _ rfl, ?_⟩ <;> exact Below.new (Below.refl _ _) _
theorem Boxed.ref {W W1 : World} {p a g : Nat} {s : Sb} {x k : Int} (h : Boxed W W1 p a g s x k) : W1.cell? ⟨W.heap.size, 0, none⟩ = some (.int .i64 x) ∧ W1.cell? ⟨W.heap.size, 1, none⟩ = some (.int .u32 k) := ⟨h.box.cell 0, h.box.cell 1⟩

theorem at_out {W : World} {p a g : Nat} {s : Sb} (h : At W p a g s) (x k : Int) (hx : ¬ (0 ≤ x ∧ x < s.l.length)) :
    Calls Try.prog 39 #[.pointer (some ⟨a, 0, none⟩), refV x k] W fun e w' => e = .returned (.pointer none) ∧ Below W.heap.size W w' := by
  obtain ⟨W1, hb⟩ := h.boxed x k
  have HX := Lib.hid hb
  have HW := Lib.hid hb.is
  obtain ⟨r0, r1⟩ := hb.ref
  obtain ⟨c, c0, c1, c2, c3⟩ := hb.at'.cells
  obtain ⟨n, hn⟩ : ∃ n : Nat, s.l.length = n := ⟨_, rfl⟩
  rw [hn] at c0 hx
  have hc : decide (x < 0) = true ∨ (decide (x < 0) = false ∧ decide ((n : Int) ≤ x) = true) := by
    simp only [decide_eq_true_eq, decide_eq_false_iff_not]; omega
  clear h hb hx hn
  rcases hc with q1 | ⟨q1, q2⟩
  all_goals
    go_enter Try.func39, Try.ntmps39
    go_upto_region 1 with fail
    rw [← HW.out]
    go_region
    go_wp2_with fail
    go_ret
    exact ⟨rfl, HX.out.low.drew⟩
theorem at_in {W : World} {p a g : Nat} {s : Sb} (h : At W p a g s) (x : Nat) (k : Int) (hx : x < s.l.length) (hM : s.l.length ≤ 5000) (t : Ce) (ht : s.l[x]? = some t) :
    Calls Try.prog 39 #[.pointer (some ⟨a, 0, none⟩), refV x k] W fun e w' => e = .returned (.pointer (if (t.t && t.u == k) = true then some ⟨g, x * 3, none⟩ else none)) ∧ Below W.heap.size W w' := by
  obtain ⟨W1, hb⟩ := h.boxed x k
  have HX := Lib.hid hb
  have HW := Lib.hid hb.is
  obtain ⟨r0, r1⟩ := hb.ref
  obtain ⟨c, c0, c1, c2, c3⟩ := hb.at'.cells
  obtain ⟨n, hn⟩ : ∃ n : Nat, s.l.length = n := ⟨_, rfl⟩
  obtain ⟨tx, tu, tt⟩ := t
  obtain ⟨e0, e1, e2⟩ := hb.at'.one x _ ht
  dsimp only at e0 e1 e2
  rw [hn] at c0 hx hM
  have q1 : decide ((x : Int) < 0) = false := decide_eq_false (by omega)
  have q2 : decide ((n : Int) ≤ (x : Int)) = false := decide_eq_false (by omega)
  have q2' : decide (n ≤ x) = false := decide_eq_false (by omega)
  have q3 : (0 : Int) ≤ (x : Int) := Int.natCast_nonneg _
  have q4 : (x : Int) < (n : Int) := by omega
  have q5 : decide (x < n) = true := decide_eq_true (by omega)
  dsimp only
  obtain ⟨b, hbq⟩ : ∃ b, (tu == k) = b := ⟨_, rfl⟩
  clear h hb hx hn ht hM
  cases tt with
  | false =>
    have HE : Hid ((if (false && tu == k) = true then some (⟨g, x * 3, none⟩ : Addr) else none) = none) := by show _ = _; simp
    rw [HE.out]
    go_enter Try.func39, Try.ntmps39
    go_upto_region 1 with fail
    rw [← HW.out]
    go_region
    go_wp2_with fail
    go_region
    go_wp2_with fail
    go_region
    go_wp2_with fail
    go_ret
    exact ⟨rfl, HX.out.low.drew.drew.drew⟩
  | true =>
    cases b with
    | true =>
      have HE : Hid ((if (true && tu == k) = true then some (⟨g, x * 3, none⟩ : Addr) else none) = some ⟨g, x * 3, none⟩) := by show _ = _; rw [hbq]; rfl
      rw [HE.out]
      go_enter Try.func39, Try.ntmps39
      go_upto_region 1 with fail
      rw [← HW.out]
      go_region
      go_wp2_with fail
      go_region
      go_wp2_with fail
      go_region
      go_wp2_with fail
      go_ret
      exact ⟨rfl, HX.out.low.drew.drew.drew⟩
    | false =>
      have HE : Hid ((if (true && tu == k) = true then some (⟨g, x * 3, none⟩ : Addr) else none) = none) := by show _ = _; rw [hbq]; rfl
      rw [HE.out]
      go_enter Try.func39, Try.ntmps39
      go_upto_region 1 with fail
      rw [← HW.out]
      go_region
      go_wp2_with fail
      go_region
      go_wp2_with fail
      go_region
      go_wp2_with fail
      go_ret
      exact ⟨rfl, HX.out.low.drew.drew.drew⟩
theorem at_any {W : World} {p a g : Nat} {s : Sb} (h : At W p a g s) (x k : Int) (hM : s.l.length ≤ 5000) :
    Calls Try.prog 39 #[.pointer (some ⟨a, 0, none⟩), refV x k] W fun e w' => e = .returned (.pointer ((liveAt s x k).map fun i => ⟨g, i * 3, none⟩)) ∧ Below W.heap.size W w' := by
  by_cases hx : 0 ≤ x ∧ x < s.l.length
  · obtain ⟨i, rfl⟩ : ∃ i : Nat, x = i := ⟨x.toNat, by omega⟩
    have hi : i < s.l.length := by omega
    obtain ⟨t, ht⟩ : ∃ t, s.l[i]? = some t := ⟨s.l[i], List.getElem?_eq_getElem hi⟩
    have e : (liveAt s i k).map (fun i => (⟨g, i * 3, none⟩ : Addr)) = if (t.t && t.u == k) = true then some ⟨g, i * 3, none⟩ else none := by
      unfold liveAt
      rw [if_pos hx, Int.toNat_natCast, ht]
      dsimp only
      split <;> rfl
    rw [e]
    exact at_in h i k hi hM t ht
  · have e : liveAt s x k = none := by unfold liveAt; rw [if_neg hx]
    rw [e]
    exact at_out h x k hx

theorem usable_any (x : Value) (u : Int) (t : Bool) (w : World) :
    Calls Try.prog 46 #[.agg #[x, .int .u32 u, .bool t]] w fun e w' => e = .returned (.bool (!t && decide (u < 4294967295))) ∧ Below w.heap.size w w' := by
  obtain ⟨b, hb⟩ : ∃ b, decide (u < 4294967295) = b := ⟨_, rfl⟩
  rw [hb]
  cases t <;> cases b
  all_goals
    go_enter Try.func46, Try.ntmps46
    go_wp2_with fail
    go_ret
    exact ⟨by simp, Below.new (Below.refl _ _) _⟩

theorem At.setx {W : World} {p a g : Nat} {s : Sb} (h : At W p a g s) (i : Nat) (t : Ce) (ht : s.l[i]? = some t) (v : Value) : At (W.setCell ⟨g, i * 3, none⟩ v) p a g { s with l := s.l.set i { t with x := v } } := by
  refine ⟨h.hp.other h.pg _ _, ?_, ?_⟩
  · have := h.ha.other h.ag (i * 3) v
    simpa using this
  · have := h.hg.set (i * 3) v
    have hl := cec_length s.l
    have hi := (List.getElem?_eq_some_iff.1 ht).1
    rw [cec_setx s.l i t v ht]
    rw [List.setIfInBounds_toArray, List.set_append_left _ _ (by omega)] at this
    exact this

theorem get_none {W : World} {p a g : Nat} {s : Sb} (h : At W p a g s) (x k : Int) (hM : s.l.length ≤ 5000) (hl : liveAt s x k = none) :
    Calls Try.prog 20 #[.pointer (some ⟨p, 0, none⟩), refV x k] W fun e w' => e = .returned (.tuple #[.int .i64 0, .bool false]) ∧ Below W.heap.size W w' := by
  obtain ⟨W1, hb⟩ := h.boxed x k
  have HX := Lib.hid hb
  have HW := Lib.hid hb.is
  have HI := Lib.hid (isNil_any hb.at')
  have HA := at_any hb.at'.drew x k hM
  rw [hl] at HA
  have HA := Lib.hid HA
  obtain ⟨r0, r1⟩ := hb.ref
  obtain ⟨c, c0, c1, c2, c3⟩ := hb.at'.cells
  clear h hb hM hl
  go_enter Try.func20, Try.ntmps20
  go_upto_region 1 with fail
  rw [← HW.out]
  go_wp2_with fail
  refine HI.out.mono ?_
  rintro e w1 ⟨rfl, hw1⟩
  obtain rfl := hw1
  go_wp2_with fail
  go_region_with ((go_at_call 39; refine HA.out.mono ?_; rintro e w2 ⟨rfl, hb2⟩))
  all_goals
    have H2 := Lib.hid hb2
    clear hb2 r0 r1 c c0 c1 c2 c3
    go_wp2_with fail
    go_ret2
    exact ⟨rfl, Below.step HX.out.low (Below.step (Below.refl _ _).drew H2.out)⟩

theorem get_some {W : World} {p a g : Nat} {s : Sb} (h : At W p a g s) (x k : Int) (hM : s.l.length ≤ 5000) (i : Nat) (t : Ce) (hl : liveAt s x k = some i) (ht : s.l[i]? = some t) :
    Calls Try.prog 20 #[.pointer (some ⟨p, 0, none⟩), refV x k] W fun e w' => e = .returned (.tuple #[t.x, .bool true]) ∧ Below W.heap.size W w' := by
  obtain ⟨W1, hb⟩ := h.boxed x k
  have HX := Lib.hid hb
  have HW := Lib.hid hb.is
  have HI := Lib.hid (isNil_any hb.at')
  have HA := at_any hb.at'.drew x k hM
  rw [hl] at HA
  have HA := Lib.hid HA
  have HT := Lib.hid ht
  obtain ⟨r0, r1⟩ := hb.ref
  obtain ⟨c, c0, c1, c2, c3⟩ := hb.at'.cells
  clear h hb hM hl ht
  go_enter Try.func20, Try.ntmps20
  go_upto_region 1 with fail
  rw [← HW.out]
  go_wp2_with fail
  refine HI.out.mono ?_
  rintro e w1 ⟨rfl, hw1⟩
  obtain rfl := hw1
  go_wp2_with fail
  go_region_with ((go_at_call 39; refine HA.out.mono ?_; rintro e w2 ⟨rfl, hb2⟩))
  all_goals
    have H2 := Lib.hid (Below.step (Below.refl _ _).drew hb2)
    clear hb2 r0 r1 c c0 c1 c2 c3
    have e0 := ((HX.out.at'.below H2.out).one i _ HT.out).1
    go_wp2_with fail
    go_ret2
    exact ⟨rfl, Below.step HX.out.low H2.out⟩
theorem set_none {W : World} {p a g : Nat} {s : Sb} (h : At W p a g s) (x k : Int) (y : Int) (hM : s.l.length ≤ 5000) (hl : liveAt s x k = none) :
    Calls Try.prog 19 #[.pointer (some ⟨p, 0, none⟩), refV x k, (.int .i64 y)] W fun e w' => e = .returned (.int .i64 5) ∧ Below W.heap.size W w' := by
  obtain ⟨W1, hb⟩ := h.boxed x k
  have HX := Lib.hid hb
  have HW := Lib.hid hb.is
  have HI := Lib.hid (isNil_any hb.at')
  have HA := at_any hb.at'.drew x k hM
  rw [hl] at HA
  have HA := Lib.hid HA
  obtain ⟨r0, r1⟩ := hb.ref
  obtain ⟨c, c0, c1, c2, c3⟩ := hb.at'.cells
  clear h hb hM hl
  go_enter Try.func19, Try.ntmps19
  go_upto_region 1 with fail
  rw [← HW.out]
  go_wp2_with fail
  refine HI.out.mono ?_
  rintro e w1 ⟨rfl, hw1⟩
  obtain rfl := hw1
  go_wp2_with fail
  go_region_with ((go_at_call 39; refine HA.out.mono ?_; rintro e w2 ⟨rfl, hb2⟩))
  all_goals
    have H2 := Lib.hid hb2
    clear hb2 r0 r1 c c0 c1 c2 c3
    go_wp2_with fail
    go_ret
    exact ⟨rfl, Below.step HX.out.low (Below.step (Below.refl _ _).drew H2.out)⟩
theorem set_some {W : World} {p a g : Nat} {s : Sb} (h : At W p a g s) (x k : Int) (y : Int) (hM : s.l.length ≤ 5000) (i : Nat) (t : Ce) (hl : liveAt s x k = some i) (ht : s.l[i]? = some t) :
    Calls Try.prog 19 #[.pointer (some ⟨p, 0, none⟩), refV x k, (.int .i64 y)] W fun e w' => e = .returned (.int .i64 0) ∧ Turned [a, g] W w' ∧ At w' p a g { s with l := s.l.set i { t with x := (.int .i64 y) } } := by
  obtain ⟨W1, hb⟩ := h.boxed x k
  have HX := Lib.hid hb
  have HW := Lib.hid hb.is
  have HI := Lib.hid (isNil_any hb.at')
  have HA := at_any hb.at'.drew x k hM
  rw [hl] at HA
  have HA := Lib.hid HA
  have HT := Lib.hid ht
  obtain ⟨r0, r1⟩ := hb.ref
  obtain ⟨c, c0, c1, c2, c3⟩ := hb.at'.cells
  clear h hb hM hl ht
  go_enter Try.func19, Try.ntmps19
  go_upto_region 1 with fail
  rw [← HW.out]
  go_wp2_with fail
  refine HI.out.mono ?_
  rintro e w1 ⟨rfl, hw1⟩
  obtain rfl := hw1
  go_wp2_with fail
  go_region_with ((go_at_call 39; refine HA.out.mono ?_; rintro e w2 ⟨rfl, hb2⟩))
  all_goals
    have H2 := Lib.hid (Below.step (Below.refl _ _).drew hb2)
    clear hb2 r0 r1 c c0 c1 c2 c3
    have e0 := ((HX.out.at'.below H2.out).one i _ HT.out).1
    have z0 := (HX.out.at'.below H2.out).hg.thawed (i * 3)
    go_wp2_with fail
    go_ret
    exact ⟨rfl, (Turned.of_below (Below.step HX.out.low H2.out)).setCell (.inl (by simp)) _ _, (HX.out.at'.below H2.out).setx i _ HT.out _⟩
theorem At.put3 {W : World} {p a g : Nat} {s : Sb} (h : At W p a g s) (i : Nat) (hi : i < s.l.length) (t : Ce) : At (((W.setCell ⟨g, i * 3, none⟩ t.x).setCell ⟨g, i * 3 + 1, none⟩ (.int .u32 t.u)).setCell ⟨g, i * 3 + 2, none⟩ (.bool t.t)) p a g { s with l := s.l.set i t } := by
  refine ⟨((h.hp.other h.pg _ _).other h.pg _ _).other h.pg _ _, ?_, ?_⟩
  · have := ((h.ha.other h.ag (i * 3) t.x).other h.ag (i * 3 + 1) (.int .u32 t.u)).other h.ag (i * 3 + 2) (.bool t.t)
    simpa using this
  · have := ((h.hg.set (i * 3) t.x).set (i * 3 + 1) (.int .u32 t.u)).set (i * 3 + 2) (.bool t.t)
    have hl := cec_length s.l
    rw [cec_set s.l i t hi]
    rw [List.setIfInBounds_toArray, List.setIfInBounds_toArray, List.setIfInBounds_toArray, List.set_append_left _ _ (by omega), List.set_append_left _ _ (by rw [List.length_set]; omega), List.set_append_left _ _ (by rw [List.length_set, List.length_set]; omega)] at this
    exact this
theorem At.setLen {W : World} {p a g : Nat} {s : Sb} (h : At W p a g s) (n : Int) : At (W.setCell ⟨a, 1, none⟩ (.int .i64 n)) p a g { s with len := n } := ⟨h.hp.other h.pa _ _, h.ha.set 1 _, h.hg.other h.ag.symm _ _⟩
theorem At.setLeft {W : World} {p a g : Nat} {s : Sb} (h : At W p a g s) (n : Int) : At (W.setCell ⟨a, 2, none⟩ (.int .i64 n)) p a g { s with left := n } := ⟨h.hp.other h.pa _ _, h.ha.set 2 _, h.hg.other h.ag.symm _ _⟩
theorem At.setLow {W : World} {p a g : Nat} {s : Sb} (h : At W p a g s) (n : Int) : At (W.setCell ⟨a, 3, none⟩ (.int .i64 n)) p a g { s with low := n } := ⟨h.hp.other h.pa _ _, h.ha.set 3 _, h.hg.other h.ag.symm _ _⟩

theorem release_any {W : World} {p a g : Nat} {s : Sb} (h : At W p a g s) (i : Nat) (t : Ce) (ht : s.l[i]? = some t) (hM : s.l.length ≤ 5000) (hn : -10000 ≤ s.len ∧ s.len ≤ 10000) (hf : -10000 ≤ s.left ∧ s.left ≤ 10000) :
    Calls Try.prog 40 #[.pointer (some ⟨a, 0, none⟩), .int .i64 i] W fun e w' => (∃ v, e = .returned v) ∧ Turned [a, g] W w' ∧ At w' p a g (relSb (.int .i64 0) s i t.u) := by
  obtain ⟨c, c0, c1, c2, c3⟩ := h.cells
  obtain ⟨tx, tu, tt⟩ := t
  obtain ⟨e0, e1, e2⟩ := h.one i _ ht
  dsimp only at e0 e1 e2
  have hi : i < s.l.length := (List.getElem?_eq_some_iff.1 ht).1
  have HH := Lib.hid h
  have HI := Lib.hid hi
  obtain ⟨n, hnn⟩ : ∃ n : Nat, s.l.length = n := ⟨_, rfl⟩
  rw [hnn] at c0 hi hM
  have q3 : (0 : Int) ≤ (i : Int) := Int.natCast_nonneg _
  have q4 : (i : Int) < (n : Int) := by omega
  have q5 : decide (i < n) = true := decide_eq_true (by omega)
  have z0 := fun j => h.hg.thawed j
  have HNN := Lib.hid hnn
  clear h ht hnn hi hM
  go_enter Try.func40, Try.ntmps40
  go_upto_region 0 with fail
  have kw : IntKind.i64.wrap (s.len - 1) = s.len - 1 := IntWalk.i64_in _ (by omega)
  have kl : IntKind.i64.wrap (s.left + 1) = s.left + 1 := IntWalk.i64_in _ (by omega)
  have HKW := Lib.hid kw
  have HKL := Lib.hid kl
  clear kw kl
  go_region
  all_goals
    obtain ⟨W1, hW1⟩ : ∃ W1, W1 = (((W.setCell ⟨g, i * 3, none⟩ (.int .i64 0)).setCell ⟨g, i * 3 + 1, none⟩ (.int .u32 tu)).setCell ⟨g, i * 3 + 2, none⟩ (.bool false)).drew := ⟨_, rfl⟩
    rw [← hW1]
    have A1 : Hid (At W1 p a g { s with l := s.l.set i ⟨.int .i64 0, tu, false⟩ }) := by show At _ _ _ _ _; rw [hW1]; exact (HH.out.put3 i HI.out ⟨.int .i64 0, tu, false⟩).drew
    have T1 : Hid (Turned [a, g] W W1) := by show Turned _ _ _; rw [hW1]; exact ((((Turned.refl _ W).setCell (.inl (by simp)) _ _).setCell (.inl (by simp)) _ _).setCell (.inl (by simp)) _ _).drew
    clear hW1 c c0 c1 c2 c3 e0 e1 e2 z0 HH
    obtain ⟨c, c0, c1, c2, c3⟩ := A1.out.cells
    have z1 := A1.out.ha.thawed 1
    dsimp only at c1 c2 c3
    have kw := HKW.out
    go_upto_region 2 with fail
    obtain ⟨W2, hW2⟩ : ∃ W2, W2 = W1.setCell ⟨a, 1, none⟩ (.int .i64 (s.len - 1)) := ⟨_, rfl⟩
    rw [← hW2]
    have A2 : Hid (At W2 p a g { s with l := s.l.set i ⟨.int .i64 0, tu, false⟩, len := s.len - 1 }) := by show At _ _ _ _ _; rw [hW2]; exact A1.out.setLen _
    have T2 : Hid (Turned [a, g] W W2) := by show Turned _ _ _; rw [hW2]; exact T1.out.setCell (.inl (by simp)) _ _
    clear hW2 c c0 c1 c2 c3 z1 kw A1 T1
    obtain ⟨c, c0, c1, c2, c3⟩ := A2.out.cells
    obtain ⟨e0, e1, e2⟩ := A2.out.one i ⟨.int .i64 0, tu, false⟩ (by show (s.l.set i _)[i]? = _; rw [List.getElem?_set_self HI.out])
    dsimp only at c0 e0 e1 e2
    have HN : Hid ((s.l.set i ⟨.int .i64 0, tu, false⟩).length = n) := by show _ = _; rw [List.length_set]; exact HNN.out
    rw [HN.out] at c0
    have HU := Lib.hid (fun w => usable_any (.int .i64 0) tu false w)
    obtain ⟨b, hb⟩ : ∃ b, decide (tu < 4294967295) = b := ⟨_, rfl⟩
    have HBB := Lib.hid hb
    rw [hb] at HU
    clear hb
    go_wp2_with fail
    refine (HU.out _).mono ?_
    rintro e w3 ⟨rfl, hb3⟩
    have A3 := Lib.hid (A2.out.below hb3)
    have T3 := Lib.hid (T2.out.trans (Turned.of_below hb3))
    clear hb3 c c0 c1 c2 c3 e0 e1 e2 A2 T2
    cases b
    · have HR : Hid (relSb (.int .i64 0) s i tu = { s with l := s.l.set i ⟨.int .i64 0, tu, false⟩, len := s.len - 1 }) := by
        have := HBB.out
        simp only [decide_eq_false_iff_not] at this
        show _ = _
        unfold relSb
        rw [if_neg this, if_neg this]
      go_wp2_with fail
      go_end0
      exact ⟨⟨_, rfl⟩, T3.out, by rw [HR.out]; exact A3.out⟩
    · have HR : Hid (relSb (.int .i64 0) s i tu = { s with l := s.l.set i ⟨.int .i64 0, tu, false⟩, len := s.len - 1, left := s.left + 1, low := min s.low i }) := by
        have := HBB.out
        simp only [decide_eq_true_eq] at this
        show _ = _
        unfold relSb
        rw [if_pos this, if_pos this]
      obtain ⟨c, c0, c1, c2, c3⟩ := A3.out.cells
      have z2 := A3.out.ha.thawed 2
      dsimp only at c1 c2 c3
      have kl := HKL.out
      go_upto_region 4 with fail
      obtain ⟨W4, hW4⟩ : ∃ W4, W4 = w3.setCell ⟨a, 2, none⟩ (.int .i64 (s.left + 1)) := ⟨_, rfl⟩
      rw [← hW4]
      have A4 : Hid (At W4 p a g { s with l := s.l.set i ⟨.int .i64 0, tu, false⟩, len := s.len - 1, left := s.left + 1 }) := by show At _ _ _ _ _; rw [hW4]; exact A3.out.setLeft _
      have T4 : Hid (Turned [a, g] W W4) := by show Turned _ _ _; rw [hW4]; exact T3.out.setCell (.inl (by simp)) _ _
      clear hW4 c c0 c1 c2 c3 z2 kl A3 T3
      obtain ⟨c, c0, c1, c2, c3⟩ := A4.out.cells
      have z3 := A4.out.ha.thawed 3
      dsimp only at c1 c2 c3
      go_wp2_with fail
      all_goals
        go_end0
        refine ⟨⟨_, rfl⟩, T4.out.setCell (.inl (by simp)) _ _, ?_⟩
        rw [HR.out]
        first
          | (rw [show min s.low (i : Int) = s.low from by omega]; exact A4.out.setLow _)
          | (rw [show min s.low (i : Int) = (i : Int) from by omega]; exact A4.out.setLow _)
theorem free_none {W : World} {p a g : Nat} {s : Sb} (h : At W p a g s) (x k : Int) (hM : s.l.length ≤ 5000) (hl : liveAt s x k = none) :
    Calls Try.prog 14 #[.pointer (some ⟨p, 0, none⟩), refV x k] W fun e w' => e = .returned (.int .i64 5) ∧ Below W.heap.size W w' := by
  obtain ⟨W1, hb⟩ := h.boxed x k
  have HX := Lib.hid hb
  have HW := Lib.hid hb.is
  have HI := Lib.hid (isNil_any hb.at')
  have HA := at_any hb.at'.drew x k hM
  rw [hl] at HA
  have HA := Lib.hid HA
  obtain ⟨r0, r1⟩ := hb.ref
  obtain ⟨c, c0, c1, c2, c3⟩ := hb.at'.cells
  clear h hb hM hl
  go_enter Try.func14, Try.ntmps14
  go_upto_region 1 with fail
  rw [← HW.out]
  go_wp2_with fail
  refine HI.out.mono ?_
  rintro e w1 ⟨rfl, hw1⟩
  obtain rfl := hw1
  go_wp2_with fail
  go_region_with ((go_at_call 39; refine HA.out.mono ?_; rintro e w2 ⟨rfl, hb2⟩))
  all_goals
    have H2 := Lib.hid hb2
    clear hb2 r0 r1 c c0 c1 c2 c3
    go_wp2_with fail
    go_ret
    exact ⟨rfl, Below.step HX.out.low (Below.step (Below.refl _ _).drew H2.out)⟩
theorem free_some {W : World} {p a g : Nat} {s : Sb} (h : At W p a g s) (x k : Int) (hM : s.l.length ≤ 5000) (hn : -10000 ≤ s.len ∧ s.len ≤ 10000) (hf : -10000 ≤ s.left ∧ s.left ≤ 10000) (i : Nat) (t : Ce) (hl : liveAt s x k = some i) (ht : s.l[i]? = some t) :
    Calls Try.prog 14 #[.pointer (some ⟨p, 0, none⟩), refV x k] W fun e w' => e = .returned (.int .i64 0) ∧ Turned [a, g] W w' ∧ At w' p a g (relSb (.int .i64 0) s i t.u) := by
  obtain ⟨W1, hb⟩ := h.boxed x k
  have HX := Lib.hid hb
  have HW := Lib.hid hb.is
  have HI := Lib.hid (isNil_any hb.at')
  have HA := at_any hb.at'.drew x k hM
  rw [hl] at HA
  have HA := Lib.hid HA
  have hxi : x = (i : Int) := (live_some hl).1
  subst hxi
  have HRL : Hid (∀ W', At W' p a g s → Calls Try.prog 40 #[.pointer (some ⟨a, 0, none⟩), .int .i64 i] W' fun e w' => (∃ v, e = .returned v) ∧ Turned [a, g] W' w' ∧ At w' p a g (relSb (.int .i64 0) s i t.u)) := fun W' hA => release_any hA i t ht hM hn hf
  obtain ⟨r0, r1⟩ := hb.ref
  obtain ⟨c, c0, c1, c2, c3⟩ := hb.at'.cells
  clear h hb hM hl ht hn hf
  go_enter Try.func14, Try.ntmps14
  go_upto_region 1 with fail
  rw [← HW.out]
  go_wp2_with fail
  refine HI.out.mono ?_
  rintro e w1 ⟨rfl, hw1⟩
  obtain rfl := hw1
  go_wp2_with fail
  go_region_with ((go_at_call 39; refine HA.out.mono ?_; rintro e w2 ⟨rfl, hb2⟩))
  all_goals
    have H2 := Lib.hid (Below.step (Below.refl _ _).drew hb2)
    clear hb2 r0 r1 c c0 c1 c2 c3
    have r0 := (HX.out.box.below H2.out).cell 0
    obtain ⟨c, c0, c1, c2, c3⟩ := (HX.out.at'.below H2.out).cells
    simp only [List.getElem?_toArray, List.getElem?_cons_zero] at r0
    go_wp2_with fail
    go_region_with ((go_at_call 40; refine (HRL.out _ (HX.out.at'.below H2.out).drew).mono ?_; rintro e w3 ⟨⟨v, rfl⟩, ht3, ha3⟩))
    all_goals
      have HT := Lib.hid ht3
      have HA3 := Lib.hid ha3
      clear ht3 ha3 r0 c c0 c1 c2 c3
      go_wp2_with fail
      go_ret
      exact ⟨rfl, ((Turned.of_below (Below.step HX.out.low H2.out)).drew).trans HT.out, HA3.out⟩
theorem infoC : ∃ i0 : TypeInfo, Try.prog.info? 82 = some i0 ∧ i0.zero = some (.agg #[.int .i64 0, .int .u32 0, .bool false]) ∧ i0.size = 3 ∧ i0.bytes ≤ 32 := by
  have h : (Try.prog.info? 82).map (fun i => (i.zero, i.size, decide (i.bytes ≤ 32))) = some (some (.agg #[.int .i64 0, .int .u32 0, .bool false]), 3, true) := by kernel_rfl
  cases hi : Try.prog.info? 82 with
  | none => rw [hi] at h; simp at h
  | some i0 =>
    rw [hi] at h
    simp only [Option.map_some, Option.some.injEq, Prod.mk.injEq] at h
    exact ⟨i0, rfl, h.1, h.2.1, of_decide_eq_true h.2.2⟩
theorem run_mk (n : Nat) (hn : n ≤ 4096) (w : World) : (Instr.makeSlice 63 (.int .i64 (n : Int)) (.int .i64 (n : Int))).run Try.prog w = .ok (.slice (some ⟨w.heap.size, 0, none⟩) n n) (w.alloc (.cells (cec (List.replicate n ⟨.int .i64 0, 0, false⟩)).toArray 82)) := by
  obtain ⟨i0, hi, hz, hs, hb⟩ := infoC
  have h1 : (i0.bytes : Int) * (n : Int) ≤ 281474976710656 := by
    have : i0.bytes * n ≤ 32 * 4096 := Nat.mul_le_mul hb hn
    have h2 : ((i0.bytes * n : Nat) : Int) ≤ ((32 * 4096 : Nat) : Int) := Int.ofNat_le.2 this
    rw [Int.natCast_mul] at h2
    omega
  have := run_make (P := Try.prog) w 63 82 i0 _ Try.underlying63 hi hz .i64 .i64 (n : Int) (n : Int) (Int.natCast_nonneg _) (Int.le_refl _) h1 (by omega)
  rw [this, Int.toNat_natCast, hs]
  show Result.ok _ (w.alloc (.cells (madeCells #[.int .i64 0, .int .u32 0, .bool false] (n * 3)) _)) = _
  rw [made3]
theorem new_yes (n : Nat) (h1 : 1 ≤ n) (hn : n ≤ 4096) (w : World) :
    Calls Try.prog 8 #[.int .i64 n] w fun e w' => ∃ p a g, w.heap.size ≤ p ∧ w.heap.size ≤ a ∧ w.heap.size ≤ g ∧ e = .returned (.tuple #[.pointer (some ⟨p, 0, none⟩), .int .i64 0]) ∧ Below w.heap.size w w' ∧ At w' p a g (newSb (.int .i64 0) n) := by
  have hmk := run_mk n hn
  have q1 : decide ((n : Int) < 1) = false := decide_eq_false (by omega)
  have q2 : decide ((4096 : Int) < (n : Int)) = false := decide_eq_false (by omega)
  have HL : Hid ((List.replicate n (⟨.int .i64 0, 0, false⟩ : Ce)).length = n) := List.length_replicate
  clear h1 hn
  go_enter Try.func8, Try.ntmps8
  go_wp2_with fail
  go_ret2
  refine ⟨w.heap.size + 1 + 1, w.heap.size + 1, w.heap.size, by omega, by omega, by omega, rfl, Below.new (Below.new (Below.new (Below.refl _ _) _) _) _, ?_, ?_, ?_⟩
  · exact Fresh.new _ _ _ _ (by simp)
  · show Fresh _ _ #[.slice _ (newSb (.int .i64 0) n).l.length n, _, _, _] _
    have e : (newSb (.int .i64 0) n).l.length = n := HL.out
    rw [e]
    exact (Fresh.new _ _ _ _ (by simp)).alloc _
  · show Fresh _ _ (cec (List.replicate n ⟨.int .i64 0, 0, false⟩) ++ []).toArray _
    rw [List.append_nil]
    exact ((Fresh.new _ _ _ _ rfl).alloc _).alloc _
theorem new_no (n : Int) (hn : ¬ (1 ≤ n ∧ n ≤ 4096)) (w : World) :
    Calls Try.prog 8 #[.int .i64 n] w fun e w' => e = .returned (.tuple #[.pointer none, .int .i64 2]) ∧ w' = w := by
  have hc : decide (n < 1) = true ∨ (decide (n < 1) = false ∧ decide (4096 < n) = true) := by
    simp only [decide_eq_true_eq, decide_eq_false_iff_not]; omega
  clear hn
  rcases hc with q1 | ⟨q1, q2⟩
  all_goals
    go_enter Try.func8, Try.ntmps8
    go_wp2_with fail
    go_ret2
    exact ⟨rfl, rfl⟩
end Go.Proofs.Ytbbadkgmnfjfaaa.Si
