/- The methods of a table. -/
import Derived.Test.YtjaijomkdgoenaaDoorGFw
import Derived.Laws.ResultCell
import Derived.Deep.DeepCutAuto
namespace Go.Proofs.YtjaijomkdgoenaaDoor.Fw
open Go.RowKit
set_option maxRecDepth 100000
set_option maxHeartbeats 2000000

structure FewAt (W : World) (p q : Nat) (l : List En) (room : Nat) : Prop where
  ptr : W.cell? ⟨p, 0, none⟩ = some (.pointer (some ⟨q, 0, none⟩))
  row : RowAt W q l room
  ne : p ≠ q
theorem FewAt.lt {W : World} {p q : Nat} {l : List En} {room : Nat} (h : FewAt W p q l room) : p < W.heap.size := cell_lt h.ptr
theorem FewAt.below {W W' : World} {p q : Nat} {l : List En} {room : Nat} (h : FewAt W p q l room) (hb : Below W.heap.size W W') : FewAt W' p q l room :=
  ⟨(hb.cell (p := ⟨p, 0, none⟩) h.lt).trans h.ptr, h.row.below hb, h.ne⟩
theorem FewAt.turned {S : List Nat} {W W' : World} {p q : Nat} {l : List En} {room : Nat} (h : FewAt W p q l room) (ht : Turned S W W') (hp : p ∉ S) (hq : q ∉ S) : FewAt W' p q l room :=
  ⟨(cell_same (p := ⟨p, 0, none⟩) (ht.block p h.lt hp)).trans h.ptr, h.row.turned ht hq, h.ne⟩
theorem FewAt.drew {W : World} {p q : Nat} {l : List En} {room : Nat} (h : FewAt W p q l room) : FewAt W.drew p q l room := ⟨h.ptr, h.row.same rfl, h.ne⟩
theorem FewAt.kept {W W' : World} {row : Option Nat} {p q : Nat} {l : List En} {room : Nat} (h : FewAt W p q l room) (hg : W.grownBy W' row) (hr : ∀ r, row = some r → ∃ o : Obj, W.heap[r]? = some o ∧ o.isCells = false) : FewAt W' p q l room :=
  ⟨(cell_same (p := ⟨p, 0, none⟩) (kept_block (p := ⟨p, 0, none⟩) h.ptr hg hr)).trans h.ptr, h.row.kept hg hr, h.ne⟩
theorem FewAt.moved {W W' : World} {p q : Nat} {l l' : List En} {room : Nat} (h : FewAt W p q l room) (ht : Turned [q] W W') (hr : RowAt W' q l' room) : FewAt W' p q l' room :=
  ⟨(cell_same (p := ⟨p, 0, none⟩) (ht.block p h.lt (by simp; exact h.ne))).trans h.ptr, hr, h.ne⟩

theorem isNil_any {W : World} {p q : Nat} {l : List En} {room : Nat} (h : FewAt W p q l room) : Calls Tryd.prog 89 #[.pointer (some ⟨p, 0, none⟩)] W fun e w' => e = .returned (.bool false) ∧ w' = W := by
  have h0 := h.ptr
  clear h
  go_enter Tryd.func89, Tryd.ntmps89
  go_wp2
  go_ret
  exact ⟨rfl, rfl⟩
abbrev refV (s g : Int) : Value := .agg #[.int .i64 s, .int .u32 g]
/-- What stands at a byte's place. -/
def atOf (b : UInt8) (l : List En) : En := (l[placeIx b l]?).getD (0, 0, 0)
theorem isIn_lt {b : UInt8} {l : List En} (h : isIn b l = true) : placeIx b l < l.length := by
  rcases Nat.lt_or_ge (placeIx b l) l.length with h1 | h1
  · exact h1
  · rw [isIn, List.getElem?_eq_none h1] at h; cases h
theorem isIn_at {b : UInt8} {l : List En} (h : isIn b l = true) : ∃ s g, l[placeIx b l]? = some (b, s, g) ∧ atOf b l = (b, s, g) := by
  have hlt := isIn_lt h
  have e := List.getElem?_eq_getElem hlt
  unfold isIn at h
  rw [e] at h
  obtain ⟨⟨c, s, g⟩, hx⟩ : ∃ x, l[placeIx b l] = x := ⟨_, rfl⟩
  rw [hx] at e h
  have : c = b := by simpa using h
  subst this
  exact ⟨s, g, e, by rw [atOf, e]; rfl⟩
structure Box2 (W : World) (B : Nat) (x y : Value) : Prop where
  c0 : W.cell? ⟨B, 0, none⟩ = some x
  c1 : W.cell? ⟨B, 1, none⟩ = some y
  f0 : W.frozen? ⟨B, 0, none⟩ = false
  f1 : W.frozen? ⟨B, 1, none⟩ = false
theorem results_tmp_cell_tmp {fn : Func} {t p u : Tmp} {ty : TypeId} (h : fn.results = #[.tmp t, .cell p ty, .tmp u]) (tmps : Array Value) (P : Program) (w : World) :
    (results fn tmps).run P w =
      ((asAddr (tmps.getD p undef)).run P w).andThen fun a w₁ => ((loadVar ty a).run P w₁).andThen fun v w₂ => .ok (.tuple #[tmps.getD t undef, v, tmps.getD u undef]) w₂ := by
  simp only [results, h]
  simp [Sem.run_bind, Result.andThen]
theorem _root_.Go.Proofs.YtjaijomkdgoenaaDoor.Fresh.box2 {W : World} {B : Nat} {x y : Value} {T : TypeId} (h : Fresh W B #[x, y] T) : Box2 W B x y := ⟨h.cell 0, h.cell 1, h.thawed 0, h.thawed 1⟩
structure Opened (W : World) (p q : Nat) (l : List En) (room : Nat) (s g : Int) (W0 : World) : Prop where
  is : W0 = W.alloc (.cells #[.int .i64 s, .int .u32 g] 29)
  low : Below W.heap.size W W0
  box : Fresh W0 W.heap.size #[.int .i64 s, .int .u32 g] 29
  few : FewAt W0 p q l room
theorem FewAt.opened {W : World} {p q : Nat} {l : List En} {room : Nat} (h : FewAt W p q l room) (s g : Int) : ∃ W0, Opened W p q l room s g W0 :=
  ⟨_, rfl, Below.new (Below.refl _ _) _, Fresh.new _ _ _ _ rfl, h.below (Below.new (Below.refl _ _) _)⟩
theorem take_no {W : World} {p q : Nat} {l : List En} {room : Nat} (h : FewAt W p q l room) (b : UInt8) (hi : isIn b l = false) :
    Calls Tryd.prog 86 #[.pointer (some ⟨p, 0, none⟩), .int .u8 (b.toNat : Int)] W fun e w' => e = .returned (.tuple #[refV 0 0, .int .i64 5]) ∧ Below W.heap.size W w' := by
  obtain ⟨W0, hO⟩ := h.opened 0 0
  have p0 := hO.few.ptr
  have HN := Lib.hid (isNil_any hO.few)
  have HP := place_any b hO.few.row
  rw [hi] at HP
  replace HP := Lib.hid HP
  have HW0 := Lib.hid hO.is
  have HO := Lib.hid hO
  clear hO h hi
  go_enter Tryd.func86, Tryd.ntmps86
  go_wp2_with (first
    | (rw [← HW0.out]; go_at_call 89; refine HN.out.mono ?_; rintro e w1 ⟨rfl, rfl⟩)
    | (go_at_call 91; refine HP.out.mono ?_; rintro e w1 ⟨rfl, hb1⟩; obtain ⟨c0, c1, f0, f1⟩ := (HO.out.box.below hb1).box2))
  obtain ⟨W3, hW3⟩ : ∃ W3, W3 = (w1.setCell ⟨W.heap.size, 0, none⟩ (.int .i64 0)).setCell ⟨W.heap.size, 1, none⟩ (.int .u32 0) := ⟨_, rfl⟩
  have F3 : Fresh W3 W.heap.size #[.int .i64 0, .int .u32 0] 29 := by rw [hW3]; exact ((HO.out.box.below hb1).set 0 _).set 1 _
  obtain ⟨g0, g1, _, _⟩ := F3.box2
  have B3 : Hid (Below W.heap.size W W3) := by
    show Below _ _ _
    rw [hW3]; exact ((Below.step HO.out.low hb1).setCell (Nat.le_refl _) _).setCell (Nat.le_refl _) _
  rw [← hW3]
  clear hW3 F3
  refine bodyPost_ret (v := .tuple #[refV 0 0, .int .i64 5]) ?_ rfl ⟨rfl, B3.out⟩
  rw [results_cell_tmp rfl]
  go_simp
theorem take_yes {W : World} {p q : Nat} {l : List En} {room : Nat} (h : FewAt W p q l room) (b : UInt8) (hi : isIn b l = true) :
    Calls Tryd.prog 86 #[.pointer (some ⟨p, 0, none⟩), .int .u8 (b.toNat : Int)] W fun e w' => e = .returned (.tuple #[refV (atOf b l).2.1 (atOf b l).2.2, .int .i64 0]) ∧ Turned [q] W w' ∧ FewAt w' p q (l.eraseIdx (placeIx b l)) room := by
  obtain ⟨W0, hO⟩ := h.opened 0 0
  have p0 := hO.few.ptr
  have HN := Lib.hid (isNil_any hO.few)
  have HP := place_any b hO.few.row
  rw [hi] at HP
  have HW0 := Lib.hid hO.is
  have HO := Lib.hid hO
  obtain ⟨s, g, ha, hat⟩ := isIn_at hi
  obtain ⟨hlt, hge⟩ := List.getElem?_eq_some_iff.1 ha
  have hlen := h.row.len
  rw [hat]
  obtain ⟨i, hix⟩ : ∃ i, placeIx b l = i := ⟨_, rfl⟩
  simp only [hix] at HP hlt hge ⊢
  replace HP := Lib.hid HP
  have i0 : (0 : Int) ≤ (i : Int) := by omega
  have i1 : (i : Int) < 16 := by omega
  have i2 : i < 16 := by omega
  have HG := Lib.hid hge
  have HH := Lib.hid h
  have hql := h.row.lt
  have hpl := h.lt
  clear hO h hi ha hat hge hlen
  go_enter Tryd.func86, Tryd.ntmps86
  go_upto_region 7 with (first
    | (rw [← HW0.out]; go_at_call 89; refine HN.out.mono ?_; rintro e w1 ⟨rfl, rfl⟩)
    | (go_at_call 91; refine HP.out.mono ?_; rintro e w1 ⟨rfl, hb1⟩; have h1 := HO.out.few.below hb1; have p1 := h1.ptr; have s1 := h1.row.slot i hlt; have g1 := h1.row.gen i hlt; rw [HG.out] at s1 g1; have H1 := Lib.hid h1; have HB1 := Lib.hid hb1; clear h1 hb1))
  obtain ⟨w2, hw2⟩ : ∃ w2, w2 = w1.alloc (.cells #[.int .i64 s, .int .u32 g] 29) := ⟨_, rfl⟩
  rw [← hw2]
  have b2 : Below w1.heap.size w1 w2 := by rw [hw2]; exact Below.new (Below.refl _ _) _
  have F2 : Fresh w2 w1.heap.size #[.int .i64 s, .int .u32 g] 29 := by rw [hw2]; exact Fresh.new _ _ _ _ rfl
  have h2 := H1.out.below b2
  have p2 := h2.ptr
  have HB02 := Lib.hid (Below.step HB1.out b2)
  have bx2 := HO.out.box.below HB02.out
  have low2 := Below.step HO.out.low HB02.out
  have HR := Lib.hid (remove_any h2.row i hlt)
  have H2 := Lib.hid (And.intro h2 (And.intro F2 (And.intro bx2 low2)))
  have hs := HB1.out.size
  have hs0 := HO.out.box.lt
  have q1 : q < w1.heap.size := by have := HO.out.low.size; omega
  clear hw2 b2 F2 h2 bx2 low2 p1 s1 g1
  go_wp2_with (go_at_call 93; refine HR.out.mono ?_; rintro e w3 ⟨rfl, ht3, hr3⟩; have r0 := (ht3.other H2.out.2.1 (by simp; omega)).cell 0; have r1 := (ht3.other H2.out.2.1 (by simp; omega)).cell 1; obtain ⟨c0, c1, f0, f1⟩ := (ht3.other H2.out.2.2.1 (by simp; omega)).box2; simp only [List.getElem?_toArray, List.getElem?_cons_zero, List.getElem?_cons_succ] at r0 r1; have H3 := Lib.hid (And.intro ht3 hr3); clear ht3 hr3)
  obtain ⟨W3, hW3⟩ : ∃ W3, W3 = (w3.setCell ⟨W.heap.size, 0, none⟩ (.int .i64 s)).setCell ⟨W.heap.size, 1, none⟩ (.int .u32 g) := ⟨_, rfl⟩
  have F3 : Fresh W3 W.heap.size #[.int .i64 s, .int .u32 g] 29 := by rw [hW3]; exact ((H3.out.1.other H2.out.2.2.1 (by simp; omega)).set 0 _).set 1 _
  obtain ⟨g0, g1, _, _⟩ := F3.box2
  have T3 : Turned [q] W w3 := (Turned.of_below H2.out.2.2.2).trans H3.out.1
  have T4 : Turned [q] W W3 := by
    rw [hW3]; exact (T3.setCell (.inr (Nat.le_refl _)) _ _).setCell (.inr (Nat.le_refl _)) _ _
  have R4 : RowAt W3 q (l.eraseIdx i) room := H3.out.2.same (by
    rw [hW3, Below.heap_setCell _ _ _ _ (by show q ≠ W.heap.size; omega), Below.heap_setCell _ _ _ _ (by show q ≠ W.heap.size; omega)])
  have FIN := Lib.hid (And.intro T4 (HH.out.moved T4 R4))
  rw [← hW3]
  clear hW3 F3 T3 T4 R4
  refine bodyPost_ret (v := .tuple #[refV s g, .int .i64 0]) ?_ rfl ⟨rfl, FIN.out⟩
  rw [results_cell_tmp rfl]
  go_simp

theorem RowAt.setRef {W : World} {q : Nat} {l : List En} {room : Nat} (h : RowAt W q l room) (i : Nat) (hi : i < l.length) (s g : Int) : RowAt ((W.setCell ⟨q, 16 + i * 2, none⟩ (.int .i64 s)).setCell ⟨q, 16 + i * 2 + 1, none⟩ (.int .u32 g)) q (l.set i (l[i].1, s, g)) room := by
  have hl := h.len
  have is0 : ∀ j, j < 50 → (W.cell? ⟨q, j, none⟩).isSome = true := fun j hj => by
    obtain ⟨v, hv, _⟩ := h.any j hj
    rw [hv]; rfl
  have is1 : ∀ j, j < 50 → ((W.setCell ⟨q, 16 + i * 2, none⟩ (.int .i64 s)).cell? ⟨q, j, none⟩).isSome = true := fun j hj => by
    rw [cell_one (is0 _ (by omega))]; split
    · rfl
    · exact is0 j hj
  have cell : ∀ j, ((W.setCell ⟨q, 16 + i * 2, none⟩ (.int .i64 s)).setCell ⟨q, 16 + i * 2 + 1, none⟩ (.int .u32 g)).cell? ⟨q, j, none⟩ = if j = 16 + i * 2 + 1 then some (.int .u32 g) else if j = 16 + i * 2 then some (.int .i64 s) else W.cell? ⟨q, j, none⟩ := fun j => by
    rw [cell_one (is1 _ (by omega)), cell_one (is0 _ (by omega))]
  refine ⟨by rw [List.length_set]; exact hl, fun j hj => ?_, fun j hj => ?_, fun j hj => ?_, ?_, ?_, fun j hj => ?_, fun j hj => ?_⟩
  · rw [List.length_set] at hj
    rw [cell, if_neg (by omega), if_neg (by omega), h.byte j hj, List.getElem_set]
    by_cases e : i = j
    · subst e; rw [if_pos rfl]
    · rw [if_neg e]
  · rw [List.length_set] at hj
    rw [cell, if_neg (by omega), List.getElem_set]
    by_cases e : i = j
    · subst e; rw [if_pos rfl, if_pos rfl]
    · rw [if_neg (by omega), if_neg e, h.slot j hj]
  · rw [List.length_set] at hj
    rw [cell, List.getElem_set]
    by_cases e : i = j
    · subst e; rw [if_pos rfl, if_pos rfl]
    · rw [if_neg (by omega), if_neg (by omega), if_neg e, h.gen j hj]
  · rw [cell, if_neg (by omega), if_neg (by omega), List.length_set, h.n]
  · rw [cell, if_neg (by omega), if_neg (by omega), h.room]
  · rw [cell]
    split
    · exact ⟨_, rfl, rfl⟩
    · split
      · exact ⟨_, rfl, rfl⟩
      · exact h.any j hj
  · rw [World.frozen?_setCell, World.frozen?_setCell]; exact h.thaw j hj
theorem turn_no {W : World} {p q : Nat} {l : List En} {room : Nat} (h : FewAt W p q l room) (b : UInt8) (s g : Int) (hi : isIn b l = false) :
    Calls Tryd.prog 87 #[.pointer (some ⟨p, 0, none⟩), .int .u8 (b.toNat : Int), refV s g] W fun e w' => e = .returned (.int .i64 5) ∧ Below W.heap.size W w' := by
  obtain ⟨W0, hO⟩ := h.opened s g
  have p0 := hO.few.ptr
  have HN := Lib.hid (isNil_any hO.few)
  have HP := place_any b hO.few.row
  rw [hi] at HP
  replace HP := Lib.hid HP
  have HW0 := Lib.hid hO.is
  have HO := Lib.hid hO
  clear hO h hi
  go_enter Tryd.func87, Tryd.ntmps87
  go_wp2_with (first
    | (rw [← HW0.out]; go_at_call 89; refine HN.out.mono ?_; rintro e w1 ⟨rfl, rfl⟩)
    | (go_at_call 91; refine HP.out.mono ?_; rintro e w1 ⟨rfl, hb1⟩))
  go_ret
  exact ⟨rfl, Below.step HO.out.low hb1⟩
theorem turn_yes {W : World} {p q : Nat} {l : List En} {room : Nat} (h : FewAt W p q l room) (b : UInt8) (s g : Int) (hi : isIn b l = true) :
    Calls Tryd.prog 87 #[.pointer (some ⟨p, 0, none⟩), .int .u8 (b.toNat : Int), refV s g] W fun e w' => e = .returned (.int .i64 0) ∧ Turned [q] W w' ∧ FewAt w' p q (l.set (placeIx b l) (b, s, g)) room := by
  obtain ⟨W0, hO⟩ := h.opened s g
  have p0 := hO.few.ptr
  have HN := Lib.hid (isNil_any hO.few)
  have HP := place_any b hO.few.row
  rw [hi] at HP
  have HW0 := Lib.hid hO.is
  have HO := Lib.hid hO
  obtain ⟨s', g', ha, hat⟩ := isIn_at hi
  obtain ⟨hlt, hge⟩ := List.getElem?_eq_some_iff.1 ha
  have hlen := h.row.len
  obtain ⟨i, hix⟩ : ∃ i, placeIx b l = i := ⟨_, rfl⟩
  simp only [hix] at HP hlt hge ⊢
  replace HP := Lib.hid HP
  have i0 : (0 : Int) ≤ (i : Int) := by omega
  have i1 : (i : Int) < 16 := by omega
  have i2 : i < 16 := by omega
  have i50 : Hid (i < 16) := i2
  have HG := Lib.hid hge
  have HH := Lib.hid h
  have hql := h.row.lt
  clear hO h hi ha hat hge hlen
  go_enter Tryd.func87, Tryd.ntmps87
  go_upto_region 6 with (first
    | (rw [← HW0.out]; go_at_call 89; refine HN.out.mono ?_; rintro e w1 ⟨rfl, rfl⟩)
    | (go_at_call 91; refine HP.out.mono ?_; rintro e w1 ⟨rfl, hb1⟩))
  have h1 := HO.out.few.below hb1
  have bx := HO.out.box.below hb1
  have p1 := h1.ptr
  have s1 := h1.row.slot i hlt
  have g1 := h1.row.gen i hlt
  have b0 := bx.cell 0
  have b1 := bx.cell 1
  simp only [List.getElem?_toArray, List.getElem?_cons_zero, List.getElem?_cons_succ] at b0 b1
  have f1 := h1.row.thaw (16 + i * 2) (by have := i50.out; omega)
  have f2 := h1.row.thaw (16 + i * 2 + 1) (by have := i50.out; omega)
  obtain ⟨W3, hW3⟩ : ∃ W3, W3 = (w1.setCell ⟨q, 16 + i * 2, none⟩ (.int .i64 s)).setCell ⟨q, 16 + i * 2 + 1, none⟩ (.int .u32 g) := ⟨_, rfl⟩
  have T3 : Turned [q] W W3 := by
    rw [hW3]; exact ((Turned.of_below (Below.step HO.out.low hb1)).setCell (.inl (by simp)) _ _).setCell (.inl (by simp)) _ _
  have R3 : RowAt W3 q (l.set i (b, s, g)) room := by
    have := h1.row.setRef i hlt s g
    rw [HG.out] at this
    rw [hW3]; exact this
  have FIN := Lib.hid (And.intro T3 (HH.out.moved T3 R3))
  have HW3 := Lib.hid hW3
  clear h1 bx T3 R3 hW3 hb1
  go_region
  go_wp2_with fail
  go_ret
  refine ⟨rfl, ?_⟩
  show Turned [q] W (World.drew _) ∧ _
  first | (rw [← HW3.out]; exact ⟨FIN.out.1.drew, FIN.out.2.drew⟩) | (have := HW3.out; subst this; exact ⟨FIN.out.1.drew, FIN.out.2.drew⟩)
end Go.Proofs.YtjaijomkdgoenaaDoor.Fw
