/- The methods of a table that change nothing, and Turn. -/
import Derived.Test.YtjaijomkdgoenaaDoorMnSrt
import Derived.Deep.RegionWith
import Derived.Deep.DeepCutAuto
import Derived.Shelf.RegionOpen
namespace Go.Proofs.YtjaijomkdgoenaaDoor.Mn
open Go.RowKit
set_option maxRecDepth 100000
set_option maxHeartbeats 4000000

structure ManyAt (W : World) (p q e : Nat) (l : List En) (room : Nat) : Prop where
  ptr : Fresh W p #[.pointer (some ⟨q, 0, none⟩)] 94
  row : ∃ es cs v, RowM W q e es room cs v ∧ (∀ x, x ∈ es ↔ x ∈ l) ∧ es.length = l.length
  srt : Srt l
theorem ManyAt.lt {W : World} {p q e : Nat} {l : List En} {room : Nat} (h : ManyAt W p q e l room) : p < W.heap.size ∧ q < W.heap.size ∧ e < W.heap.size := by
  obtain ⟨es, cs, v, hr, _⟩ := h.row
  exact ⟨h.ptr.lt, hr.box.lt, hr.lt⟩
theorem ManyAt.len {W : World} {p q e : Nat} {l : List En} {room : Nat} (h : ManyAt W p q e l room) : l.length ≤ 256 := by
  obtain ⟨es, cs, v, hr, _, hl⟩ := h.row
  have := hr.len; omega
theorem ManyAt.ne {W : World} {p q e : Nat} {l : List En} {room : Nat} (h : ManyAt W p q e l room) : p ≠ q ∧ p ≠ e := by
  obtain ⟨es, cs, v, hr, _, hl⟩ := h.row
  have h1 := h.ptr
  unfold Fresh at h1
  have h2 := hr.box
  unfold Fresh at h2
  have n1 : p ≠ q := by rintro rfl; rw [h1] at h2; cases h2
  refine ⟨n1, ?_⟩
  rcases hr.ty with h3 | ⟨cur, h3⟩
  · rw [h3]; exact n1
  · rintro rfl; rw [h1] at h3; cases h3
theorem ManyAt.below {W W' : World} {p q e : Nat} {l : List En} {room : Nat} (h : ManyAt W p q e l room) (hb : Below W.heap.size W W') : ManyAt W' p q e l room := by
  obtain ⟨es, cs, v, hr, h1⟩ := h.row
  exact ⟨h.ptr.below hb, ⟨es, cs, v, hr.below hb, h1⟩, h.srt⟩
theorem ManyAt.turned {S : List Nat} {W W' : World} {p q e : Nat} {l : List En} {room : Nat} (h : ManyAt W p q e l room) (ht : Turned S W W') (hp : p ∉ S) (hq : q ∉ S) (he : e ∉ S) : ManyAt W' p q e l room := by
  obtain ⟨es, cs, v, hr, h1⟩ := h.row
  exact ⟨ht.other h.ptr hp, ⟨es, cs, v, hr.turned ht hq he, h1⟩, h.srt⟩
theorem ManyAt.drew {W : World} {p q e : Nat} {l : List En} {room : Nat} (h : ManyAt W p q e l room) : ManyAt W.drew p q e l room := h.below ((Below.refl _ _).drew)
theorem ManyAt.kept {W W' : World} {row : Option Nat} {p q e : Nat} {l : List En} {room : Nat} (h : ManyAt W p q e l room) (hg : W.grownBy W' row) (hr : ∀ r, row = some r → ∃ o : Obj, W.heap[r]? = some o ∧ o.isCells = false) : ManyAt W' p q e l room := by
  obtain ⟨es, cs, v, hw, h1⟩ := h.row
  exact ⟨h.ptr.kept hg hr, ⟨es, cs, v, hw.kept hg hr, h1⟩, h.srt⟩
theorem ManyAt.kp {Kp : List Nat → World → World → Prop} (K : KLaw Kp) {S : List Nat} {W W' : World} {p q e : Nat} {l : List En} {room : Nat} (h : ManyAt W p q e l room) (ht : Kp S W W') (hp : p ∉ S) (hq : q ∉ S) (he : e ∉ S) : ManyAt W' p q e l room := by
  obtain ⟨es, cs, v, hr, h1⟩ := h.row
  exact ⟨K.other ht h.ptr hp (by decide), ⟨es, cs, v, hr.kp K ht hq he, h1⟩, h.srt⟩
theorem ManyAt.cell {W : World} {p q e : Nat} {l : List En} {room : Nat} (h : ManyAt W p q e l room) : W.cell? ⟨p, 0, none⟩ = some (.pointer (some ⟨q, 0, none⟩)) := (h.ptr.cell 0).trans rfl

/-- A byte's entry among the entries in no order. -/
theorem pos_of {es l : List En} (hm : ∀ x, x ∈ es ↔ x ∈ l) (hs : Srt l) (b : UInt8) :
    (isIn b l = false ∧ Pos es b 0 ∧ ∀ x ∈ es, x.1 ≠ b) ∨ (isIn b l = true ∧ ∃ i s g, es[i]? = some (b, s, g) ∧ atOf b l = (b, s, g) ∧ Pos es b (i + 1)) := by
  cases hi : isIn b l
  · left
    have hn : ∀ x ∈ es, x.1 ≠ b := fun x hx e => by
      have := (isIn_iff hs).2 ⟨x, (hm x).1 hx, e⟩
      rw [hi] at this; cases this
    exact ⟨rfl, .inl ⟨rfl, hn⟩, hn⟩
  · right
    obtain ⟨h1, h2⟩ := at_mem hi
    obtain ⟨i, hil, hie⟩ := List.getElem_of_mem ((hm _).2 h1)
    have ha : atOf b l = (b, (atOf b l).2.1, (atOf b l).2.2) := Prod.ext h2 rfl
    have hx : es[i]? = some (b, (atOf b l).2.1, (atOf b l).2.2) := by rw [List.getElem?_eq_getElem hil, hie, ← ha]
    exact ⟨rfl, i, _, _, hx, ha, .inr ⟨i, _, _, rfl, hx⟩⟩

theorem isNil_any {W : World} {p q e : Nat} {l : List En} {room : Nat} (h : ManyAt W p q e l room) : Calls Tryd.prog 103 #[.pointer (some ⟨p, 0, none⟩)] W fun e' w' => e' = .returned (.bool false) ∧ w' = W := by
  have h0 := h.cell
  clear h
  go_enter Tryd.func103, Tryd.ntmps103
  go_wp2
  go_ret
  exact ⟨rfl, rfl⟩
theorem RowM.setRef {W : World} {q e : Nat} {es : List En} {room : Nat} {cs : Array Value} {v : Value} (h : RowM W q e es room cs v) {b : UInt8} {i : Nat} {s0 g0 : Int} (hx : es[i]? = some (b, s0, g0)) (s g : Int) :
    RowM ((W.setCell ⟨e, i * 3 + 1, none⟩ (.int .i64 s)).setCell ⟨e, i * 3 + 2, none⟩ (.int .u32 g)) q e (es.set i (b, s, g)) room cs v := by
  obtain ⟨hil, hxe⟩ := List.getElem?_eq_some_iff.1 hx
  rcases h.form with ⟨_, h2⟩ | ⟨cap, cur, rfl, hf, h3, h4, h5, h6⟩
  · subst h2; simp at hil
  · have hq : q ≠ e := by
      rintro rfl
      have := h.box
      unfold Fresh at this hf
      rw [this] at hf
      cases hf
    have F := (hf.set (i * 3 + 1) (.int .i64 s)).set (i * 3 + 2) (.int .u32 g)
    have hl : (es.set i (b, s, g)).length = es.length := List.length_set
    refine ⟨(h.box.other hq _ _).other hq _ _, h.size, fun y => ?_, h.ent, h.room, ?_, h.blk, ?_, by rw [hl]; exact h.len, F.lt, .inr ⟨_, F⟩⟩
    · obtain ⟨n, h1, h2⟩ := h.tab y
      refine ⟨n, h1, ?_⟩
      rcases h2 with ⟨h2, h3⟩ | ⟨j, s', g', h2, h3⟩
      · refine .inl ⟨h2, fun x hx' => ?_⟩
        rcases List.mem_or_eq_of_mem_set hx' with hx' | rfl
        · exact h3 x hx'
        · exact h3 (b, s0, g0) (List.mem_of_getElem? hx)
      · by_cases e1 : j = i
        · subst e1
          rw [hx] at h3
          obtain rfl : b = y := by cases h3; rfl
          exact .inr ⟨j, s, g, h2, by rw [List.getElem?_set_self hil]⟩
        · exact .inr ⟨j, s', g', h2, by rw [List.getElem?_set_ne (Ne.symm e1)]; exact h3⟩
    · rw [hl]
      refine ⟨by rw [flat_length, hl], .inr ⟨e, cap, _, rfl, Nat.zero_le _, F, h3, h4, by simp [h5], ?_⟩⟩
      have hb := (flat_at es i _ hx).1
      obtain ⟨bl, be⟩ := List.getElem?_eq_some_iff.1 hb
      have hs : (flat es).set (i * 3) (.int .u8 (b.toNat : Int)) = flat es := by
        rw [← be]; exact List.set_getElem_self bl
      rw [flat_set _ _ _ hil]
      dsimp only
      rw [hs, ← h6]
      simp only [Array.toList_setIfInBounds, List.take_set]
    · rw [List.pairwise_iff_getElem]
      intro j k hj hk hjk
      simp only [List.length_set] at hj hk
      have P := List.pairwise_iff_getElem.1 h.dist j k hj hk hjk
      rw [List.getElem_set, List.getElem_set]
      split
      · rename_i e1; subst e1
        rw [if_neg (by omega)]
        rw [hxe] at P; exact P
      · split
        · rename_i e1 e2; subst e2
          rw [hxe] at P; exact P
        · exact P
theorem turn_same {es l : List En} (hm : ∀ x, x ∈ es ↔ x ∈ l) (hs : Srt l) (hd : es.Pairwise fun x y => x.1 ≠ y.1) {b : UInt8} {i : Nat} {s0 g0 : Int} (hx : es[i]? = some (b, s0, g0)) (hi : isIn b l = true) (s g : Int) : ∀ x, x ∈ es.set i (b, s, g) ↔ x ∈ turnS b s g l := by
  obtain ⟨hil, hxe⟩ := List.getElem?_eq_some_iff.1 hx
  obtain ⟨t1, t2⟩ := turn_at hs s g hi
  intro x
  by_cases e : x.1 = b
  · have hr : x ∈ turnS b s g l ↔ x = (b, s, g) := by
      constructor
      · intro h
        obtain ⟨_, h2⟩ := mem_at (srt_turn hs s g) h
        rw [e, t2] at h2; exact h2.symm
      · rintro rfl
        have := (at_mem t1).1
        rw [t2] at this; exact this
    rw [hr]
    constructor
    · intro h
      obtain ⟨j, hj, hje⟩ := List.getElem_of_mem h
      rw [List.getElem_set] at hje
      split at hje
      · exact hje.symm
      · exfalso
        rename_i e1
        simp only [List.length_set] at hj
        have hb : (es[j]'hj).1 = b := by rw [hje]; exact e
        rcases Nat.lt_or_gt_of_ne e1 with h1 | h1
        · have := List.pairwise_iff_getElem.1 hd i j hil hj h1
          rw [hxe] at this; exact this hb.symm
        · have := List.pairwise_iff_getElem.1 hd j i hj hil h1
          rw [hxe] at this; exact this hb
    · rintro rfl
      exact List.mem_of_getElem? (List.getElem?_set_self hil)
  · rw [mem_turn s g x e, ← hm]
    constructor
    · intro h
      rcases List.mem_or_eq_of_mem_set h with h | h
      · exact h
      · rw [h] at e; exact absurd rfl e
    · intro h
      obtain ⟨j, hj, hje⟩ := List.getElem_of_mem h
      have : j ≠ i := by rintro rfl; rw [hje] at hxe; rw [hxe] at e; exact e rfl
      exact List.mem_of_getElem? (by rw [List.getElem?_set_ne (Ne.symm this), List.getElem?_eq_getElem hj, hje])
theorem turn_len (b : UInt8) (s g : Int) (l : List En) : (turnS b s g l).length = l.length := by
  unfold turnS
  split
  · exact List.length_set
  · rfl
theorem turn_any {W : World} {p q e : Nat} {l : List En} {room : Nat} (h : ManyAt W p q e l room) (b : UInt8) (s g : Int) :
    Calls Tryd.prog 101 #[.pointer (some ⟨p, 0, none⟩), .int .u8 (b.toNat : Int), refV s g] W fun e' w' => e' = .returned (.int .i64 (if isIn b l = true then 0 else 5)) ∧ Turned [q, e] W w' ∧ ManyAt w' p q e (turnS b s g l) room := by
  obtain ⟨W0, hW0⟩ : ∃ W0, W0 = W.alloc (.cells #[.int .i64 s, .int .u32 g] 29) := ⟨_, rfl⟩
  have low : Below W.heap.size W W0 := by rw [hW0]; exact Below.new (Below.refl _ _) _
  have hbox : Fresh W0 W.heap.size #[.int .i64 s, .int .u32 g] 29 := by rw [hW0]; exact Fresh.new _ _ _ _ rfl
  have h0 := h.below low
  have p0 := h0.cell
  obtain ⟨es, cs, v, hr, hm, hl⟩ := h0.row
  have HN := Lib.hid (isNil_any h0)
  obtain ⟨c0, c1, f0, f1⟩ := hbox.box2m
  have HW0 := Lib.hid hW0
  have HL := Lib.hid low
  have HBX := Lib.hid hbox
  have HRr := Lib.hid hr
  have HA := Lib.hid h0
  rcases pos_of hm h.srt b with ⟨hi, hp, _⟩ | ⟨hi, i, s0, g0, hx, ha, hp⟩
  · have HH := Lib.hid (has_any hr b hp)
    have hT : turnS b s g l = l := by rw [turnS, hi, if_neg (by simp)]
    rw [hi, hT, if_neg (by simp)]
    clear hW0 low hbox h0 h hr hm hl hp hi
    go_enter Tryd.func101, Tryd.ntmps101
    go_wp2_with (first
      | (rw [← HW0.out]; go_at_call 103; refine HN.out.mono ?_; rintro e w1 ⟨rfl, hw⟩; replace hw := hw.symm; subst hw)
      | (go_at_call 106; refine HH.out.mono ?_; rintro e w1 ⟨rfl, hw⟩; replace hw := hw.symm; subst hw))
    go_ret
    exact ⟨rfl, .of_below HL.out, HA.out⟩
  · have HH := Lib.hid (has_any hr b hp)
    have HE := Lib.hid (entry_any hr.drew b hx)
    obtain ⟨-, a1, a2, af⟩ := hr.at hx
    dsimp only at a1 a2
    have af1 := af (i * 3 + 1)
    have af2 := af (i * 3 + 2)
    have HMM := Lib.hid (And.intro hm (And.intro hl (And.intro hx (And.intro hi h.srt))))
    rw [hi, if_pos rfl]
    clear hW0 low hbox h0 h hr hm hl hp hi ha hx af
    go_enter Tryd.func101, Tryd.ntmps101
    go_upto_region 5 with (first
      | (rw [← HW0.out]; go_at_call 103; refine HN.out.mono ?_; rintro e w1 ⟨rfl, hw⟩; replace hw := hw.symm; subst hw)
      | (go_at_call 106; refine HH.out.mono ?_; rintro e w1 ⟨rfl, hw⟩; replace hw := hw.symm; subst hw))
    go_region_with (go_at_call 107; refine HE.out.mono ?_; rintro e w1 ⟨rfl, rfl⟩)
    all_goals
      have B3 := (HRr.out.setRef HMM.out.2.2.1 s g).drew.drew
      have Q3 : Fresh ((W0.setCell ⟨e, i * 3 + 1, none⟩ (.int .i64 s)).setCell ⟨e, i * 3 + 1 + 1, none⟩ (.int .u32 g)).drew.drew p #[.pointer (some ⟨q, 0, none⟩)] 94 := ((HA.out.ptr.other HA.out.ne.2 _ _).other HA.out.ne.2 _ _).drew.drew
      have T3 : Turned [q, e] W ((W0.setCell ⟨e, i * 3 + 1, none⟩ (.int .i64 s)).setCell ⟨e, i * 3 + 1 + 1, none⟩ (.int .u32 g)).drew.drew := (((Turned.of_below HL.out).setCell (.inl (by simp)) _ _).setCell (.inl (by simp)) _ _).drew.drew
      have M3 := Lib.hid (And.intro T3 (ManyAt.mk Q3 ⟨_, _, _, B3, turn_same HMM.out.1 HMM.out.2.2.2.2 HRr.out.dist HMM.out.2.2.1 HMM.out.2.2.2.1 s g, by rw [List.length_set, turn_len]; exact HMM.out.2.1⟩ (srt_turn HMM.out.2.2.2.2 s g)))
      clear B3 Q3 T3
      go_wp2_with fail
      go_ret
      exact ⟨rfl, M3.out⟩
end Go.Proofs.YtjaijomkdgoenaaDoor.Mn
