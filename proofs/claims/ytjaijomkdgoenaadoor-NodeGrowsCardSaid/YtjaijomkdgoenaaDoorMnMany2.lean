/- Put and Take. -/
import Derived.Test.YtjaijomkdgoenaaDoorMnMany1
namespace Go.Proofs.YtjaijomkdgoenaaDoor.Mn
open Go.RowKit
set_option maxRecDepth 100000
set_option maxHeartbeats 4000000

theorem put_same {es l : List En} (hm : ∀ x, x ∈ es ↔ x ∈ l) {b : UInt8} {room : Nat} (h : ¬ (isIn b l = true ∨ l.length = room)) (s g : Int) : ∀ x, x ∈ es ++ [(b, s, g)] ↔ x ∈ putS b s g l room := by
  intro x
  rw [mem_put h, List.mem_append, hm]
  constructor
  · rintro (h | h)
    · exact .inr h
    · exact .inl (by simpa using h)
  · rintro (h | h)
    · exact .inr (by simp [h])
    · exact .inl h
theorem put_any {W : World} {p q e : Nat} {l : List En} {room : Nat} (h : ManyAt W p q e l room) (hr : room ≤ 256) (hle : l.length ≤ room) (b : UInt8) (s g : Int) :
    Calls Tryd.prog 99 #[.pointer (some ⟨p, 0, none⟩), .int .u8 (b.toNat : Int), refV s g] W fun e' w' => e' = .returned (.int .i64 (putE b l room)) ∧ ∃ e2, (e2 = e ∨ W.heap.size ≤ e2) ∧ Turned [q, e] W w' ∧ ManyAt w' p q e2 (putS b s g l room) room := by
  obtain ⟨W0, hW0⟩ : ∃ W0, W0 = W.alloc (.cells #[.int .i64 s, .int .u32 g] 29) := ⟨_, rfl⟩
  have low : Below W.heap.size W W0 := by rw [hW0]; exact Below.new (Below.refl _ _) _
  have hbox : Fresh W0 W.heap.size #[.int .i64 s, .int .u32 g] 29 := by rw [hW0]; exact Fresh.new _ _ _ _ rfl
  have h0 := h.below low
  have p0 := h0.cell
  obtain ⟨es, cs, v, hrw, hm, hl⟩ := h0.row
  have HN := Lib.hid (isNil_any h0)
  obtain ⟨c0, c1, f0, f1⟩ := hbox.box2m
  have HW0 := Lib.hid hW0
  have HL := Lib.hid low
  have HRr := Lib.hid hrw
  have HA := Lib.hid h0
  have HSrt := Lib.hid h.srt
  have hqe := h.lt
  have HLT := Lib.hid hqe
  rcases pos_of hm h.srt b with ⟨hi, hp, hno⟩ | ⟨hi, i, s0, g0, hx, ha, hp⟩
  · have HH := Lib.hid (has_any hrw b hp)
    obtain ⟨ao, cap, hv⟩ := hrw.slice
    have d0 : W0.cell? ⟨q, 256, none⟩ = some (.slice ao l.length cap) := by rw [← hl, ← hv]; exact (hrw.box.cell _).trans hrw.ent
    have d1 : W0.cell? ⟨q, 257, none⟩ = some (.int .i64 (room : Int)) := (hrw.box.cell _).trans hrw.room
    by_cases hfull : l.length = room
    · have q0 : ((l.length : Int) == (room : Int)) = true := by rw [beq_iff_eq]; omega
      have hP : putE b l room = 14 := by rw [putE, hi, if_neg (by simp), if_pos hfull]
      have hS : putS b s g l room = l := by rw [putS, if_pos (.inr hfull)]
      rw [hP, hS]
      clear hW0 low hbox h0 h hrw hm hl hp hi hfull hv hle hr hno hqe hP hS
      go_enter Tryd.func99, Tryd.ntmps99
      go_upto_region 5 with (first
        | (rw [← HW0.out]; go_at_call 103; refine HN.out.mono ?_; rintro e w1 ⟨rfl, hw⟩; replace hw := hw.symm; subst hw)
        | (go_at_call 106; refine HH.out.mono ?_; rintro e w1 ⟨rfl, hw⟩; replace hw := hw.symm; subst hw))
      go_region
      go_wp2_with fail
      go_ret
      exact ⟨rfl, e, .inl rfl, .of_below HL.out.drew, HA.out.drew⟩
    · have q0 : ((l.length : Int) == (room : Int)) = false := by rw [beq_eq_false_iff_ne]; omega
      have hcond : ¬ (isIn b l = true ∨ l.length = room) := by rw [hi]; simp [hfull]
      have hlt : es.length < 256 := by omega
      have HADD := Lib.hid (fun W' (hb : Below W0.heap.size W0 W') => add_any (hrw.below hb) b s g hno hlt)
      have HMS := Lib.hid (put_same hm hcond s g)
      have HPL : Hid ((putS b s g l room).length = es.length + 1) := by
        show _ = _
        rw [put_len, if_neg hcond, hl]
      rw [putE, hi, if_neg (by simp), if_neg hfull]
      clear hW0 low hbox h0 h hrw hm hl hp hi hfull hv hle hr hno hqe hcond hlt
      go_enter Tryd.func99, Tryd.ntmps99
      go_upto_region 5 with (first
        | (rw [← HW0.out]; go_at_call 103; refine HN.out.mono ?_; rintro e w1 ⟨rfl, hw⟩; replace hw := hw.symm; subst hw)
        | (go_at_call 106; refine HH.out.mono ?_; rintro e w1 ⟨rfl, hw⟩; replace hw := hw.symm; subst hw))
      go_region
      go_upto_region 7 with fail
      go_region_with (go_at_call 108; refine (HADD.out _ (Below.refl _ _).drew.drew).mono ?_; rintro e' w1 ⟨⟨u, rfl⟩, e2, cs2, v2, he2, hT2, hR2⟩; have H2 := Lib.hid (And.intro he2 (And.intro hT2 hR2)); clear he2 hT2 hR2)
      all_goals
        have hh := H2.out
        have hT : Turned [q, e] W0 w1 := ⟨hh.2.1.os, hh.2.1.tape, hh.2.1.output, hh.2.1.size, hh.2.1.block⟩
        have hne := HA.out.ne
        have P1 : Fresh w1 p #[.pointer (some ⟨q, 0, none⟩)] 94 := hT.other HA.out.ptr (by simp; exact hne)
        have M1 : ManyAt w1 p q e2 (putS b s g l room) room := ⟨P1, ⟨_, cs2, v2, hh.2.2, HMS.out, by rw [HPL.out]; simp⟩, srt_put HSrt.out s g room⟩
        have he : e2 = e ∨ W.heap.size ≤ e2 := by
          rcases hh.1 with h | h
          · exact .inl h
          · exact .inr (Nat.le_trans HL.out.size h)
        have FIN := Lib.hid (And.intro he (And.intro ((Turned.of_below HL.out).trans hT) M1))
        clear hh hT hne P1 M1 he
        go_wp2_with fail
        go_ret
        exact ⟨rfl, e2, FIN.out⟩
  · have HH := Lib.hid (has_any hrw b hp)
    have hP : putE b l room = 8 := by rw [putE, hi, if_pos rfl]
    have hS : putS b s g l room = l := by rw [putS, if_pos (.inl hi)]
    rw [hP, hS]
    clear hW0 low hbox h0 h hrw hm hl hp hi hle hr hqe hx ha hP hS
    go_enter Tryd.func99, Tryd.ntmps99
    go_wp2_with (first
      | (rw [← HW0.out]; go_at_call 103; refine HN.out.mono ?_; rintro e w1 ⟨rfl, hw⟩; replace hw := hw.symm; subst hw)
      | (go_at_call 106; refine HH.out.mono ?_; rintro e w1 ⟨rfl, hw⟩; replace hw := hw.symm; subst hw))
    go_ret
    exact ⟨rfl, e, .inl rfl, .of_below HL.out, HA.out⟩

theorem mem_without {es : List En} {i n : Nat} {b c : UInt8} {s g s2 g2 : Int} (hd : es.Pairwise fun x y => x.1 ≠ y.1) (hn : es.length = n + 1) (hi : es[i]? = some (b, s, g)) (hx : es[n]? = some (c, s2, g2)) (z : En) : z ∈ without i (c, s2, g2) es ↔ z ∈ es ∧ z.1 ≠ b := by
  have hil := (List.getElem?_eq_some_iff.1 hi).1
  have hw : ∀ j, (without i (c, s2, g2) es)[j]? = if j < n then (if i = j then some (c, s2, g2) else es[j]?) else none := by
    intro j
    rw [without, hn, Nat.add_sub_cancel]
    by_cases hj : j < n
    · rw [if_pos hj, List.getElem?_take_of_lt hj, List.getElem?_set]
      by_cases e : i = j
      · subst e; rw [if_pos rfl, if_pos rfl, if_pos hil]
      · rw [if_neg e, if_neg e]
    · rw [if_neg hj, List.getElem?_take_eq_none (by omega)]
  have uniq : ∀ (j k : Nat) (y z : En), es[j]? = some y → es[k]? = some z → y.1 = z.1 → j = k := by
    intro j k y z hj hk e
    have p1 : Pos es y.1 (j + 1) := .inr ⟨j, y.2.1, y.2.2, rfl, hj⟩
    have p2 : Pos es y.1 (k + 1) := .inr ⟨k, z.2.1, z.2.2, rfl, by rw [e]; exact hk⟩
    have := p1.uniq hd p2
    omega
  rw [List.mem_iff_getElem?]
  constructor
  · rintro ⟨j, hj⟩
    rw [hw] at hj
    by_cases hjn : j < n
    · rw [if_pos hjn] at hj
      by_cases ej : i = j
      · rw [if_pos ej] at hj
        cases hj
        refine ⟨List.mem_of_getElem? hx, fun e => ?_⟩
        have := uniq i n _ _ hi hx (by exact e.symm)
        omega
      · rw [if_neg ej] at hj
        exact ⟨List.mem_of_getElem? hj, fun e => ej (uniq i j _ _ hi hj (by exact e.symm))⟩
    · rw [if_neg hjn] at hj; cases hj
  · rintro ⟨hz, hzb⟩
    obtain ⟨j, hj⟩ := List.mem_iff_getElem?.1 hz
    have hjl := (List.getElem?_eq_some_iff.1 hj).1
    have hji : j ≠ i := by rintro rfl; rw [hi] at hj; cases hj; exact hzb rfl
    by_cases hjn : j < n
    · exact ⟨j, by rw [hw, if_pos hjn, if_neg (Ne.symm hji)]; exact hj⟩
    · have hjn' : j = n := by omega
      subst hjn'
      rw [hx] at hj
      exact ⟨i, by rw [hw, if_pos (by omega), if_pos rfl]; exact hj⟩
theorem take_same {es l : List En} (hm : ∀ x, x ∈ es ↔ x ∈ l) (hs : Srt l) {i n : Nat} {b c : UInt8} {s g s2 g2 : Int} (hd : es.Pairwise fun x y => x.1 ≠ y.1) (hn : es.length = n + 1) (hi : es[i]? = some (b, s, g)) (hx : es[n]? = some (c, s2, g2)) : ∀ x, x ∈ without i (c, s2, g2) es ↔ x ∈ takeS b l := by
  intro x
  rw [mem_without hd hn hi hx]
  by_cases e : x.1 = b
  · constructor
    · intro h; exact absurd e h.2
    · intro h
      have := (isIn_iff (srt_take (b := b) hs)).2 ⟨x, h, e⟩
      rw [take_not hs] at this; cases this
  · rw [mem_take x e, hm]
    exact ⟨fun h => h.1, fun h => ⟨h, e⟩⟩
theorem take_any {W : World} {p q e : Nat} {l : List En} {room : Nat} (h : ManyAt W p q e l room) (b : UInt8) :
    Calls Tryd.prog 100 #[.pointer (some ⟨p, 0, none⟩), .int .u8 (b.toNat : Int)] W fun e' w' => e' = .returned (.tuple #[refOf b l, .int .i64 (if isIn b l = true then 0 else 5)]) ∧ Turned [q, e] W w' ∧ ManyAt w' p q e (takeS b l) room := by
  obtain ⟨W0, hW0⟩ : ∃ W0, W0 = W.alloc (.cells #[.int .i64 0, .int .u32 0] 29) := ⟨_, rfl⟩
  have low : Below W.heap.size W W0 := by rw [hW0]; exact Below.new (Below.refl _ _) _
  have hbox : Fresh W0 W.heap.size #[.int .i64 0, .int .u32 0] 29 := by rw [hW0]; exact Fresh.new _ _ _ _ rfl
  have h0 := h.below low
  have p0 := h0.cell
  obtain ⟨es, cs, v, hr, hm, hl⟩ := h0.row
  have HN := Lib.hid (isNil_any h0)
  obtain ⟨c0, c1, f0, f1⟩ := hbox.box2m
  have HW0 := Lib.hid hW0
  have HL := Lib.hid low
  have HBX := Lib.hid hbox
  have HRr := Lib.hid hr
  have HA := Lib.hid h0
  have hlt := h.lt
  have HLT := Lib.hid hlt
  rcases pos_of hm h.srt b with ⟨hi, hp, _⟩ | ⟨hi, i, s0, g0, hx, ha, hp⟩
  · have HH := Lib.hid (has_any hr b hp)
    have hT : takeS b l = l := by rw [takeS, hi, if_neg (by simp)]
    rw [hT, refOf, hi, if_neg (by simp), if_neg (by simp)]
    clear hW0 low hbox h0 h hr hm hl hp hi hlt
    go_enter Tryd.func100, Tryd.ntmps100
    go_wp2_with (first
      | (rw [← HW0.out]; go_at_call 103; refine HN.out.mono ?_; rintro e w1 ⟨rfl, hw⟩; replace hw := hw.symm; subst hw)
      | (go_at_call 106; refine HH.out.mono ?_; rintro e w1 ⟨rfl, hw⟩; replace hw := hw.symm; subst hw))
    obtain ⟨W3, hW3⟩ : ∃ W3, W3 = (W0.setCell ⟨W.heap.size, 0, none⟩ (.int .i64 0)).setCell ⟨W.heap.size, 1, none⟩ (.int .u32 0) := ⟨_, rfl⟩
    have F3 : Fresh W3 W.heap.size #[.int .i64 0, .int .u32 0] 29 := by rw [hW3]; exact (HBX.out.set 0 _).set 1 _
    obtain ⟨g0, g1, _, _⟩ := F3.box2m
    have T3 : Turned [W.heap.size] W0 W3 := by rw [hW3]; exact ((Turned.refl _ _).setCell (.inl (by simp)) _ _).setCell (.inl (by simp)) _ _
    have B3 : Hid (Turned [q, e] W W3 ∧ ManyAt W3 p q e l room) := by
      have hlt := HLT.out
      refine ⟨?_, HA.out.turned T3 (by simp; omega) (by simp; omega) (by simp; omega)⟩
      rw [hW3]; exact ((Turned.of_below HL.out).setCell (.inr (Nat.le_refl _)) _ _).setCell (.inr (Nat.le_refl _)) _ _
    rw [← hW3]
    clear hW3 F3 T3
    refine bodyPost_ret (v := .tuple #[refV 0 0, .int .i64 5]) ?_ rfl ⟨rfl, B3.out⟩
    rw [results_cell_tmp rfl]
    go_simp
  · have HH := Lib.hid (has_any hr b hp)
    obtain ⟨n, hn⟩ : ∃ n, es.length = n + 1 := ⟨es.length - 1, by have := (List.getElem?_eq_some_iff.1 hx).1; omega⟩
    obtain ⟨⟨c, s2, g2⟩, hxn⟩ : ∃ x, es[n]? = some x := ⟨_, List.getElem?_eq_getElem (by omega)⟩
    have HR := Lib.hid (remove_any hr b hx hn hxn)
    have HMS := Lib.hid (take_same hm h.srt hr.dist hn hx hxn)
    have HPL : Hid ((without i (c, s2, g2) es).length = (takeS b l).length) := by
      show _ = _
      rw [without, List.length_take, List.length_set, take_len, if_pos hi, ← hl]; omega
    have HSrt := Lib.hid (srt_take (b := b) h.srt)
    rw [refOf, hi, if_pos rfl, ha]
    clear hW0 low hbox h0 h hr hm hl hp hi ha hx hn hxn hlt
    go_enter Tryd.func100, Tryd.ntmps100
    go_wp2_with (first
      | (rw [← HW0.out]; go_at_call 103; refine HN.out.mono ?_; rintro e w1 ⟨rfl, hw⟩; replace hw := hw.symm; subst hw)
      | (go_at_call 106; refine HH.out.mono ?_; rintro e w1 ⟨rfl, hw⟩; replace hw := hw.symm; subst hw)
      | (go_at_call 109; refine HR.out.mono ?_; rintro e' w2 ⟨rfl, cs2, v2, hT2, hR2⟩; obtain ⟨c0, c1, f0, f1⟩ := (hT2.other HBX.out (by have := HLT.out; simp; omega)).box2m; have H2 := Lib.hid (And.intro hT2 hR2); clear hT2 hR2))
    obtain ⟨W3, hW3⟩ : ∃ W3, W3 = (w2.setCell ⟨W.heap.size, 0, none⟩ (.int .i64 s0)).setCell ⟨W.heap.size, 1, none⟩ (.int .u32 g0) := ⟨_, rfl⟩
    have hlt := HLT.out
    have F3 : Fresh W3 W.heap.size #[.int .i64 s0, .int .u32 g0] 29 := by rw [hW3]; exact ((H2.out.1.other HBX.out (by simp; omega)).set 0 _).set 1 _
    obtain ⟨g0', g1', _, _⟩ := F3.box2m
    have T3 : Turned [W.heap.size] w2 W3 := by rw [hW3]; exact ((Turned.refl _ _).setCell (.inl (by simp)) _ _).setCell (.inl (by simp)) _ _
    have FIN : Hid (Turned [q, e] W W3 ∧ ManyAt W3 p q e (takeS b l) room) := by
      have hne := HA.out.ne
      refine ⟨?_, ?_⟩
      · rw [hW3]; exact (((Turned.of_below HL.out).trans H2.out.1).setCell (.inr (Nat.le_refl _)) _ _).setCell (.inr (Nat.le_refl _)) _ _
      · refine ⟨T3.other (H2.out.1.other HA.out.ptr (by simp; exact hne)) (by simp; omega), ⟨_, cs2, v2, H2.out.2.turned T3 (by simp; omega) (by simp; omega), HMS.out, HPL.out⟩, HSrt.out⟩
    rw [← hW3]
    clear hW3 F3 T3 hlt
    refine bodyPost_ret (v := .tuple #[refV s0 g0, .int .i64 0]) ?_ rfl ⟨rfl, FIN.out⟩
    rw [results_cell_tmp rfl]
    go_simp
end Go.Proofs.YtjaijomkdgoenaaDoor.Mn
