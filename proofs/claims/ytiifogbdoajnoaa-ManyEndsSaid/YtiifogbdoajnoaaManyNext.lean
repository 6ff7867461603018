/- Next of a table. -/
import Derived.Test.YtiifogbdoajnoaaManyAll
namespace Go.Proofs.Ytiifogbdoajnoaa
open Go.RowKit Go.Shelf
attribute [local go_sem] Oper.semAt_some
set_option maxRecDepth 100000
set_option maxHeartbeats 4000000

theorem nextIx_le (f : Int) (l : List En) : nextIx f l ≤ l.length := firstIx_le _ _
theorem next_split (f : Int) {l : List En} (hs : Srt l) : (∀ j (h : j < l.length), j < nextIx f l → (l[j].1.toNat : Int) < f) ∧ (∀ j (h : j < l.length), nextIx f l ≤ j → f ≤ (l[j].1.toNat : Int)) := by
  have h1 : ∀ j (h : j < l.length), j < nextIx f l → (l[j].1.toNat : Int) < f := fun j h hj => by
    have := List.not_of_lt_findIdx hj
    simp at this
    exact this
  refine ⟨h1, fun j h hj => ?_⟩
  have hp : nextIx f l < l.length := by omega
  have h2 : f ≤ ((l[nextIx f l]'hp).1.toNat : Int) := by
    have := List.findIdx_getElem (p := fun x : En => decide (f ≤ (x.1.toNat : Int))) (xs := l) (w := hp)
    exact of_decide_eq_true this
  rcases Nat.lt_or_eq_of_le hj with hlt | heq
  · have := List.pairwise_iff_getElem.1 hs _ _ hp h hlt
    omega
  · subst heq; exact h2
theorem fromOf_next {es l : List En} (hm : ∀ x, x ∈ es ↔ x ∈ l) (hs : Srt l) (f : Int) : FromOf ((l.drop (nextIx f l)).map (·.1)) f es := by
  obtain ⟨h1, h2⟩ := next_split f hs
  refine ⟨List.pairwise_map.2 (hs.sublist (List.drop_sublist _ _)), fun b => ?_⟩
  rw [List.mem_map]
  constructor
  · rintro ⟨x, hx, rfl⟩
    obtain ⟨j, hj, rfl⟩ := List.getElem_of_mem hx
    rw [List.getElem_drop]
    rw [List.length_drop] at hj
    exact ⟨h2 _ (by omega) (by omega), _, (hm _).2 (List.getElem_mem _), rfl⟩
  · rintro ⟨hf, x, hx, rfl⟩
    obtain ⟨j, hj, rfl⟩ := List.getElem_of_mem ((hm x).1 hx)
    have hle : nextIx f l ≤ j := by
      rcases Nat.lt_or_ge j (nextIx f l) with h | h
      · have := h1 j hj h; omega
      · exact h
    refine ⟨l[j], ?_, rfl⟩
    rw [List.mem_iff_getElem]
    exact ⟨j - nextIx f l, by rw [List.length_drop]; omega, by rw [List.getElem_drop]; congr 1; omega⟩
/-- The boxes of the results. -/
structure Out3 (W : World) (B : Nat) (c s g : Int) (u : Bool) : Prop where
  b1 : Fresh W (B + 1) #[.int .u8 c] 5
  b2 : Fresh W (B + 1 + 1) #[.int .i64 s, .int .u32 g] 35
  b3 : Fresh W (B + 1 + 1 + 1) #[.bool u] 4
theorem Out3.kept {W W' : World} {row : Option Nat} {B : Nat} {c s g : Int} {u : Bool} (h : Out3 W B c s g u) (hg : W.grownBy W' row) (hr : ∀ r, row = some r → ∃ o : Obj, W.heap[r]? = some o ∧ o.isCells = false) : Out3 W' B c s g u := ⟨h.b1.kept hg hr, h.b2.kept hg hr, h.b3.kept hg hr⟩
theorem Out3.below {W W' : World} {B : Nat} {c s g : Int} {u : Bool} (h : Out3 W B c s g u) (hb : Below W.heap.size W W') : Out3 W' B c s g u := ⟨h.b1.below hb, h.b2.below hb, h.b3.below hb⟩
theorem next_any {W : World} {p q e : Nat} {l : List En} {room : Nat} (h : ManyAt W p q e l room) (f : Int) :
    Calls Try.prog 16 #[.pointer (some ⟨p, 0, none⟩), .int .i64 f] W fun e' w' => e' = .returned (nextV f l) ∧ Below W.heap.size W w' := by
  obtain ⟨W0, hW0⟩ : ∃ W0, W0 = (((W.alloc (.cells #[.pointer (some ⟨p, 0, none⟩)] 24)).alloc (.cells #[.int .u8 0] 5)).alloc (.cells #[.int .i64 0, .int .u32 0] 35)).alloc (.cells #[.bool false] 4) := ⟨_, rfl⟩
  have B0 : Below W.heap.size W W0 := by rw [hW0]; exact Below.new (Below.new (Below.new (Below.new (Below.refl _ _) _) _) _) _
  have h0 := h.below B0
  have fp : Fresh W0 W.heap.size #[.pointer (some ⟨p, 0, none⟩)] 24 := by rw [hW0]; exact (((Fresh.new _ _ _ _ rfl).alloc _).alloc _).alloc _
  have O0 : Out3 W0 W.heap.size 0 0 0 false := by
    rw [hW0]
    exact ⟨((Fresh.new _ _ _ _ (by simp)).alloc _).alloc _, (Fresh.new _ _ _ _ (by simp)).alloc _, Fresh.new _ _ _ _ (by simp)⟩
  have s0 : Hid (W0.heap.size = W.heap.size + 4) := by show _ = _; rw [hW0]; simp
  have p0 := h0.cell
  obtain ⟨es, cs, v, hr, hm, hl⟩ := h0.row
  have HI := Lib.hid (isNil_any h0)
  have HM := Lib.hid (And.intro hm (And.intro hl h.srt))
  have HR := Lib.hid hr
  have HLT := Lib.hid h.lt
  have c0 := (fp.cell 0).trans rfl
  simp only [List.getElem?_toArray, List.getElem?_cons_zero] at c0
  have HF := Lib.hid fp
  have HPP := Lib.hid h0.ptr
  have HO := Lib.hid O0
  have HB0 := Lib.hid B0
  have HW0 := Lib.hid hW0
  have hmf := @makeFunc_run Try.prog
  clear h h0 hm hl hr fp O0 B0 hW0
  refine (callsIn_wide (n := 10)).1 ?_
  refine callsIn_of_wp_marks Try.func16 rfl trivial ?_ rfl
  simp only [Try.ntmps16, List.size_toArray, List.length_cons, List.length_nil, Nat.reduceAdd, Nat.reduceSub, Array.replicate_succ, Array.replicate_zero, List.push_toArray, List.append_toArray, List.nil_append, List.cons_append]
  refine wpIn_wide.2 ?_
  refine wp_mono (Q := calmQ _) ?_ calmQ_out
  go_upto_region 1 with fail
  rw [← HW0.out]
  go_wp2_with (first
    | (go_at_call 29; refine HI.out.mono ?_; rintro e' w2 ⟨rfl, hw2⟩; replace hw2 := hw2.symm; subst hw2)
    | (go_at_call 34; refine (bytes_any f q _).mono ?_; rintro e' WL ⟨rfl, hWL⟩; have HWL := Lib.hid hWL; clear hWL))
  have szL : WL.heap.size = W0.heap.size + 2 := by rw [HWL.out]; simp
  have BL : Below W0.heap.size W0 WL := by rw [HWL.out]; exact Below.new (Below.new (Below.refl _ _) _) _
  have BY : ByAt WL W0.heap.size (W0.heap.size + 1) q e f es room cs v := by
    refine ⟨HR.out.below BL, ?_, ?_⟩
    · rw [HWL.out]; exact (Fresh.new _ _ _ _ rfl).alloc _
    · rw [HWL.out]; exact Fresh.new _ _ _ _ (by simp)
  have OL := HO.out.below BL
  have FL := HF.out.below BL
  have BW := Below.step HB0.out BL
  have hlt := HLT.out
  have s0' := s0.out
  have PL := HPP.out.below BL
  refine (wpIn_wide (n := 10)).1 ?_
  generalize hA0 : ({ tmps := _, defers := _ } : Act) = A0
  refine range_box rfl (by omega) (gf := 38) (lb := #[.pointer (some ⟨W0.heap.size, 0, none⟩), .pointer (some ⟨W0.heap.size + 1, 0, none⟩)]) (by rw [← hA0]; rfl) trivial (enters_of Try.func38 (by kernel_rfl) rfl)
    (bytes_own 9 (by omega) W0.heap.size (W0.heap.size + 1) q e f es room cs v _ (fromOf_next HM.out.1 HM.out.2.2 f) (Turned [W.heap.size + 1, W.heap.size + 1 + 1, W.heap.size + 1 + 1 + 1, WL.heap.size + 1]) WL BY
      (fun A B hk hB => hB.turned hk ⟨by simp; omega, by simp; omega, by simp; omega, by simp; omega⟩))
    (fun h k => h.trans k) (fun Wc o _ => Turned.put (by simp) o) (Below.refl _ _) (fun _ => rfl)
    (fun pre Wc => pre = [] ∧ RowM Wc q e es room cs v ∧ Fresh Wc W.heap.size #[.pointer (some ⟨p, 0, none⟩)] 24 ∧ Fresh Wc p #[.pointer (some ⟨q, 0, none⟩)] 49 ∧ Out3 Wc W.heap.size 0 0 0 false ∧ Below W.heap.size W Wc)
    (fun c pre Wc => c = .ret ∧ Below W.heap.size W Wc ∧ ∃ (c : UInt8) (s g : Int), nextV f l = .tuple #[.int .u8 (c.toNat : Int), refV s g, .bool true] ∧ Out3 Wc W.heap.size (c.toNat : Int) s g true)
    (fun pre X Y row ⟨h0, h1, h2, h3, h4, h5⟩ hg hr => ⟨h0, h1.kept hg (fun r e => (hr r e).2), h2.kept hg (fun r e => (hr r e).2), h3.kept hg (fun r e => (hr r e).2), h4.kept hg (fun r e => (hr r e).2), h5.grown hg (by have := h5.size; exact this) (fun r e => by have := (hr r e).1; omega)⟩)
    (fun c pre X Y row ⟨h0, h1, c', s, g, h2, h3⟩ hg hr => ⟨h0, h1.grown hg (by have := h1.size; exact this) (fun r e => by have := (hr r e).1; omega), c', s, g, h2, h3.kept hg (fun r e => (hr r e).2)⟩)
    ⟨rfl, BY.row, FL, PL, OL, BW⟩
    (fun x a' _ => a' = { tmps := (A0.tmps.setIfInBounds 18 (.int .u8 (x.toNat : Int))).setIfInBounds 7 (.int .u8 (x.toNat : Int)), defers := [] })
    (fun x a' _ X Y row h1 hg hr => h1)
    ?assignment ?round ?done ?stop
  all_goals subst hA0
  case assignment =>
    rintro l' pre x Wc K' hG hI hK'
    have HK' := hK' _ Wc ((KeepsOthers.refl _).from _) (Turned.refl _ Wc) hI rfl
    clear hK' hI hG szL BL BY OL FL BW PL hlt s0'
    simp only [List.setIfInBounds_toArray, List.set_cons_succ, List.set_cons_zero] at HK'
    replace HK' := Lib.hid HK'
    unfold byV
    gi_wp2
    exact HK'.out
  case round =>
    rintro l' pre x a' W5 hG ⟨rfl, hr5, hf5, hp5, ho5, hb5⟩ rfl hz
    simp only [List.setIfInBounds_toArray, List.set_cons_succ, List.set_cons_zero]
    obtain ⟨k', hk', hpx⟩ := hG
    have hx0 : nextIx f l < l.length ∧ ∀ h : nextIx f l < l.length, x = (l[nextIx f l]'h).1 := by
      obtain ⟨h1, h2⟩ := List.append_inj' hpx rfl
      have hlen : k' = 0 := by
        have := congrArg List.length h1
        simp only [List.length_take, List.length_nil] at this
        omega
      subst hlen
      simp only [List.length_map, List.length_drop] at hk'
      refine ⟨by omega, fun _ => ?_⟩
      have : x = ((l.drop (nextIx f l)).map (·.1))[0] := by simpa using h2
      rw [this, List.getElem_map, List.getElem_drop]
      rfl
    obtain ⟨hkl, hxk⟩ := hx0
    have hxk := hxk hkl
    obtain ⟨⟨c, s, g⟩, hlk⟩ : ∃ y, l[nextIx f l] = y := ⟨_, rfl⟩
    obtain ⟨i, hi⟩ := List.mem_iff_getElem?.1 ((HM.out.1 _).2 (List.getElem_mem hkl))
    rw [hlk] at hi
    obtain rfl : x = c := by rw [hxk, hlk]
    have HNV : Hid (nextV f l = .tuple #[.int .u8 (x.toNat : Int), refV s g, .bool true]) := by
      show _ = _
      rw [nextV, List.getElem?_eq_getElem hkl, hlk]
    have HENT := Lib.hid (fun W' (hb : Below W5.heap.size W5 W') => entry_any (hr5.below hb) x hi)
    obtain ⟨-, a1, a2, -⟩ := hr5.at hi
    dsimp only at a1 a2
    have d0 := (hf5.cell 0).trans rfl
    have d1 := (hp5.cell 0).trans rfl
    have o1 := (ho5.b1.cell 0).trans rfl
    have o2 := (ho5.b2.cell 0).trans rfl
    have o3 := (ho5.b2.cell 1).trans rfl
    have o4 := (ho5.b3.cell 0).trans rfl
    have t1 := ho5.b1.thawed 0
    have t2 := ho5.b2.thawed 0
    have t3 := ho5.b2.thawed 1
    have t4 := ho5.b3.thawed 0
    simp only [List.getElem?_toArray, List.getElem?_cons_zero, List.getElem?_cons_succ] at d0 d1 o1 o2 o3 o4
    have ne1 : e ≠ W.heap.size + 1 := by omega
    have HFIN : Hid (∀ W7, W7 = ((((W5.setCell ⟨W.heap.size + 1, 0, none⟩ (.int .u8 (x.toNat : Int))).setCell ⟨W.heap.size + 1 + 1, 0, none⟩ (.int .i64 s)).setCell ⟨W.heap.size + 1 + 1, 1, none⟩ (.int .u32 g)).setCell ⟨W.heap.size + 1 + 1 + 1, 0, none⟩ (.bool true)).drew.drew → KeepsFrom WL.heap.size W5 W7 ∧ Turned [W.heap.size + 1, W.heap.size + 1 + 1, W.heap.size + 1 + 1 + 1, WL.heap.size + 1] W5 W7 ∧ Below W.heap.size W W7 ∧ Out3 W7 W.heap.size (x.toNat : Int) s g true) := by
      rintro W7 rfl
      have T7 : Turned [W.heap.size + 1, W.heap.size + 1 + 1, W.heap.size + 1 + 1 + 1] W5 ((((W5.setCell ⟨W.heap.size + 1, 0, none⟩ (.int .u8 (x.toNat : Int))).setCell ⟨W.heap.size + 1 + 1, 0, none⟩ (.int .i64 s)).setCell ⟨W.heap.size + 1 + 1, 1, none⟩ (.int .u32 g)).setCell ⟨W.heap.size + 1 + 1 + 1, 0, none⟩ (.bool true)).drew.drew :=
        ((((((Turned.refl _ W5).setCell (.inl (by simp)) _ _).setCell (.inl (by simp)) _ _).setCell (.inl (by simp)) _ _).setCell (.inl (by simp)) _ _).drew).drew
      refine ⟨KeepsFrom.of_turned T7 (by intro k hk; simp at hk; omega), T7.wide (by intro k hk; simp at hk; simp; omega), T7.below hb5 (by intro k hk; simp at hk; omega) hb5.size, ?_, ?_, ?_⟩
      · have := (((ho5.b1.set 0 (.int .u8 (x.toNat : Int))).other (q := W.heap.size + 1 + 1) (by omega) 0 (.int .i64 s)).other (q := W.heap.size + 1 + 1) (by omega) 1 (.int .u32 g)).other (q := W.heap.size + 1 + 1 + 1) (by omega) 0 (.bool true)
        exact this.drew.drew
      · have := (((ho5.b2.other (q := W.heap.size + 1) (by omega) 0 (.int .u8 (x.toNat : Int))).set 0 (.int .i64 s)).set 1 (.int .u32 g)).other (q := W.heap.size + 1 + 1 + 1) (by omega) 0 (.bool true)
        exact this.drew.drew
      · have := (((ho5.b3.other (q := W.heap.size + 1) (by omega) 0 (.int .u8 (x.toNat : Int))).other (q := W.heap.size + 1 + 1) (by omega) 0 (.int .i64 s)).other (q := W.heap.size + 1 + 1) (by omega) 1 (.int .u32 g)).set 0 (.bool true)
        exact this.drew.drew
    have hmx : Try.prog.follows .mixedOrders = true := by kernel_rfl
    clear hr5 hf5 hp5 ho5 hb5 hpx hi hxk hlk hk' szL BL BY OL FL BW PL hlt s0' hkl hz
    gi_wp2
    refine region_inRound l' (by kernel_rfl) hmx ?_
    refine wpAnyIn_take (i := 0) (v := ?_) rfl rfl (by kernel_rfl) (by kernel_rfl) (by kernel_rfl) (fun _ _ _ h => h) ⟨Or.inl ⟨by rfl, ?_⟩, fun _ => rfl⟩ ?_; rotate_left 1; focus (intro w; go_simp; try with_reducible rfl)
    refine wpAnyIn_take (i := 5) (v := ?_) rfl rfl (by kernel_rfl) (by kernel_rfl) (by kernel_rfl) (fun _ _ _ h => h) ⟨Or.inl ⟨by rfl, ?_⟩, fun _ => rfl⟩ ?_; rotate_left 1; focus (intro w; go_simp; try with_reducible rfl)
    refine wpAnyIn_ready (rs := [1]) (by kernel_rfl) (by simp) ?_
    refine AllReadyIn.cons rfl (fun K hK => ?_) ?_
    · go_simp
      refine hK _ _ ?_
      clear hK K
      refine wpAnyIn_take (i := 2) (v := ?_) rfl rfl (by kernel_rfl) (by kernel_rfl) (by kernel_rfl) (fun _ _ _ h => h) ⟨Or.inl ⟨by rfl, ?_⟩, fun _ => rfl⟩ ?_; rotate_left 1; focus (intro w; go_simp; try with_reducible rfl)
      refine wpAnyIn_take (i := 3) (v := ?_) rfl rfl (by kernel_rfl) (by kernel_rfl) (by kernel_rfl) (fun _ _ _ h => h) ⟨Or.inl ⟨by rfl, ?_⟩, fun _ => rfl⟩ ?_; rotate_left 1; focus (intro w; go_simp; try with_reducible rfl)
      refine wpAnyIn_ready (rs := [4]) (by kernel_rfl) (by simp) ?_
      refine AllReadyIn.cons rfl (fun K hK => ?_) ?_
      · go_simp
        refine hK _ _ ?_
        clear hK K
        refine wpAnyIn_ready (rs := [6]) (by kernel_rfl) (by simp) ?_
        refine AllReadyIn.cons rfl (fun K hK => ?_) ?_
        · go_simp
          gi_wp2_with (refine ⟨trivial, ?_⟩; gi_at_call 35; refine (callsIn_wide.2 (HENT.out _ (by exact (Below.refl _ _).drew))).mono ?_; rintro e5 w6 ⟨rfl, rfl⟩)
          refine wpAnyIn_take (i := 7) (v := ?_) rfl rfl (by kernel_rfl) (by kernel_rfl) (by kernel_rfl) (fun _ _ _ h => h) ⟨Or.inl ⟨by rfl, ?_⟩, fun _ => rfl⟩ ?_; rotate_left 1; focus (intro w; go_simp; try with_reducible rfl)
          refine wpAnyIn_take (i := 8) (v := ?_) rfl rfl (by kernel_rfl) (by kernel_rfl) (by kernel_rfl) (fun _ _ _ h => h) ⟨Or.inl ⟨by rfl, ?_⟩, fun _ => rfl⟩ ?_; rotate_left 1; focus (intro w; go_simp; try with_reducible rfl)
          refine wpAnyIn_ready (rs := [9, 10]) (by kernel_rfl) (by simp) ?_
          refine AllReadyIn.cons rfl (fun K hK => ?_) ?_
          · go_simp
            refine hK _ _ ?_
            clear hK K
            refine wpAnyIn_ready (rs := [10]) (by kernel_rfl) (by simp) ?_
            refine AllReadyIn.cons rfl (fun K hK => ?_) ?_
            · go_simp
              refine hK _ _ ?_
              clear hK K
              refine wpAnyIn_ready (rs := [11]) (by kernel_rfl) (by simp) ?_
              refine AllReadyIn.cons rfl (fun K hK => ?_) ?_
              · go_simp
                refine hK _ _ ?_
                clear hK K
                refine wpAnyIn_ready (rs := [12]) (by kernel_rfl) (by simp) ?_
                refine AllReadyIn.cons rfl (fun K hK => ?_) ?_
                · go_simp
                  refine hK _ _ ?_
                  clear hK K
                  refine wpAnyIn_done (by kernel_rfl) ?_ _
                  have H7 := Lib.hid (HFIN.out _ rfl)
                  gi_wp2
                  exact ⟨H7.out.1, H7.out.2.1, rfl, H7.out.2.2.1, x, s, g, HNV.out, H7.out.2.2.2⟩
                exact AllReadyIn.nil
              exact AllReadyIn.nil
            exact AllReadyIn.nil
          refine AllReadyIn.cons rfl (fun K hK => ?_) ?_
          · go_simp
            refine hK _ _ ?_
            clear hK K
            refine wpAnyIn_ready (rs := [9]) (by kernel_rfl) (by simp) ?_
            refine AllReadyIn.cons rfl (fun K hK => ?_) ?_
            · go_simp
              refine hK _ _ ?_
              clear hK K
              refine wpAnyIn_ready (rs := [11]) (by kernel_rfl) (by simp) ?_
              refine AllReadyIn.cons rfl (fun K hK => ?_) ?_
              · go_simp
                refine hK _ _ ?_
                clear hK K
                refine wpAnyIn_ready (rs := [12]) (by kernel_rfl) (by simp) ?_
                refine AllReadyIn.cons rfl (fun K hK => ?_) ?_
                · go_simp
                  refine hK _ _ ?_
                  clear hK K
                  refine wpAnyIn_done (by kernel_rfl) ?_ _
                  have H7 := Lib.hid (HFIN.out _ rfl)
                  gi_wp2
                  exact ⟨H7.out.1, H7.out.2.1, rfl, H7.out.2.2.1, x, s, g, HNV.out, H7.out.2.2.2⟩
                exact AllReadyIn.nil
              exact AllReadyIn.nil
            exact AllReadyIn.nil
          exact AllReadyIn.nil
        exact AllReadyIn.nil
      exact AllReadyIn.nil
    exact AllReadyIn.nil
  case done =>
    rintro D xs W5 hD rfl ⟨hnil, hr5, hf5, hp5, ho5, hb5⟩ hK'
    have hge : l.length ≤ nextIx f l := by
      have := congrArg List.length hnil
      simp only [List.length_map, List.length_drop, List.length_nil] at this
      omega
    have HNV : Hid (nextV f l = .tuple #[.int .u8 0, refV 0 0, .bool false]) := by
      show _ = _
      rw [nextV, List.getElem?_eq_none hge]
    have o1 := (ho5.b1.cell 0).trans rfl
    have o2 := (ho5.b2.cell 0).trans rfl
    have o3 := (ho5.b2.cell 1).trans rfl
    have o4 := (ho5.b3.cell 0).trans rfl
    have t1 := ho5.b1.thawed 0
    have t2 := ho5.b2.thawed 0
    have t3 := ho5.b2.thawed 1
    have t4 := ho5.b3.thawed 0
    simp only [List.getElem?_toArray, List.getElem?_cons_zero, List.getElem?_cons_succ] at o1 o2 o3 o4
    have HH := Lib.hid (And.intro ho5 (And.intro hb5 hK'))
    have hD2 : W.heap.size + 4 ≤ D := by omega
    clear hr5 hf5 hp5 ho5 hb5 hK' hnil hge szL BL BY OL FL BW PL hlt s0' hD
    go_wp2_with fail
    obtain ⟨W7, hW7⟩ : ∃ W7, W7 = (((W5.setCell ⟨W.heap.size + 1, 0, none⟩ (.int .u8 0)).setCell ⟨W.heap.size + 1 + 1, 0, none⟩ (.int .i64 0)).setCell ⟨W.heap.size + 1 + 1, 1, none⟩ (.int .u32 0)).setCell ⟨W.heap.size + 1 + 1 + 1, 0, none⟩ (.bool false) := ⟨_, rfl⟩
    rw [← hW7]
    have O7 : Out3 W7 W.heap.size 0 0 0 false := by
      obtain ⟨x1, x2, x3⟩ := HH.out.1
      rw [hW7]
      refine ⟨?_, ?_, ?_⟩
      · exact (((x1.set 0 (.int .u8 0)).other (q := W.heap.size + 1 + 1) (by omega) 0 (.int .i64 0)).other (q := W.heap.size + 1 + 1) (by omega) 1 (.int .u32 0)).other (q := W.heap.size + 1 + 1 + 1) (by omega) 0 (.bool false)
      · exact (((x2.other (q := W.heap.size + 1) (by omega) 0 (.int .u8 0)).set 0 (.int .i64 0)).set 1 (.int .u32 0)).other (q := W.heap.size + 1 + 1 + 1) (by omega) 0 (.bool false)
      · exact (((x3.other (q := W.heap.size + 1) (by omega) 0 (.int .u8 0)).other (q := W.heap.size + 1 + 1) (by omega) 0 (.int .i64 0)).other (q := W.heap.size + 1 + 1) (by omega) 1 (.int .u32 0)).set 0 (.bool false)
    have B7 : Below W.heap.size W W7 := by
      rw [hW7]
      exact (((HH.out.2.1.setCell (p := ⟨W.heap.size + 1, 0, none⟩) (by show W.heap.size ≤ W.heap.size + 1; omega) _).setCell (p := ⟨W.heap.size + 1 + 1, 0, none⟩) (by show W.heap.size ≤ W.heap.size + 1 + 1; omega) _).setCell (p := ⟨W.heap.size + 1 + 1, 1, none⟩) (by show W.heap.size ≤ W.heap.size + 1 + 1; omega) _).setCell (p := ⟨W.heap.size + 1 + 1 + 1, 0, none⟩) (by show W.heap.size ≤ W.heap.size + 1 + 1 + 1; omega) _
    have D7 : W7.heap[D]? = some (.deferred (some [])) := by
      rw [hW7, Below.heap_setCell _ ⟨W.heap.size + 1 + 1 + 1, 0, none⟩ _ D (by show D ≠ W.heap.size + 1 + 1 + 1; omega), Below.heap_setCell _ ⟨W.heap.size + 1 + 1, 1, none⟩ _ D (by show D ≠ W.heap.size + 1 + 1; omega), Below.heap_setCell _ ⟨W.heap.size + 1 + 1, 0, none⟩ _ D (by show D ≠ W.heap.size + 1 + 1; omega), Below.heap_setCell _ ⟨W.heap.size + 1, 0, none⟩ _ D (by show D ≠ W.heap.size + 1; omega)]
      exact HH.out.2.2
    clear hW7
    have hg := grownBy_putObj' W7 D (.deferred none)
    have O8 := O7.kept hg (fun r e => by cases e; exact ⟨_, D7, rfl⟩)
    have u1 := (O8.b1.cell 0).trans rfl
    have u2 := (O8.b2.cell 0).trans rfl
    have u3 := (O8.b2.cell 1).trans rfl
    have u4 := (O8.b3.cell 0).trans rfl
    simp only [List.getElem?_toArray, List.getElem?_cons_zero, List.getElem?_cons_succ] at u1 u2 u3 u4
    exact calm_ret1 (v := .tuple #[.int .u8 0, refV 0 0, .bool false]) rfl D7 (by simp [results, Try.f16, go_sem, u1, u2, u3, u4]) ⟨by rw [HNV.out], B7.grown hg (by have := B7.size; exact this) (fun r e => by cases e; omega)⟩
  case stop =>
    rintro D c pre W5 hD _ ⟨rfl, hb5, c', s, g, hnv, ho5⟩ hK'
    have hD2 : W.heap.size ≤ D := by omega
    have hg := grownBy_putObj' W5 D (.deferred none)
    have O8 := ho5.kept hg (fun r e => by cases e; exact ⟨_, hK', rfl⟩)
    have u1 := (O8.b1.cell 0).trans rfl
    have u2 := (O8.b2.cell 0).trans rfl
    have u3 := (O8.b2.cell 1).trans rfl
    have u4 := (O8.b3.cell 0).trans rfl
    simp only [List.getElem?_toArray, List.getElem?_cons_zero, List.getElem?_cons_succ] at u1 u2 u3 u4
    have HK' := Lib.hid hK'
    have HB5 := Lib.hid (And.intro hb5 hnv)
    have HG := Lib.hid hg
    clear hb5 hnv ho5 hK' O8 hg szL BL BY OL FL BW PL hlt s0' hD
    refine wpIn_wide.2 ?_
    go_wp2
    exact calm_ret1 (v := .tuple #[.int .u8 (c'.toNat : Int), refV s g, .bool true]) rfl HK'.out (by simp [results, Try.f16, go_sem, u1, u2, u3, u4]) ⟨by rw [HB5.out.2], HB5.out.1.grown HG.out (by have := HB5.out.1.size; exact this) (fun r e => by cases e; omega)⟩
end Go.Proofs.Ytiifogbdoajnoaa
