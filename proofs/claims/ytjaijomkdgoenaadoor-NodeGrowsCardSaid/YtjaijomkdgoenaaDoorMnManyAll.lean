/- The iterator All of a table: it yields what was there when it began, whatever the rounds do. -/
import Derived.Test.YtjaijomkdgoenaaDoorMnMany3
namespace Go.Proofs.YtjaijomkdgoenaaDoor.Mn
open Go.RowKit Go.Shelf
attribute [local go_sem] Oper.semAt_some
set_option maxRecDepth 100000
set_option maxHeartbeats 4000000

/-- What a table yields at an entry. -/
def enV (x : En) : Array Value := #[.int .u8 (x.1.toNat : Int), refV x.2.1 x.2.2]
/-- What is yielded: the entries, in order. -/
def NextE (l : List En) (pre : List En) : Prop := ∃ k, ∃ h : k < l.length, pre = l.take k ++ [l[k]'h]
theorem allv_any (p : Nat) (w : World) : Calls Tryd.prog 97 #[.pointer (some ⟨p, 0, none⟩)] w fun e w' => e = .returned (.func (.func 102) #[] #[.pointer (some ⟨w.heap.size, 0, none⟩)]) ∧ w' = w.alloc (.cells #[.pointer (some ⟨p, 0, none⟩)] 72) := by
  have hmf := @makeFunc_run Tryd.prog
  go_enter Tryd.func97, Tryd.ntmps97
  go_wp2
  go_ret
  exact ⟨rfl, rfl⟩
theorem fromOf_all {es l : List En} (hm : ∀ x, x ∈ es ↔ x ∈ l) (hs : Srt l) : FromOf (l.map (·.1)) 0 es := by
  refine ⟨List.pairwise_map.2 hs, fun b => ?_⟩
  rw [List.mem_map]
  constructor
  · rintro ⟨x, hx, rfl⟩
    exact ⟨by omega, x, (hm x).2 hx, rfl⟩
  · rintro ⟨_, x, hx, rfl⟩
    exact ⟨x, (hm x).1 hx, rfl⟩
/-- What the rounds of All keep. -/
structure AllAt (W : World) (y l0 z q e : Nat) (es : List En) (room : Nat) (cs : Array Value) (v : Value) : Prop where
  yld : Fresh W y #[.func (.yield l0) #[] #[]] 129
  box : Fresh W z #[.pointer (some ⟨q, 0, none⟩)] 87
  row : RowM W q e es room cs v
theorem AllAt.below {W W' : World} {y l0 z q e : Nat} {es : List En} {room : Nat} {cs : Array Value} {v : Value} (h : AllAt W y l0 z q e es room cs v) (hb : Below W.heap.size W W') : AllAt W' y l0 z q e es room cs v := ⟨h.yld.below hb, h.box.below hb, h.row.below hb⟩
theorem AllAt.kept {W W' : World} {row : Option Nat} {y l0 z q e : Nat} {es : List En} {room : Nat} {cs : Array Value} {v : Value} (h : AllAt W y l0 z q e es room cs v) (hg : W.grownBy W' row) (hr : ∀ r, row = some r → ∃ o : Obj, W.heap[r]? = some o ∧ o.isCells = false) : AllAt W' y l0 z q e es room cs v := ⟨h.yld.kept hg hr, h.box.kept hg hr, h.row.kept hg hr⟩
theorem AllAt.kp {Kp : List Nat → World → World → Prop} (K : KLaw Kp) {S : List Nat} {W W' : World} {y l0 z q e : Nat} {es : List En} {room : Nat} {cs : Array Value} {v : Value} (h : AllAt W y l0 z q e es room cs v) (ht : Kp S W W') (h1 : y ∉ S) (h2 : z ∉ S) (h3 : q ∉ S) (h4 : e ∉ S) : AllAt W' y l0 z q e es room cs v :=
  ⟨K.other ht h.yld h1 (by decide), K.other ht h.box h2 (by decide), h.row.kp K ht h3 h4⟩
theorem roundIn_any {n m l : Nat} {P : Program} {f : FuncId} {tmps : Array Value} {asg bd : Code} {w : World} {R : Ending → World → Prop} (h : RoundIn Fence.wide n P l f tmps asg bd w R) : RoundIn Fence.wide m P l f tmps asg bd w R :=
  ⟨trivial, fun c cs _ => h.2 c cs (room_wide _)⟩
theorem all_own {Kp : List Nat → World → World → Prop} (K : KLaw Kp) (n : Nat) (hn : 4 ≤ n) (b : Nat) (S : List Nat) (l : List En) (room : Nat) (w : World) (p q e : Nat) (hA : ManyAt w p q e l room)
    (hb : w.cell? ⟨b, 0, none⟩ = some (.pointer (some ⟨p, 0, none⟩))) (hS : ∀ k ∈ S, k < w.heap.size + 2) :
    SeqOwn Fence.wide n Tryd.prog 102 #[.pointer (some ⟨b, 0, none⟩)] enV (Kp S) (fun ys => ys = l)
      (fun pre => ∃ k, k < l.length ∧ pre = l.take (k + 1)) (NextE l) w := by
  intro l0 J Jx W hW hsz hJ hJx hY h0
  have hAW := hA.below hW
  have hbW : W.cell? ⟨b, 0, none⟩ = some (.pointer (some ⟨p, 0, none⟩)) := (hW.cell (p := ⟨b, 0, none⟩) (cell_lt hb)).trans hb
  have hSW : ∀ k ∈ S, k < W.heap.size := fun k hk => by have := hS k hk; omega
  clear hW hA hb hS hsz
  refine callsIn_of_wp_marks Tryd.func102 rfl trivial ?_ rfl
  simp only [Tryd.ntmps102, List.size_toArray, List.length_cons, List.length_nil, Nat.reduceAdd, Nat.reduceSub, Array.replicate_succ, Array.replicate_zero, List.push_toArray, List.append_toArray, List.nil_append, List.cons_append]
  obtain ⟨W1, hW1⟩ : ∃ W1, W1 = W.alloc (.cells #[.func (.yield l0) #[] #[]] 129) := ⟨_, rfl⟩
  have B1 : Below W.heap.size W W1 := by rw [hW1]; exact Below.new (Below.refl _ _) _
  have A1 := hAW.below B1
  have b1 : W1.cell? ⟨b, 0, none⟩ = some (.pointer (some ⟨p, 0, none⟩)) := (B1.cell (p := ⟨b, 0, none⟩) (cell_lt hbW)).trans hbW
  have f1 : Fresh W1 W.heap.size #[.func (.yield l0) #[] #[]] 129 := by rw [hW1]; exact Fresh.new _ _ _ _ rfl
  have s1 : W1.heap.size = W.heap.size + 1 := by rw [hW1]; simp
  have j1 : J [] W1 := by rw [hW1]; exact hJ.alloc _ h0
  have p1 := A1.cell
  obtain ⟨es, cs0, v0, hr, hm, hl⟩ := A1.row
  have HI := Lib.hid (isNil_any A1)
  have HC := Lib.hid (copied_any hr)
  have HM := Lib.hid (And.intro hm (And.intro hl A1.srt))
  have HB1 := Lib.hid B1
  have HF1 := Lib.hid f1
  have HJ1 := Lib.hid j1
  have HJ := Lib.hid hJ
  have HJx := Lib.hid hJx
  have HY := Lib.hid hY
  have HSW := Lib.hid hSW
  have HW1 := Lib.hid hW1
  have HS1 := Lib.hid s1
  have HK := Lib.hid K
  have hmf := @makeFunc_run Tryd.prog
  clear hAW B1 f1 j1 hJ hJx hY hSW hW1 s1 h0 A1 hr hm hl K
  refine wpIn_wide.2 ?_
  refine wp_mono (Q := calmQ _) ?_ calmQ_out
  go_upto_region 1 with fail
  rw [← HW1.out]
  go_upto_region 3 with (first
    | (go_at_call 103; refine HI.out.mono ?_; rintro e' w2 ⟨rfl, hw2⟩; replace hw2 := hw2.symm; subst hw2)
    | (go_at_call 104; refine HC.out.mono ?_; rintro e' w2 ⟨q2, e2, cs, v, rfl, hq2, he2, hb2, hr2⟩))
  obtain ⟨W3, hW3⟩ : ∃ W3, W3 = w2.alloc (.cells #[.pointer (some ⟨q2, 0, none⟩)] 87) := ⟨_, rfl⟩
  rw [← hW3]
  have B3 : Below w2.heap.size w2 W3 := by rw [hW3]; exact Below.new (Below.refl _ _) _
  have A3 : AllAt W3 W.heap.size l0 w2.heap.size q2 e2 es room cs v := by
    refine ⟨HF1.out.below (Below.step hb2 B3), ?_, hr2.below B3⟩
    rw [hW3]; exact Fresh.new _ _ _ _ rfl
  have s3 : w2.heap.size < W3.heap.size := A3.box.lt
  have j3 : J [] W3 := by
    refine HJ.out [] W1 W3 none HJ1.out ?_ (fun r e => by cases e)
    have hb := Below.step hb2 B3
    exact ⟨hb.os, hb.tape, hb.output, hb.size, fun k hk _ => hb.block k hk⟩
  have z3 := (A3.box.cell 0).trans rfl
  simp only [List.getElem?_toArray, List.getElem?_cons_zero] at z3
  have H3 := Lib.hid (And.intro A3 (And.intro j3 (And.intro hq2 (And.intro he2 (And.intro s3 (And.intro hb2.size (And.intro A3.row.lt A3.row.box.lt)))))))
  clear hW3 B3 A3 j3 hq2 he2 hb2 hr2 s3
  go_wp2_with (go_at_call 105; refine (bytes_any 0 q2 _).mono ?_; rintro e' WL ⟨rfl, hWL⟩; have HWL := Lib.hid hWL; clear hWL)
  have z1 := HS1.out
  have zz := H3.out.2.2
  have szL : WL.heap.size = W3.heap.size + 2 := by rw [HWL.out]; simp
  have BL : Below W3.heap.size W3 WL := by rw [HWL.out]; exact Below.new (Below.new (Below.refl _ _) _) _
  have AL := H3.out.1.below BL
  have BY : ByAt WL W3.heap.size (W3.heap.size + 1) q2 e2 0 es room cs v := by
    refine ⟨AL.row, ?_, ?_⟩
    · rw [HWL.out]; exact (Fresh.new _ _ _ _ rfl).alloc _
    · rw [HWL.out]; exact Fresh.new _ _ _ _ (by simp)
  obtain ⟨S', hS'⟩ : ∃ S', S' = (WL.heap.size + 1) :: S := ⟨_, rfl⟩
  have nS : ∀ k, W.heap.size ≤ k → k ≠ WL.heap.size + 1 → k ∉ S' := fun k h1 h2 h3 => by
    rw [hS'] at h3
    rcases List.mem_cons.1 h3 with h3 | h3
    · exact h2 h3
    · have := HSW.out k h3; omega
  have jL : J [] WL := by
    refine HJ.out [] W3 WL none H3.out.2.1 ?_ (fun r e => by cases e)
    exact ⟨BL.os, BL.tape, BL.output, BL.size, fun k hk _ => BL.block k hk⟩
  have HNS := Lib.hid nS
  have KK := HK.out
  refine (wpIn_wide (n := n)).1 ?_
  generalize hA0 : ({ tmps := _, defers := _ } : Act) = A0
  refine range_box rfl (by omega) (gf := 111) (lb := #[.pointer (some ⟨W3.heap.size, 0, none⟩), .pointer (some ⟨W3.heap.size + 1, 0, none⟩)]) (by rw [← hA0]; rfl) trivial (enters_of Tryd.func111 (by kernel_rfl) rfl)
    (bytes_own (n - 1) (by omega) W3.heap.size (W3.heap.size + 1) q2 e2 0 es room cs v (l.map (·.1)) (fromOf_all HM.out.1 HM.out.2.2) (Kp S') WL BY
      (fun A B hk hB => hB.kp KK hk ⟨nS _ (by omega) (by omega), nS _ (by omega) (by omega), nS _ (by omega) (by omega), nS _ (by omega) (by omega)⟩))
    (fun h k => KK.trans h k) (fun Wc o _ => KK.put (by rw [hS']; exact List.mem_cons_self ..) o) (Below.refl _ _) (fun _ => rfl)
    (fun pre Wc => ∃ k, k ≤ l.length ∧ pre = (l.map (·.1)).take k ∧ J (l.take k) Wc ∧ AllAt Wc W.heap.size l0 w2.heap.size q2 e2 es room cs v)
    (fun c pre Wc => c = .ret ∧ ∃ k, k < l.length ∧ Jx (l.take (k + 1)) Wc)
    (fun pre X Y row ⟨k, h1, h2, h3, h4⟩ hg hr => ⟨k, h1, h2, HJ.out _ X Y row h3 hg (fun r e => ⟨by have := (hr r e).1; omega, (hr r e).2⟩), h4.kept hg (fun r e => (hr r e).2)⟩)
    (fun c pre X Y row ⟨h1, k, h2, h3⟩ hg hr => ⟨h1, k, h2, HJx.out _ X Y row h3 hg (fun r e => ⟨by have := (hr r e).1; omega, (hr r e).2⟩)⟩)
    ⟨0, by omega, rfl, jL, AL⟩
    (fun x a' _ => a' = { tmps := (A0.tmps.setIfInBounds 15 (.int .u8 (x.toNat : Int))).setIfInBounds 4 (.int .u8 (x.toNat : Int)), defers := [] })
    (fun x a' _ X Y row h1 hg hr => h1)
    ?assignment ?round ?done ?stop
  all_goals subst hA0
  case assignment =>
    rintro l' pre x Wc K' hG hI hK'
    have HK' := hK' _ Wc ((KeepsOthers.refl _).from _) (KK.refl _ Wc) hI rfl
    clear hK' hI hG szL z1 zz
    simp only [List.setIfInBounds_toArray, List.set_cons_succ, List.set_cons_zero] at HK'
    replace HK' := Lib.hid HK'
    unfold byV
    gi_wp2
    exact HK'.out
  case round =>
    rintro l' pre x a' W5 hG ⟨k, hk, hpre, hj, hA5⟩ rfl hz
    simp only [List.setIfInBounds_toArray, List.set_cons_succ, List.set_cons_zero]
    obtain ⟨k', hk', hpx⟩ := hG
    have hkl : k < l.length ∧ ∀ h : k < l.length, x = (l[k]'h).1 := by
      obtain ⟨h1, h2⟩ := List.append_inj' hpx rfl
      have hlen : k' = k := by
        have := congrArg List.length (hpre.symm.trans h1)
        simp only [List.length_take, List.length_map] at this hk'
        omega
      subst hlen
      simp only [List.length_map] at hk'
      exact ⟨hk', fun _ => by simpa using h2⟩
    obtain ⟨hkl, hxk⟩ := hkl
    have hxk := hxk hkl
    have jd : J (l.take k) W5.drew.drew := HJ.out _ W5 W5.drew.drew none hj ⟨rfl, rfl, rfl, Nat.le_refl _, fun _ _ _ => rfl⟩ (fun r e => by cases e)
    obtain ⟨fn, tmps, assign, body, hy, hR⟩ := HY.out (l.take k) l[k] W5.drew.drew ⟨k, hkl, rfl⟩ jd
    obtain ⟨⟨c, s, g⟩, hlk⟩ : ∃ y, l[k] = y := ⟨_, rfl⟩
    obtain ⟨i, hi⟩ := List.mem_iff_getElem?.1 ((HM.out.1 _).2 (List.getElem_mem hkl))
    rw [hlk] at hi
    obtain rfl : x = c := by rw [hxk, hlk]
    have hx2 : l.take k ++ [l[k]] = l.take (k + 1) := (List.take_succ_eq_append_getElem hkl).symm
    rw [hx2] at hR
    rw [hlk] at hy
    unfold enV at hy
    dsimp only at hy
    have HENT := Lib.hid (fun W' (hb : Below W5.heap.size W5 W') => entry_any (hA5.row.below hb) x hi)
    obtain ⟨-, a1, a2, -⟩ := hA5.row.at hi
    dsimp only at a1 a2
    have d0 := (hA5.yld.cell 0).trans rfl
    have d1 := (hA5.box.cell 0).trans rfl
    simp only [List.getElem?_toArray, List.getElem?_cons_zero] at d0 d1
    have HR := Lib.hid hR
    have HA5 := Lib.hid hA5
    have HKL := Lib.hid (And.intro hkl hpre)
    have HPX : Hid (pre ++ [x] = (l.map (·.1)).take (k + 1)) := by
      show _ = _
      rw [hpre, List.take_succ_eq_append_getElem (by simp; exact hkl), List.getElem_map, hlk]
    have HFIN : Hid (∀ W7, Kp S W5.drew.drew W7 → KeepsFrom WL.heap.size W5 W7 ∧ Kp S' W5 W7 ∧ AllAt W7 W.heap.size l0 w2.heap.size q2 e2 es room cs v) := by
      intro W7 hT
      have h1 : Kp S W5 W7 := KK.trans (KK.turned ((Turned.refl _ _).drew.drew)) hT
      have nSS : ∀ k, W.heap.size ≤ k → k ∉ S := fun k h1 h3 => by have := HSW.out k h3; omega
      exact ⟨KK.keeps h1 (fun k h3 => by have := HSW.out k h3; omega), KK.wide h1 (fun k hk => by rw [hS']; exact List.mem_cons_of_mem _ hk), HA5.out.kp KK h1 (nSS _ (by omega)) (nSS _ (by omega)) (nSS _ (by omega)) (nSS _ (by omega))⟩
    have hmx : Tryd.prog.follows .mixedOrders = true := by kernel_rfl
    clear hR hpx hpre hj jd hA5 hi hxk hlk hx2 hk' hk szL BL AL BY nS jL zz z1 hkl
    gi_wp2
    refine region_inRound l' (by kernel_rfl) hmx ?_
    refine wpAnyIn_take (i := 1) (v := ?_) rfl rfl (by kernel_rfl) (by kernel_rfl) (by kernel_rfl) (fun _ _ _ h => h) ⟨Or.inl ⟨by rfl, ?_⟩, fun _ => rfl⟩ ?_; rotate_left 1; focus (intro w; go_simp; try with_reducible rfl)
    refine wpAnyIn_take (i := 3) (v := ?_) rfl rfl (by kernel_rfl) (by kernel_rfl) (by kernel_rfl) (fun _ _ _ h => h) ⟨Or.inl ⟨by rfl, ?_⟩, fun _ => rfl⟩ ?_; rotate_left 1; focus (intro w; go_simp; try with_reducible rfl)
    refine wpAnyIn_ready (rs := [0, 2]) (by kernel_rfl) (by simp) ?_
    refine AllReadyIn.cons rfl (fun K hK => ?_) ?_
    · go_simp
      refine hK _ _ ?_
      clear hK K
      refine wpAnyIn_ready (rs := [2]) (by kernel_rfl) (by simp) ?_
      refine AllReadyIn.cons rfl (fun K hK => ?_) ?_
      · go_simp
        refine hK _ _ ?_
        clear hK K
        refine wpAnyIn_ready (rs := [4]) (by kernel_rfl) (by simp) ?_
        refine AllReadyIn.cons rfl (fun K hK => ?_) ?_
        · go_simp
          gi_wp2_with (first | (refine ⟨trivial, ?_⟩; gi_at_call 107; refine (callsIn_wide.2 (HENT.out _ (by exact (Below.refl _ _).drew))).mono ?_; rintro e5 w6 ⟨rfl, rfl⟩) | (refine ⟨trivial, fun _ => by omega, ?_⟩; gi_at_call 107; refine (callsIn_wide.2 (HENT.out _ (by exact (Below.refl _ _).drew))).mono ?_; rintro e5 w6 ⟨rfl, rfl⟩))
          refine wpAnyIn_take (i := 5) (v := ?_) rfl rfl (by kernel_rfl) (by kernel_rfl) (by kernel_rfl) (fun _ _ _ h => h) ⟨Or.inl ⟨by rfl, ?_⟩, fun _ => rfl⟩ ?_; rotate_left 1; focus (intro w; go_simp; try with_reducible rfl)
          refine wpAnyIn_take (i := 6) (v := ?_) rfl rfl (by kernel_rfl) (by kernel_rfl) (by kernel_rfl) (fun _ _ _ h => h) ⟨Or.inl ⟨by rfl, ?_⟩, fun _ => rfl⟩ ?_; rotate_left 1; focus (intro w; go_simp; try with_reducible rfl)
          refine wpAnyIn_ready (rs := [7]) (by kernel_rfl) (by simp) ?_
          refine AllReadyIn.cons rfl (fun K hK => ?_) ?_
          · go_simp
            refine hK _ _ ?_
            clear hK K
            refine wpAnyIn_ready (rs := [8]) (by kernel_rfl) (by simp) ?_
            refine AllReadyIn.cons rfl (fun K hK => ?_) ?_
            · go_simp
              refine ⟨fun _ => by omega, (roundIn_any HR.out).mono ?_⟩
              rintro e6 W7 ⟨hT7, ⟨rfl, hJ7⟩ | ⟨rfl, hJ7⟩⟩
              · have H7 := Lib.hid (HFIN.out W7 hT7)
                have HJ7 := Lib.hid hJ7
                clear hT7 hJ7
                gi_wp2
                refine wpAnyIn_take (i := 9) (v := ?_) rfl rfl (by kernel_rfl) (by kernel_rfl) (by kernel_rfl) (fun _ _ _ h => h) ⟨Or.inl ⟨by rfl, ?_⟩, fun _ => rfl⟩ ?_; rotate_left 1; focus (intro w; go_simp; try with_reducible rfl)
                refine wpAnyIn_done (by kernel_rfl) ?_ _
                gi_wp2
                first
                  | exact ⟨H7.out.1, H7.out.2.1, k + 1, HKL.out.1, HPX.out, HJ7.out, H7.out.2.2⟩
                  | exact ⟨H7.out.1, H7.out.2.1, rfl, k, HKL.out.1, HJ7.out⟩
              · have H7 := Lib.hid (HFIN.out W7 hT7)
                have HJ7 := Lib.hid hJ7
                clear hT7 hJ7
                gi_wp2
                refine wpAnyIn_take (i := 9) (v := ?_) rfl rfl (by kernel_rfl) (by kernel_rfl) (by kernel_rfl) (fun _ _ _ h => h) ⟨Or.inl ⟨by rfl, ?_⟩, fun _ => rfl⟩ ?_; rotate_left 1; focus (intro w; go_simp; try with_reducible rfl)
                refine wpAnyIn_done (by kernel_rfl) ?_ _
                gi_wp2
                first
                  | exact ⟨H7.out.1, H7.out.2.1, k + 1, HKL.out.1, HPX.out, HJ7.out, H7.out.2.2⟩
                  | exact ⟨H7.out.1, H7.out.2.1, rfl, k, HKL.out.1, HJ7.out⟩
            exact AllReadyIn.nil
          exact AllReadyIn.nil
        exact AllReadyIn.nil
      exact AllReadyIn.nil
    refine AllReadyIn.cons rfl (fun K hK => ?_) ?_
    · go_simp
      refine hK _ _ ?_
      clear hK K
      refine wpAnyIn_ready (rs := [0, 4]) (by kernel_rfl) (by simp) ?_
      refine AllReadyIn.cons rfl (fun K hK => ?_) ?_
      · go_simp
        refine hK _ _ ?_
        clear hK K
        refine wpAnyIn_ready (rs := [4]) (by kernel_rfl) (by simp) ?_
        refine AllReadyIn.cons rfl (fun K hK => ?_) ?_
        · go_simp
          gi_wp2_with (first | (refine ⟨trivial, ?_⟩; gi_at_call 107; refine (callsIn_wide.2 (HENT.out _ (by exact (Below.refl _ _).drew))).mono ?_; rintro e5 w6 ⟨rfl, rfl⟩) | (refine ⟨trivial, fun _ => by omega, ?_⟩; gi_at_call 107; refine (callsIn_wide.2 (HENT.out _ (by exact (Below.refl _ _).drew))).mono ?_; rintro e5 w6 ⟨rfl, rfl⟩))
          refine wpAnyIn_take (i := 5) (v := ?_) rfl rfl (by kernel_rfl) (by kernel_rfl) (by kernel_rfl) (fun _ _ _ h => h) ⟨Or.inl ⟨by rfl, ?_⟩, fun _ => rfl⟩ ?_; rotate_left 1; focus (intro w; go_simp; try with_reducible rfl)
          refine wpAnyIn_take (i := 6) (v := ?_) rfl rfl (by kernel_rfl) (by kernel_rfl) (by kernel_rfl) (fun _ _ _ h => h) ⟨Or.inl ⟨by rfl, ?_⟩, fun _ => rfl⟩ ?_; rotate_left 1; focus (intro w; go_simp; try with_reducible rfl)
          refine wpAnyIn_ready (rs := [7]) (by kernel_rfl) (by simp) ?_
          refine AllReadyIn.cons rfl (fun K hK => ?_) ?_
          · go_simp
            refine hK _ _ ?_
            clear hK K
            refine wpAnyIn_ready (rs := [8]) (by kernel_rfl) (by simp) ?_
            refine AllReadyIn.cons rfl (fun K hK => ?_) ?_
            · go_simp
              refine ⟨fun _ => by omega, (roundIn_any HR.out).mono ?_⟩
              rintro e6 W7 ⟨hT7, ⟨rfl, hJ7⟩ | ⟨rfl, hJ7⟩⟩
              · have H7 := Lib.hid (HFIN.out W7 hT7)
                have HJ7 := Lib.hid hJ7
                clear hT7 hJ7
                gi_wp2
                refine wpAnyIn_take (i := 9) (v := ?_) rfl rfl (by kernel_rfl) (by kernel_rfl) (by kernel_rfl) (fun _ _ _ h => h) ⟨Or.inl ⟨by rfl, ?_⟩, fun _ => rfl⟩ ?_; rotate_left 1; focus (intro w; go_simp; try with_reducible rfl)
                refine wpAnyIn_done (by kernel_rfl) ?_ _
                gi_wp2
                first
                  | exact ⟨H7.out.1, H7.out.2.1, k + 1, HKL.out.1, HPX.out, HJ7.out, H7.out.2.2⟩
                  | exact ⟨H7.out.1, H7.out.2.1, rfl, k, HKL.out.1, HJ7.out⟩
              · have H7 := Lib.hid (HFIN.out W7 hT7)
                have HJ7 := Lib.hid hJ7
                clear hT7 hJ7
                gi_wp2
                refine wpAnyIn_take (i := 9) (v := ?_) rfl rfl (by kernel_rfl) (by kernel_rfl) (by kernel_rfl) (fun _ _ _ h => h) ⟨Or.inl ⟨by rfl, ?_⟩, fun _ => rfl⟩ ?_; rotate_left 1; focus (intro w; go_simp; try with_reducible rfl)
                refine wpAnyIn_done (by kernel_rfl) ?_ _
                gi_wp2
                first
                  | exact ⟨H7.out.1, H7.out.2.1, k + 1, HKL.out.1, HPX.out, HJ7.out, H7.out.2.2⟩
                  | exact ⟨H7.out.1, H7.out.2.1, rfl, k, HKL.out.1, HJ7.out⟩
            exact AllReadyIn.nil
          exact AllReadyIn.nil
        exact AllReadyIn.nil
      refine AllReadyIn.cons rfl (fun K hK => ?_) ?_
      · go_simp
        gi_wp2_with (first | (refine ⟨trivial, ?_⟩; gi_at_call 107; refine (callsIn_wide.2 (HENT.out _ (by exact (Below.refl _ _).drew))).mono ?_; rintro e5 w6 ⟨rfl, rfl⟩) | (refine ⟨trivial, fun _ => by omega, ?_⟩; gi_at_call 107; refine (callsIn_wide.2 (HENT.out _ (by exact (Below.refl _ _).drew))).mono ?_; rintro e5 w6 ⟨rfl, rfl⟩))
        refine wpAnyIn_take (i := 5) (v := ?_) rfl rfl (by kernel_rfl) (by kernel_rfl) (by kernel_rfl) (fun _ _ _ h => h) ⟨Or.inl ⟨by rfl, ?_⟩, fun _ => rfl⟩ ?_; rotate_left 1; focus (intro w; go_simp; try with_reducible rfl)
        refine wpAnyIn_take (i := 6) (v := ?_) rfl rfl (by kernel_rfl) (by kernel_rfl) (by kernel_rfl) (fun _ _ _ h => h) ⟨Or.inl ⟨by rfl, ?_⟩, fun _ => rfl⟩ ?_; rotate_left 1; focus (intro w; go_simp; try with_reducible rfl)
        refine wpAnyIn_ready (rs := [0, 7]) (by kernel_rfl) (by simp) ?_
        refine AllReadyIn.cons rfl (fun K hK => ?_) ?_
        · go_simp
          refine hK _ _ ?_
          clear hK K
          refine wpAnyIn_ready (rs := [7]) (by kernel_rfl) (by simp) ?_
          refine AllReadyIn.cons rfl (fun K hK => ?_) ?_
          · go_simp
            refine hK _ _ ?_
            clear hK K
            refine wpAnyIn_ready (rs := [8]) (by kernel_rfl) (by simp) ?_
            refine AllReadyIn.cons rfl (fun K hK => ?_) ?_
            · go_simp
              refine ⟨fun _ => by omega, (roundIn_any HR.out).mono ?_⟩
              rintro e6 W7 ⟨hT7, ⟨rfl, hJ7⟩ | ⟨rfl, hJ7⟩⟩
              · have H7 := Lib.hid (HFIN.out W7 hT7)
                have HJ7 := Lib.hid hJ7
                clear hT7 hJ7
                gi_wp2
                refine wpAnyIn_take (i := 9) (v := ?_) rfl rfl (by kernel_rfl) (by kernel_rfl) (by kernel_rfl) (fun _ _ _ h => h) ⟨Or.inl ⟨by rfl, ?_⟩, fun _ => rfl⟩ ?_; rotate_left 1; focus (intro w; go_simp; try with_reducible rfl)
                refine wpAnyIn_done (by kernel_rfl) ?_ _
                gi_wp2
                first
                  | exact ⟨H7.out.1, H7.out.2.1, k + 1, HKL.out.1, HPX.out, HJ7.out, H7.out.2.2⟩
                  | exact ⟨H7.out.1, H7.out.2.1, rfl, k, HKL.out.1, HJ7.out⟩
              · have H7 := Lib.hid (HFIN.out W7 hT7)
                have HJ7 := Lib.hid hJ7
                clear hT7 hJ7
                gi_wp2
                refine wpAnyIn_take (i := 9) (v := ?_) rfl rfl (by kernel_rfl) (by kernel_rfl) (by kernel_rfl) (fun _ _ _ h => h) ⟨Or.inl ⟨by rfl, ?_⟩, fun _ => rfl⟩ ?_; rotate_left 1; focus (intro w; go_simp; try with_reducible rfl)
                refine wpAnyIn_done (by kernel_rfl) ?_ _
                gi_wp2
                first
                  | exact ⟨H7.out.1, H7.out.2.1, k + 1, HKL.out.1, HPX.out, HJ7.out, H7.out.2.2⟩
                  | exact ⟨H7.out.1, H7.out.2.1, rfl, k, HKL.out.1, HJ7.out⟩
            exact AllReadyIn.nil
          exact AllReadyIn.nil
        refine AllReadyIn.cons rfl (fun K hK => ?_) ?_
        · go_simp
          refine hK _ _ ?_
          clear hK K
          refine wpAnyIn_ready (rs := [0]) (by kernel_rfl) (by simp) ?_
          refine AllReadyIn.cons rfl (fun K hK => ?_) ?_
          · go_simp
            refine hK _ _ ?_
            clear hK K
            refine wpAnyIn_ready (rs := [8]) (by kernel_rfl) (by simp) ?_
            refine AllReadyIn.cons rfl (fun K hK => ?_) ?_
            · go_simp
              refine ⟨fun _ => by omega, (roundIn_any HR.out).mono ?_⟩
              rintro e6 W7 ⟨hT7, ⟨rfl, hJ7⟩ | ⟨rfl, hJ7⟩⟩
              · have H7 := Lib.hid (HFIN.out W7 hT7)
                have HJ7 := Lib.hid hJ7
                clear hT7 hJ7
                gi_wp2
                refine wpAnyIn_take (i := 9) (v := ?_) rfl rfl (by kernel_rfl) (by kernel_rfl) (by kernel_rfl) (fun _ _ _ h => h) ⟨Or.inl ⟨by rfl, ?_⟩, fun _ => rfl⟩ ?_; rotate_left 1; focus (intro w; go_simp; try with_reducible rfl)
                refine wpAnyIn_done (by kernel_rfl) ?_ _
                gi_wp2
                first
                  | exact ⟨H7.out.1, H7.out.2.1, k + 1, HKL.out.1, HPX.out, HJ7.out, H7.out.2.2⟩
                  | exact ⟨H7.out.1, H7.out.2.1, rfl, k, HKL.out.1, HJ7.out⟩
              · have H7 := Lib.hid (HFIN.out W7 hT7)
                have HJ7 := Lib.hid hJ7
                clear hT7 hJ7
                gi_wp2
                refine wpAnyIn_take (i := 9) (v := ?_) rfl rfl (by kernel_rfl) (by kernel_rfl) (by kernel_rfl) (fun _ _ _ h => h) ⟨Or.inl ⟨by rfl, ?_⟩, fun _ => rfl⟩ ?_; rotate_left 1; focus (intro w; go_simp; try with_reducible rfl)
                refine wpAnyIn_done (by kernel_rfl) ?_ _
                gi_wp2
                first
                  | exact ⟨H7.out.1, H7.out.2.1, k + 1, HKL.out.1, HPX.out, HJ7.out, H7.out.2.2⟩
                  | exact ⟨H7.out.1, H7.out.2.1, rfl, k, HKL.out.1, HJ7.out⟩
            exact AllReadyIn.nil
          exact AllReadyIn.nil
        exact AllReadyIn.nil
      exact AllReadyIn.nil
    exact AllReadyIn.nil
  case done =>
    rintro D xs W5 hD rfl ⟨k, hk, hpre, hj, _⟩ hK'
    have hkl : k = l.length := by
      have := congrArg List.length hpre
      simp only [List.length_take, List.length_map] at this
      omega
    subst hkl
    rw [List.take_length] at hj
    have HK' := Lib.hid hK'
    have H1 := Lib.hid hj
    have hD2 := hD
    have hlt : W.heap.size ≤ D := by omega
    clear hK' hj hpre hk szL BL AL BY nS jL zz z1
    go_wp2
    exact calm_end1 rfl HK'.out (results_none rfl _ _ _) ⟨⟨_, rfl⟩, .inl ⟨l, rfl, HJ.out.putObj _ H1.out hlt HK'.out rfl⟩⟩
  case stop =>
    rintro D c pre W5 hD hS2 ⟨rfl, k, hk, hj⟩ hK'
    have HK' := Lib.hid hK'
    have H1 := Lib.hid hj
    have hlt : W.heap.size ≤ D := by omega
    clear hK' hj szL BL AL BY nS jL zz z1
    refine wpIn_wide.2 ?_
    go_wp2
    exact calm_ret1 rfl HK'.out (results_none rfl _ _ _) ⟨⟨_, rfl⟩, .inr ⟨_, ⟨k, hk, rfl⟩, HJx.out.putObj _ H1.out hlt HK'.out rfl⟩⟩
end Go.Proofs.YtjaijomkdgoenaaDoor.Mn
