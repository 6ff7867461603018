/- The iterator All of a book: it yields what was there when it began, whatever the rounds do. -/
import Derived.Test.YtfffifmpfkkgbaaKLawB
import Derived.Test.YtfffifmpfkkgbaaMix
import Derived.Deep.DeepCutAuto
import Derived.Deep.RegionLaw
namespace Go.Proofs.Ytfffifmpfkkgbaa
open Go.RowKit Go.Shelf
attribute [local go_sem] Oper.semAt_some
set_option maxRecDepth 100000
set_option maxHeartbeats 4000000

/-- What a book yields at a pair. -/
def prV (x : Pr) : Array Value := #[.string x.1, .string x.2]
/-- What is yielded: the pairs, in order. -/
def NextP (l : List Pr) (pre : List Pr) : Prop := ∃ k, ∃ h : k < l.length, pre = l.take k ++ [l[k]'h]
theorem allv_any (p : Nat) (w : World) : Calls Try.prog 35 #[.pointer (some ⟨p, 0, none⟩)] w fun e w' => e = .returned (.func (.func 55) #[] #[.pointer (some ⟨w.heap.size, 0, none⟩)]) ∧ w' = w.alloc (.cells #[.pointer (some ⟨p, 0, none⟩)] 24) := by
  have hmf := @makeFunc_run Try.prog
  go_enter Try.func35, Try.ntmps35
  go_wp2
  go_ret
  exact ⟨rfl, rfl⟩
/-- What the rounds of All keep. -/
structure AllAt (W : World) (y l0 z q e m : Nat) (l : List Pr) (v : Value) : Prop where
  yld : Fresh W y #[.func (.yield l0) #[] #[]] 54
  box : Fresh W z #[.pointer (some ⟨q, 0, none⟩)] 58
  st : StAt W q e m l v
theorem AllAt.below {W W' : World} {y l0 z q e m : Nat} {l : List Pr} {v : Value} (h : AllAt W y l0 z q e m l v) (hb : Below W.heap.size W W') : AllAt W' y l0 z q e m l v := ⟨h.yld.below hb, h.box.below hb, h.st.below hb⟩
theorem StAt.kept {W W' : World} {row : Option Nat} {q e m : Nat} {l : List Pr} {v : Value} (h : StAt W q e m l v) (hg : W.grownBy W' row) (hr : ∀ r, row = some r → ∃ o : Obj, W.heap[r]? = some o ∧ o.isCells = false) (hm : row ≠ some m) : StAt W' q e m l v := by
  refine h.same ((h.key.box.kept hg hr).trans h.key.box.symm) ?_ (hg.block m h.lt.2.2 (fun e => hm e.symm))
  rcases h.key.ety with e1 | ⟨cur, e1⟩
  · rw [e1]; exact (h.key.box.kept hg hr).trans h.key.box.symm
  · exact (Fresh.kept e1 hg hr).trans e1.symm
theorem AllAt.kp {Kp : List Nat → World → World → Prop} (K : KLaw Kp) {S : List Nat} {W W' : World} {y l0 z q e m : Nat} {l : List Pr} {v : Value} (h : AllAt W y l0 z q e m l v) (ht : Kp S W W') (h1 : y ∉ S) (h2 : z ∉ S) (h3 : q ∉ S) (h4 : e ∉ S) (h5 : m ∉ S) : AllAt W' y l0 z q e m l v :=
  ⟨K.other ht h.yld h1 (by decide), K.other ht h.box h2 (by decide), h.st.kp K ht h3 h4 h5⟩
theorem roundIn_any {n m l : Nat} {P : Program} {f : FuncId} {tmps : Array Value} {asg bd : Code} {w : World} {R : Ending → World → Prop} (h : RoundIn Fence.wide n P l f tmps asg bd w R) : RoundIn Fence.wide m P l f tmps asg bd w R :=
  ⟨trivial, fun c cs _ => h.2 c cs (room_wide _)⟩
theorem calm_ret {F : Fence} {n : Nat} {P : Program} {fn : Func} {R : Ending → World → Prop} {a : Act} {w : World} {v : Value} (hd : a.defers = []) (hr : (results fn a.tmps).run P w = .ok v w) (h : R (.returned v) w) : calmQ (bodyPostM F n P fn R) .ret a w := by
  show LeavesInM F n P fn a.tmps R a.defers .returning w
  rw [hd]
  exact ⟨v, hr, h⟩
theorem callsIn_round {n l : Nat} {P : Program} {f : FuncId} {args : Array Value} {w : World} {R : Ending → World → Prop} (h : Calls P f args w R) : CallsIn (Fence.wide.inRound l) n P f args w R := ⟨trivial, fun cs _ => ((callsIn_wide (n := n)).2 h).2 cs (room_wide _)⟩
theorem calm_ret1 {F : Fence} {n : Nat} {P : Program} {fn : Func} {R : Ending → World → Prop} {a : Act} {w : World} {v : Value} {D : Nat} (hd : a.defers = [{ target := .collected D, args := #[] }]) (hD : w.heap[D]? = some (.deferred (some []))) (hr : (results fn a.tmps).run P (w.putObj D (.deferred none)) = .ok v (w.putObj D (.deferred none))) (h : R (.returned v) (w.putObj D (.deferred none))) : calmQ (bodyPostM F n P fn R) .ret a w := by
  show LeavesInM F n P fn a.tmps R a.defers .returning w
  rw [hd]
  exact ⟨by simp, .inl ⟨_, _, rfl, run_takeDeferred hD, v, hr, h⟩⟩
theorem calm_end1 {F : Fence} {n : Nat} {P : Program} {fn : Func} {R : Ending → World → Prop} {a : Act} {w : World} {v : Value} {D : Nat} (hd : a.defers = [{ target := .collected D, args := #[] }]) (hD : w.heap[D]? = some (.deferred (some []))) (hr : (results fn a.tmps).run P (w.putObj D (.deferred none)) = .ok v (w.putObj D (.deferred none))) (h : R (.returned v) (w.putObj D (.deferred none))) : calmQ (bodyPostM F n P fn R) .normal a w := by
  show LeavesInM F n P fn a.tmps R a.defers .returning w
  rw [hd]
  exact ⟨by simp, .inl ⟨_, _, rfl, run_takeDeferred hD, v, hr, h⟩⟩
theorem each_of {W : World} {bx q e m : Nat} {l : List Pr} {v : Value} (h : StAt W q e m l v) (hb : Fresh W bx #[v] 60) : ∃ e3, (e3 = e ∨ e3 = bx) ∧ EachAt W bx e3 (keys l) v := by
  rcases h.key.row.form with ⟨h1, h2⟩ | ⟨cap, cur, h1, h2, h3⟩
  · exact ⟨bx, .inr rfl, hb, .of_row ⟨.inl ⟨h1, h2⟩⟩, .inl rfl⟩
  · exact ⟨e, .inl rfl, hb, .of_row h.key.row, .inr ⟨cur, h2⟩⟩
theorem all_own {Kp : List Nat → World → World → Prop} (K : KLaw Kp) (n : Nat) (hn : 4 ≤ n) (b : Nat) (S : List Nat) (l : List Pr) (w : World) (p q e m : Nat) (hA : ArtAt w p q e m l) (hlen : l.length < 100000)
    (hb : w.cell? ⟨b, 0, none⟩ = some (.pointer (some ⟨p, 0, none⟩))) (hbl : b < w.heap.size) (hS : ∀ k ∈ S, k < w.heap.size + 2) :
    SeqOwn Fence.wide n Try.prog 55 #[.pointer (some ⟨b, 0, none⟩)] prV (Kp S) (fun ys => ys = l)
      (fun pre => ∃ k, k < l.length ∧ pre = l.take (k + 1)) (NextP l) w := by
  intro l0 J Jx W hW hsz hJ hJx hY h0
  have hAW := hA.below hW
  have hbW : W.cell? ⟨b, 0, none⟩ = some (.pointer (some ⟨p, 0, none⟩)) := (hW.cell (p := ⟨b, 0, none⟩) hbl).trans hb
  have hbl2 : b < W.heap.size := Nat.lt_of_lt_of_le hbl hW.size
  have hSW : ∀ k ∈ S, k < W.heap.size := fun k hk => by have := hS k hk; omega
  clear hW hA hb hS hsz hbl
  refine callsIn_of_wp_marks Try.func55 rfl trivial ?_ rfl
  simp only [Try.ntmps55, List.size_toArray, List.length_cons, List.length_nil, Nat.reduceAdd, Nat.reduceSub, Array.replicate_succ, Array.replicate_zero, List.push_toArray, List.append_toArray, List.nil_append, List.cons_append]
  obtain ⟨W1, hW1⟩ : ∃ W1, W1 = W.alloc (.cells #[.func (.yield l0) #[] #[]] 54) := ⟨_, rfl⟩
  have B1 : Below W.heap.size W W1 := by rw [hW1]; exact Below.new (Below.refl _ _) _
  have A1 := hAW.below B1
  have b1 : W1.cell? ⟨b, 0, none⟩ = some (.pointer (some ⟨p, 0, none⟩)) := (B1.cell (p := ⟨b, 0, none⟩) hbl2).trans hbW
  have f1 : Fresh W1 W.heap.size #[.func (.yield l0) #[] #[]] 54 := by rw [hW1]; exact Fresh.new _ _ _ _ rfl
  have s1 : W1.heap.size = W.heap.size + 1 := by rw [hW1]; simp
  have j1 : J [] W1 := by rw [hW1]; exact hJ.alloc _ h0
  have p1 := A1.cells.1
  obtain ⟨v0, hr⟩ := A1.st
  have HI := Lib.hid (isNil_any A1)
  have HC := Lib.hid (copied_any hr hlen)
  have HSP := Lib.hid (And.intro hr.srt hlen)
  have HB1 := Lib.hid B1
  have HF1 := Lib.hid f1
  have HJ1 := Lib.hid j1
  have HJ := Lib.hid hJ
  have HJx := Lib.hid hJx
  have HY := Lib.hid hY
  have HSW := Lib.hid hSW
  have HW1 := Lib.hid hW1
  have HS1 := Lib.hid s1
  have HK := Lib.hid K
  have hmf := @makeFunc_run Try.prog
  clear hAW B1 f1 j1 hJ hJx hY hSW hW1 s1 h0 A1 hr K hlen hbl2
  refine wpIn_wide.2 ?_
  refine wp_mono (Q := calmQ _) ?_ calmQ_out
  go_upto_region 1 with fail
  rw [← HW1.out]
  go_upto_region 3 with (first
    | (go_at_call 36; refine HI.out.mono ?_; rintro e' w2 ⟨rfl, hw2⟩; replace hw2 := hw2.symm; subst hw2)
    | (go_at_call 56; refine HC.out.mono ?_; rintro e' w2 ⟨q2, e2, m2, v, hq2, he2, hm2, rfl, hb2, hr2⟩))
  obtain ⟨W3, hW3⟩ : ∃ W3, W3 = w2.alloc (.cells #[.pointer (some ⟨q2, 0, none⟩)] 58) := ⟨_, rfl⟩
  rw [← hW3]
  have B3 : Below w2.heap.size w2 W3 := by rw [hW3]; exact Below.new (Below.refl _ _) _
  have A3 : AllAt W3 W.heap.size l0 w2.heap.size q2 e2 m2 l v := by
    refine ⟨HF1.out.below (Below.step hb2 B3), ?_, hr2.below B3⟩
    rw [hW3]; exact Fresh.new _ _ _ _ rfl
  have s3 : w2.heap.size < W3.heap.size := A3.box.lt
  have j3 : J [] W3 := by
    refine HJ.out [] W1 W3 none HJ1.out ?_ (fun r e => by cases e)
    have hb := Below.step hb2 B3
    exact ⟨hb.os, hb.tape, hb.output, hb.size, fun k hk _ => hb.block k hk⟩
  have z3 := (A3.box.cell 0).trans rfl
  simp only [List.getElem?_toArray, List.getElem?_cons_zero] at z3
  have v3 := A3.st.cells.1
  have hsl := A3.st.key.row.slice'
  obtain ⟨va, vn, vc, hv⟩ := hsl
  rw [hv] at v3
  have HV := Lib.hid hv
  have H3 := Lib.hid (And.intro A3 (And.intro j3 (And.intro hq2 (And.intro he2 (And.intro hm2 (And.intro s3 (And.intro hb2.size (And.intro A3.st.lt.1 (And.intro A3.st.lt.2.1 A3.st.lt.2.2)))))))))
  clear hW3 B3 A3 j3 hq2 he2 hm2 hb2 hr2 s3 hv
  go_wp2_with (go_at_call 57; refine (each_any _ _ ⟨va, vn, vc, rfl⟩).mono ?_; rintro e' WL ⟨rfl, hWL⟩; have HWL := Lib.hid hWL; clear hWL)
  have z1 := HS1.out
  have zz := H3.out.2.2
  have szL : WL.heap.size = W3.heap.size + 1 := by rw [HWL.out]; simp
  have BL : Below W3.heap.size W3 WL := by rw [HWL.out]; exact Below.new (Below.refl _ _) _
  have AL := H3.out.1.below BL
  have fb : Fresh WL W3.heap.size #[v] 60 := by rw [HWL.out, HV.out]; exact Fresh.new _ _ _ _ rfl
  obtain ⟨e3, he3, BY⟩ := each_of AL.st fb
  obtain ⟨S', hS'⟩ : ∃ S', S' = (WL.heap.size + 1) :: S := ⟨_, rfl⟩
  have nS : ∀ k, W.heap.size ≤ k → k ≠ WL.heap.size + 1 → k ∉ S' := fun k h1 h2 h3 => by
    rw [hS'] at h3
    rcases List.mem_cons.1 h3 with h3 | h3
    · exact h2 h3
    · have := HSW.out k h3; omega
  have jL : J [] WL := by
    refine HJ.out [] W3 WL none H3.out.2.1 ?_ (fun r e => by cases e)
    exact ⟨BL.os, BL.tape, BL.output, BL.size, fun k hk _ => BL.block k hk⟩
  have HNS := Lib.hid nS
  have KK := HK.out
  have hlen := HSP.out.2
  have he4 : W.heap.size ≤ e3 ∧ e3 < W3.heap.size + 1 := by rcases he3 with h | h <;> (rw [h]; omega)
  refine (wpIn_wide (n := n)).1 ?_
  generalize hA0 : ({ tmps := _, defers := _ } : Act) = A0
  refine range_box rfl (by omega) (gf := 68) (lb := #[.pointer (some ⟨W3.heap.size, 0, none⟩)]) (by rw [← hA0]; rfl) trivial (enters_of Try.func68 (by kernel_rfl) rfl)
    (each_own (n - 1) (by omega) W3.heap.size e3 (keys l) v (by rw [keys_len]; omega) (Kp S') WL BY
      (fun A B hk hB => hB.kp KK hk (nS _ (by omega) (by omega)) (nS _ (by omega) (by omega))))
    (fun h k => KK.trans h k) (fun Wc o _ => KK.put (by rw [hS']; exact List.mem_cons_self ..) o) (Below.refl _ _) (fun _ => rfl)
    (fun pre Wc => ∃ k, k ≤ l.length ∧ pre = (keys l).take k ∧ J (l.take k) Wc ∧ AllAt Wc W.heap.size l0 w2.heap.size q2 e2 m2 l v)
    (fun c pre Wc => c = .ret ∧ ∃ k, k < l.length ∧ Jx (l.take (k + 1)) Wc)
    (fun pre X Y row ⟨k, h1, h2, h3, h4⟩ hg hr => ⟨k, h1, h2, HJ.out _ X Y row h3 hg (fun r e => ⟨by have := (hr r e).1; omega, (hr r e).2⟩), ⟨h4.yld.kept hg (fun r e => (hr r e).2), h4.box.kept hg (fun r e => (hr r e).2), h4.st.kept hg (fun r e => (hr r e).2) (fun e => by have := (hr m2 e).1; omega)⟩⟩)
    (fun c pre X Y row ⟨h1, k, h2, h3⟩ hg hr => ⟨h1, k, h2, HJx.out _ X Y row h3 hg (fun r e => ⟨by have := (hr r e).1; omega, (hr r e).2⟩)⟩)
    ⟨0, by omega, rfl, jL, AL⟩
    (fun x a' _ => a' = { tmps := (A0.tmps.setIfInBounds 17 (.string x)).setIfInBounds 4 (.string x), defers := [] })
    (fun x a' _ X Y row h1 hg hr => h1)
    ?assignment ?round ?done ?stop
  all_goals subst hA0
  case assignment =>
    rintro l' pre x Wc K' hG hI hK'
    have HK' := hK' _ Wc ((KeepsOthers.refl _).from _) (KK.refl _ Wc) hI rfl
    clear hK' hI hG szL z1 zz
    simp only [List.setIfInBounds_toArray, List.set_cons_succ, List.set_cons_zero] at HK'
    replace HK' := Lib.hid HK'
    unfold keyV
    gi_wp2
    exact HK'.out
  case round =>
    rintro l' pre x a' W5 hG ⟨k, hk, hpre, hj, hA5⟩ rfl hz
    simp only [List.setIfInBounds_toArray, List.set_cons_succ, List.set_cons_zero]
    obtain ⟨k', hk', hpx⟩ := hG
    rw [keys_len] at hk'
    have hkl : k < l.length ∧ ∀ h : k < l.length, x = (l[k]'h).1 := by
      obtain ⟨h1, h2⟩ := List.append_inj' hpx rfl
      have hlen : k' = k := by
        have := congrArg List.length (hpre.symm.trans h1)
        simp only [List.length_take, keys_len] at this
        omega
      subst hlen
      exact ⟨hk', fun _ => by simpa [keys] using h2⟩
    obtain ⟨hkl, hxk⟩ := hkl
    have hxk := hxk hkl
    have jd : J (l.take k) W5.drew := HJ.out _ W5 W5.drew none hj ⟨rfl, rfl, rfl, Nat.le_refl _, fun _ _ _ => rfl⟩ (fun r e => by cases e)
    obtain ⟨fn, tmps, assign, body, hy, hR⟩ := HY.out (l.take k) l[k] W5.drew ⟨k, hkl, rfl⟩ jd
    obtain ⟨⟨c, y⟩, hlk⟩ : ∃ y, l[k] = y := ⟨_, rfl⟩
    obtain rfl : x = c := by rw [hxk, hlk]
    have hget : getT l x = some (x, y) := get_of_mem (srt_uniq HSP.out.1) (by rw [← hlk]; exact List.getElem_mem hkl)
    have hx2 : l.take k ++ [l[k]] = l.take (k + 1) := (List.take_succ_eq_append_getElem hkl).symm
    rw [hx2] at hR
    rw [hlk] at hy
    unfold prV at hy
    dsimp only at hy
    have hlook := (hA5.st.below ((Below.refl _ _).drew)).look1 x y hget
    have d0 := (hA5.yld.cell 0).trans rfl
    have d1 := (hA5.box.cell 0).trans rfl
    have d2 := hA5.st.cells.2.1
    simp only [List.getElem?_toArray, List.getElem?_cons_zero] at d0 d1
    have HR := Lib.hid hR
    have HA5 := Lib.hid hA5
    have HKL := Lib.hid (And.intro hkl hpre)
    have HPX : Hid (pre ++ [x] = (keys l).take (k + 1)) := by
      show _ = _
      rw [hpre, List.take_succ_eq_append_getElem (by rw [keys_len]; exact hkl)]
      simp [keys, hlk]
    have HFIN : Hid (∀ W7, Kp S W5.drew W7 → KeepsFrom WL.heap.size W5 W7 ∧ Kp S' W5 W7 ∧ AllAt W7 W.heap.size l0 w2.heap.size q2 e2 m2 l v) := by
      intro W7 hT
      have h1 : Kp S W5 W7 := KK.trans (KK.turned ((Turned.refl _ _).drew)) hT
      have nSS : ∀ k, W.heap.size ≤ k → k ∉ S := fun k h1 h3 => by have := HSW.out k h3; omega
      exact ⟨KK.keeps h1 (fun k h3 => by have := HSW.out k h3; omega), KK.wide h1 (fun k hk => by rw [hS']; exact List.mem_cons_of_mem _ hk), HA5.out.kp KK h1 (nSS _ (by omega)) (nSS _ (by omega)) (nSS _ (by omega)) (nSS _ (by omega)) (nSS _ (by omega))⟩
    have hmx : Try.prog.follows .mixedOrders = true := by kernel_rfl
    clear hR hpx hpre hj jd hA5 hxk hlk hx2 hk' hk szL BL AL BY fb nS jL zz z1 hkl hget he3 he4
    gi_wp2
    refine region_inRound l' (by kernel_rfl) hmx ?_
    refine wpAnyIn_take (i := 1) (v := ?_) rfl rfl (by kernel_rfl) (by kernel_rfl) (by kernel_rfl) (fun _ _ _ h => h) ⟨Or.inl ⟨by rfl, ?_⟩, fun _ => rfl⟩ ?_; rotate_left 1; focus (intro w; go_simp; try with_reducible rfl)
    refine wpAnyIn_take (i := 6) (v := ?_) rfl rfl (by kernel_rfl) (by kernel_rfl) (by kernel_rfl) (fun _ _ _ h => h) ⟨Or.inl ⟨by rfl, ?_⟩, fun _ => rfl⟩ ?_; rotate_left 1; focus (intro w; go_simp; try with_reducible rfl)
    refine wpAnyIn_ready (rs := [0, 2]) (by kernel_rfl) (by simp) ?_
    refine AllReadyIn.cons rfl (fun K hK => ?_) ?_
    · go_simp
      refine hK _ _ ?_
      clear hK K
      refine wpAnyIn_ready (rs := [2]) (by kernel_rfl) (by simp) ?_
      refine AllReadyIn.cons rfl (fun K hK => ?_) ?_
      · go_simp
        refine hK _ _ ?_
        clear hK K
        refine wpAnyIn_take (i := 3) (v := ?_) rfl rfl (by kernel_rfl) (by kernel_rfl) (by kernel_rfl) (fun _ _ _ h => h) ⟨Or.inl ⟨by rfl, ?_⟩, fun _ => rfl⟩ ?_; rotate_left 1; focus (intro w; go_simp; try with_reducible rfl)
        refine wpAnyIn_take (i := 4) (v := ?_) rfl rfl (by kernel_rfl) (by kernel_rfl) (by kernel_rfl) (fun _ _ _ h => h) ⟨Or.inl ⟨by rfl, ?_⟩, fun _ => rfl⟩ ?_; rotate_left 1; focus (intro w; go_simp; try with_reducible rfl)
        refine wpAnyIn_ready (rs := [5]) (by kernel_rfl) (by simp) ?_
        refine AllReadyIn.cons rfl (fun K hK => ?_) ?_
        · go_simp
          refine hK _ _ ?_
          clear hK K
          refine wpAnyIn_ready (rs := [7]) (by kernel_rfl) (by simp) ?_
          refine AllReadyIn.cons rfl (fun K hK => ?_) ?_
          · go_simp
            refine hK _ _ ?_
            clear hK K
            refine wpAnyIn_ready (rs := [8]) (by kernel_rfl) (by simp) ?_
            refine AllReadyIn.cons rfl (fun K hK => ?_) ?_
            · go_simp
              refine ⟨fun _ => by omega, (roundIn_any HR.out).mono ?_⟩
              rintro e6 W7 ⟨hT7, ⟨rfl, hJ7⟩ | ⟨rfl, hJ7⟩⟩
              · have H7 := Lib.hid (HFIN.out W7 hT7)
                have HJ7 := Lib.hid hJ7
                clear hT7 hJ7
                gi_wp2
                refine wpAnyIn_take (i := 9) (v := ?_) rfl rfl (by kernel_rfl) (by kernel_rfl) (by kernel_rfl) (fun _ _ _ h => h) ⟨Or.inl ⟨by rfl, ?_⟩, fun _ => rfl⟩ ?_; rotate_left 1; focus (intro w; go_simp; try with_reducible rfl)
                refine wpAnyIn_done (by kernel_rfl) ?_ _
                gi_wp2
                first
                  | exact ⟨H7.out.1, H7.out.2.1, k + 1, HKL.out.1, HPX.out, HJ7.out, H7.out.2.2⟩
                  | exact ⟨H7.out.1, H7.out.2.1, rfl, k, HKL.out.1, HJ7.out⟩
              · have H7 := Lib.hid (HFIN.out W7 hT7)
                have HJ7 := Lib.hid hJ7
                clear hT7 hJ7
                gi_wp2
                refine wpAnyIn_take (i := 9) (v := ?_) rfl rfl (by kernel_rfl) (by kernel_rfl) (by kernel_rfl) (fun _ _ _ h => h) ⟨Or.inl ⟨by rfl, ?_⟩, fun _ => rfl⟩ ?_; rotate_left 1; focus (intro w; go_simp; try with_reducible rfl)
                refine wpAnyIn_done (by kernel_rfl) ?_ _
                gi_wp2
                first
                  | exact ⟨H7.out.1, H7.out.2.1, k + 1, HKL.out.1, HPX.out, HJ7.out, H7.out.2.2⟩
                  | exact ⟨H7.out.1, H7.out.2.1, rfl, k, HKL.out.1, HJ7.out⟩
            exact AllReadyIn.nil
          exact AllReadyIn.nil
        exact AllReadyIn.nil
      exact AllReadyIn.nil
    refine AllReadyIn.cons rfl (fun K hK => ?_) ?_
    · go_simp
      refine hK _ _ ?_
      clear hK K
      refine wpAnyIn_take (i := 3) (v := ?_) rfl rfl (by kernel_rfl) (by kernel_rfl) (by kernel_rfl) (fun _ _ _ h => h) ⟨Or.inl ⟨by rfl, ?_⟩, fun _ => rfl⟩ ?_; rotate_left 1; focus (intro w; go_simp; try with_reducible rfl)
      refine wpAnyIn_take (i := 4) (v := ?_) rfl rfl (by kernel_rfl) (by kernel_rfl) (by kernel_rfl) (fun _ _ _ h => h) ⟨Or.inl ⟨by rfl, ?_⟩, fun _ => rfl⟩ ?_; rotate_left 1; focus (intro w; go_simp; try with_reducible rfl)
      refine wpAnyIn_ready (rs := [0, 5]) (by kernel_rfl) (by simp) ?_
      refine AllReadyIn.cons rfl (fun K hK => ?_) ?_
      · go_simp
        refine hK _ _ ?_
        clear hK K
        refine wpAnyIn_ready (rs := [5]) (by kernel_rfl) (by simp) ?_
        refine AllReadyIn.cons rfl (fun K hK => ?_) ?_
        · go_simp
          refine hK _ _ ?_
          clear hK K
          refine wpAnyIn_ready (rs := [7]) (by kernel_rfl) (by simp) ?_
          refine AllReadyIn.cons rfl (fun K hK => ?_) ?_
          · go_simp
            refine hK _ _ ?_
            clear hK K
            refine wpAnyIn_ready (rs := [8]) (by kernel_rfl) (by simp) ?_
            refine AllReadyIn.cons rfl (fun K hK => ?_) ?_
            · go_simp
              refine ⟨fun _ => by omega, (roundIn_any HR.out).mono ?_⟩
              rintro e6 W7 ⟨hT7, ⟨rfl, hJ7⟩ | ⟨rfl, hJ7⟩⟩
              · have H7 := Lib.hid (HFIN.out W7 hT7)
                have HJ7 := Lib.hid hJ7
                clear hT7 hJ7
                gi_wp2
                refine wpAnyIn_take (i := 9) (v := ?_) rfl rfl (by kernel_rfl) (by kernel_rfl) (by kernel_rfl) (fun _ _ _ h => h) ⟨Or.inl ⟨by rfl, ?_⟩, fun _ => rfl⟩ ?_; rotate_left 1; focus (intro w; go_simp; try with_reducible rfl)
                refine wpAnyIn_done (by kernel_rfl) ?_ _
                gi_wp2
                first
                  | exact ⟨H7.out.1, H7.out.2.1, k + 1, HKL.out.1, HPX.out, HJ7.out, H7.out.2.2⟩
                  | exact ⟨H7.out.1, H7.out.2.1, rfl, k, HKL.out.1, HJ7.out⟩
              · have H7 := Lib.hid (HFIN.out W7 hT7)
                have HJ7 := Lib.hid hJ7
                clear hT7 hJ7
                gi_wp2
                refine wpAnyIn_take (i := 9) (v := ?_) rfl rfl (by kernel_rfl) (by kernel_rfl) (by kernel_rfl) (fun _ _ _ h => h) ⟨Or.inl ⟨by rfl, ?_⟩, fun _ => rfl⟩ ?_; rotate_left 1; focus (intro w; go_simp; try with_reducible rfl)
                refine wpAnyIn_done (by kernel_rfl) ?_ _
                gi_wp2
                first
                  | exact ⟨H7.out.1, H7.out.2.1, k + 1, HKL.out.1, HPX.out, HJ7.out, H7.out.2.2⟩
                  | exact ⟨H7.out.1, H7.out.2.1, rfl, k, HKL.out.1, HJ7.out⟩
            exact AllReadyIn.nil
          exact AllReadyIn.nil
        exact AllReadyIn.nil
      refine AllReadyIn.cons rfl (fun K hK => ?_) ?_
      · go_simp
        refine hK _ _ ?_
        clear hK K
        refine wpAnyIn_ready (rs := [0, 7]) (by kernel_rfl) (by simp) ?_
        refine AllReadyIn.cons rfl (fun K hK => ?_) ?_
        · go_simp
          refine hK _ _ ?_
          clear hK K
          refine wpAnyIn_ready (rs := [7]) (by kernel_rfl) (by simp) ?_
          refine AllReadyIn.cons rfl (fun K hK => ?_) ?_
          · go_simp
            refine hK _ _ ?_
            clear hK K
            refine wpAnyIn_ready (rs := [8]) (by kernel_rfl) (by simp) ?_
            refine AllReadyIn.cons rfl (fun K hK => ?_) ?_
            · go_simp
              refine ⟨fun _ => by omega, (roundIn_any HR.out).mono ?_⟩
              rintro e6 W7 ⟨hT7, ⟨rfl, hJ7⟩ | ⟨rfl, hJ7⟩⟩
              · have H7 := Lib.hid (HFIN.out W7 hT7)
                have HJ7 := Lib.hid hJ7
                clear hT7 hJ7
                gi_wp2
                refine wpAnyIn_take (i := 9) (v := ?_) rfl rfl (by kernel_rfl) (by kernel_rfl) (by kernel_rfl) (fun _ _ _ h => h) ⟨Or.inl ⟨by rfl, ?_⟩, fun _ => rfl⟩ ?_; rotate_left 1; focus (intro w; go_simp; try with_reducible rfl)
                refine wpAnyIn_done (by kernel_rfl) ?_ _
                gi_wp2
                first
                  | exact ⟨H7.out.1, H7.out.2.1, k + 1, HKL.out.1, HPX.out, HJ7.out, H7.out.2.2⟩
                  | exact ⟨H7.out.1, H7.out.2.1, rfl, k, HKL.out.1, HJ7.out⟩
              · have H7 := Lib.hid (HFIN.out W7 hT7)
                have HJ7 := Lib.hid hJ7
                clear hT7 hJ7
                gi_wp2
                refine wpAnyIn_take (i := 9) (v := ?_) rfl rfl (by kernel_rfl) (by kernel_rfl) (by kernel_rfl) (fun _ _ _ h => h) ⟨Or.inl ⟨by rfl, ?_⟩, fun _ => rfl⟩ ?_; rotate_left 1; focus (intro w; go_simp; try with_reducible rfl)
                refine wpAnyIn_done (by kernel_rfl) ?_ _
                gi_wp2
                first
                  | exact ⟨H7.out.1, H7.out.2.1, k + 1, HKL.out.1, HPX.out, HJ7.out, H7.out.2.2⟩
                  | exact ⟨H7.out.1, H7.out.2.1, rfl, k, HKL.out.1, HJ7.out⟩
            exact AllReadyIn.nil
          exact AllReadyIn.nil
        refine AllReadyIn.cons rfl (fun K hK => ?_) ?_
        · go_simp
          refine hK _ _ ?_
          clear hK K
          refine wpAnyIn_ready (rs := [0]) (by kernel_rfl) (by simp) ?_
          refine AllReadyIn.cons rfl (fun K hK => ?_) ?_
          · go_simp
            refine hK _ _ ?_
            clear hK K
            refine wpAnyIn_ready (rs := [8]) (by kernel_rfl) (by simp) ?_
            refine AllReadyIn.cons rfl (fun K hK => ?_) ?_
            · go_simp
              refine ⟨fun _ => by omega, (roundIn_any HR.out).mono ?_⟩
              rintro e6 W7 ⟨hT7, ⟨rfl, hJ7⟩ | ⟨rfl, hJ7⟩⟩
              · have H7 := Lib.hid (HFIN.out W7 hT7)
                have HJ7 := Lib.hid hJ7
                clear hT7 hJ7
                gi_wp2
                refine wpAnyIn_take (i := 9) (v := ?_) rfl rfl (by kernel_rfl) (by kernel_rfl) (by kernel_rfl) (fun _ _ _ h => h) ⟨Or.inl ⟨by rfl, ?_⟩, fun _ => rfl⟩ ?_; rotate_left 1; focus (intro w; go_simp; try with_reducible rfl)
                refine wpAnyIn_done (by kernel_rfl) ?_ _
                gi_wp2
                first
                  | exact ⟨H7.out.1, H7.out.2.1, k + 1, HKL.out.1, HPX.out, HJ7.out, H7.out.2.2⟩
                  | exact ⟨H7.out.1, H7.out.2.1, rfl, k, HKL.out.1, HJ7.out⟩
              · have H7 := Lib.hid (HFIN.out W7 hT7)
                have HJ7 := Lib.hid hJ7
                clear hT7 hJ7
                gi_wp2
                refine wpAnyIn_take (i := 9) (v := ?_) rfl rfl (by kernel_rfl) (by kernel_rfl) (by kernel_rfl) (fun _ _ _ h => h) ⟨Or.inl ⟨by rfl, ?_⟩, fun _ => rfl⟩ ?_; rotate_left 1; focus (intro w; go_simp; try with_reducible rfl)
                refine wpAnyIn_done (by kernel_rfl) ?_ _
                gi_wp2
                first
                  | exact ⟨H7.out.1, H7.out.2.1, k + 1, HKL.out.1, HPX.out, HJ7.out, H7.out.2.2⟩
                  | exact ⟨H7.out.1, H7.out.2.1, rfl, k, HKL.out.1, HJ7.out⟩
            exact AllReadyIn.nil
          exact AllReadyIn.nil
        exact AllReadyIn.nil
      exact AllReadyIn.nil
    exact AllReadyIn.nil
  case done =>
    rintro D xs W5 hD rfl ⟨k, hk, hpre, hj, _⟩ hK'
    have hkl : k = l.length := by
      have := congrArg List.length hpre
      simp only [List.length_take, keys_len] at this
      omega
    subst hkl
    rw [List.take_length] at hj
    have HK' := Lib.hid hK'
    have H1 := Lib.hid hj
    have hD2 := hD
    have hlt : W.heap.size ≤ D := by omega
    clear hK' hj hpre hk szL BL AL BY fb nS jL zz z1 he3 he4
    go_wp2
    exact calm_end1 rfl HK'.out (results_none rfl _ _ _) ⟨⟨_, rfl⟩, .inl ⟨l, rfl, HJ.out.putObj _ H1.out hlt HK'.out rfl⟩⟩
  case stop =>
    rintro D c pre W5 hD hS2 ⟨rfl, k, hk, hj⟩ hK'
    have HK' := Lib.hid hK'
    have H1 := Lib.hid hj
    have hlt : W.heap.size ≤ D := by omega
    clear hK' hj szL BL AL BY fb nS jL zz z1 he3 he4
    refine wpIn_wide.2 ?_
    go_wp2
    exact calm_ret1 rfl HK'.out (results_none rfl _ _ _) ⟨⟨_, rfl⟩, .inr ⟨_, ⟨k, hk, rfl⟩, HJx.out.putObj _ H1.out hlt HK'.out rfl⟩⟩
end Go.Proofs.Ytfffifmpfkkgbaa
