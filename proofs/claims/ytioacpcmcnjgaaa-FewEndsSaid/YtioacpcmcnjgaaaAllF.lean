/- The iterator All of a table: it yields what was there when it began, whatever the rounds do. -/
import Derived.Test.YtioacpcmcnjgaaaEachF
import Derived.Test.YtioacpcmcnjgaaaMix
import Derived.Shelf.Abstract
import Derived.Shelf.RegionOpen
namespace Go.Proofs.Ytioacpcmcnjgaaa
open Go.RowKit Go.Shelf
attribute [local go_sem] Oper.semAt_some
set_option maxRecDepth 100000
set_option maxHeartbeats 4000000

theorem calm_ret1 {F : Fence} {n : Nat} {P : Program} {fn : Func} {R : Ending → World → Prop} {a : Act} {w : World} {v : Value} {D : Nat} (hd : a.defers = [{ target := .collected D, args := #[] }]) (hD : w.heap[D]? = some (.deferred (some []))) (hr : (results fn a.tmps).run P (w.putObj D (.deferred none)) = .ok v (w.putObj D (.deferred none))) (h : R (.returned v) (w.putObj D (.deferred none))) : calmQ (bodyPostM F n P fn R) .ret a w := by
  show LeavesInM F n P fn a.tmps R a.defers .returning w
  rw [hd]
  exact ⟨by simp, .inl ⟨_, _, rfl, run_takeDeferred hD, v, hr, h⟩⟩
theorem calm_end1 {F : Fence} {n : Nat} {P : Program} {fn : Func} {R : Ending → World → Prop} {a : Act} {w : World} {v : Value} {D : Nat} (hd : a.defers = [{ target := .collected D, args := #[] }]) (hD : w.heap[D]? = some (.deferred (some []))) (hr : (results fn a.tmps).run P (w.putObj D (.deferred none)) = .ok v (w.putObj D (.deferred none))) (h : R (.returned v) (w.putObj D (.deferred none))) : calmQ (bodyPostM F n P fn R) .normal a w := by
  show LeavesInM F n P fn a.tmps R a.defers .returning w
  rw [hd]
  exact ⟨by simp, .inl ⟨_, _, rfl, run_takeDeferred hD, v, hr, h⟩⟩
theorem roundIn_wide {n m l l' : Nat} {P : Program} {f : FuncId} {tmps : Array Value} {asg bd : Code} {w : World} {R : Ending → World → Prop} (h : RoundIn Fence.wide n P l f tmps asg bd w R) : RoundIn (Fence.wide.inRound l') m P l f tmps asg bd w R :=
  ⟨trivial, fun c cs _ => h.2 c cs (room_wide _)⟩
theorem all_own (n : Nat) (hn : 3 ≤ n) (b : Nat) (S : List Nat) (l : List En) (room : Nat) (w : World) (p q : Nat) (hA : FewAt w p q l room)
    (hb : w.cell? ⟨b, 0, none⟩ = some (.pointer (some ⟨p, 0, none⟩))) (hS : ∀ k ∈ S, k < w.heap.size + 2) :
    SeqOwn Fence.wide n Try.prog 32 #[.pointer (some ⟨b, 0, none⟩)] enV (Turned S) (fun ys => ys = l)
      (fun pre => ∃ k, k < l.length ∧ pre = l.take (k + 1)) (NextE l) w := by
  intro l0 J Jx W hW hsz hJ hJx hY h0
  have hAW := hA.below hW
  have hbW : W.cell? ⟨b, 0, none⟩ = some (.pointer (some ⟨p, 0, none⟩)) := (hW.cell (p := ⟨b, 0, none⟩) (cell_lt hb)).trans hb
  have hSW : ∀ k ∈ S, k < W.heap.size := fun k hk => by have := hS k hk; omega
  clear hW hA hb hS hsz
  refine callsIn_of_wp_marks Try.func32 rfl trivial ?_ rfl
  simp only [Try.ntmps32, List.size_toArray, List.length_cons, List.length_nil, Nat.reduceAdd, Nat.reduceSub, Array.replicate_succ, Array.replicate_zero, List.push_toArray, List.append_toArray, List.nil_append, List.cons_append]
  obtain ⟨W1, hW1⟩ : ∃ W1, W1 = W.alloc (.cells #[.func (.yield l0) #[] #[]] 74) := ⟨_, rfl⟩
  have B1 : Below W.heap.size W W1 := by rw [hW1]; exact Below.new (Below.refl _ _) _
  have A1 := hAW.below B1
  have b1 : W1.cell? ⟨b, 0, none⟩ = some (.pointer (some ⟨p, 0, none⟩)) := (B1.cell (p := ⟨b, 0, none⟩) (cell_lt hbW)).trans hbW
  have f1 : Fresh W1 W.heap.size #[.func (.yield l0) #[] #[]] 74 := by rw [hW1]; exact Fresh.new _ _ _ _ rfl
  have s1 : W1.heap.size = W.heap.size + 1 := by rw [hW1]; simp
  have j1 : J [] W1 := by rw [hW1]; exact hJ.alloc _ h0
  have p1 := A1.ptr
  obtain ⟨cs, hcs⟩ : ∃ cs, cellsAt W1 q = cs := ⟨_, rfl⟩
  have HR : Hid (W1.rangeAt q 0 cs) := by rw [← hcs]; exact range_row A1.row
  have HO : Hid (cs.length = 50 ∧ cs.toArray.all (·.oneCell') = true) := by rw [← hcs]; exact ⟨cellsAt_length W1 q, cellsAt_one A1.row⟩
  have HI := Lib.hid (isNil_any A1)
  have HA1 := Lib.hid A1
  have HC := Lib.hid hcs
  have HB1 := Lib.hid B1
  have HF1 := Lib.hid f1
  have HJ1 := Lib.hid j1
  have HJ := Lib.hid hJ
  have HJx := Lib.hid hJx
  have HY := Lib.hid hY
  have HSW := Lib.hid hSW
  have HW1 := Lib.hid hW1
  have HS1 := Lib.hid s1
  clear hAW B1 f1 j1 hJ hJx hY hSW hW1 s1 h0 A1 hcs
  refine wpIn_wide.2 ?_
  refine wp_mono (Q := calmQ _) ?_ calmQ_out
  go_upto_region 1 with fail
  rw [← HW1.out]
  go_wp2_with (first
    | (go_at_call 29; refine HI.out.mono ?_; rintro e w2 ⟨rfl, hw2⟩; replace hw2 := hw2.symm; subst hw2)
    | (refine step_load_row rfl (.tmp 12) rfl q cs rfl HR.out HO.out.1 ?_)
    | (refine step_store_row rfl (.tmp 3) (.tmp 13) rfl cs rfl rfl HO.out.1 HO.out.2 ?_)
    | (go_at_call 33; refine (each_any _ _).mono ?_; rintro e WL ⟨rfl, hWL⟩; have HWL := Lib.hid hWL; clear hWL))
  have z1 := HS1.out
  have szL : WL.heap.size = W1.heap.size + 2 := by rw [HWL.out]; simp
  have BL : Below W1.heap.size W1 WL := by rw [HWL.out]; exact Below.new (Below.new (Below.refl _ _) _) _
  have fy : Fresh WL W.heap.size #[.func (.yield l0) #[] #[]] 74 := HF1.out.below BL
  have fw : Fresh WL (W1.heap.size + 1) #[.pointer (some ⟨W1.heap.size, 0, none⟩)] 47 := by rw [HWL.out]; exact Fresh.new _ _ _ _ (by simp)
  have fr : RowAt WL W1.heap.size l room := by
    refine row_copy (T := 66) HA1.out.row ?_
    rw [HC.out, HWL.out]
    exact (Fresh.new _ _ _ _ rfl).alloc _
  obtain ⟨S', hS'⟩ : ∃ S', S' = (WL.heap.size + 1) :: S := ⟨_, rfl⟩
  have nS : ∀ k, W.heap.size ≤ k → k ≠ WL.heap.size + 1 → k ∉ S' := fun k h1 h2 h3 => by
    rw [hS'] at h3
    rcases List.mem_cons.1 h3 with h3 | h3
    · exact h2 h3
    · have := HSW.out k h3; omega
  have jL : J [] WL := by
    refine HJ.out [] W1 WL none HJ1.out ?_ (fun r e => by cases e)
    exact ⟨BL.os, BL.tape, BL.output, BL.size, fun k hk _ => BL.block k hk⟩
  refine (wpIn_wide (n := n)).1 ?_
  refine range_box rfl (by omega) (gf := 38) (lb := #[.pointer (some ⟨W1.heap.size + 1, 0, none⟩)]) rfl trivial (enters_of Try.func38 (by kernel_rfl) rfl)
    (each_own (n - 1) (by omega) (W1.heap.size + 1) W1.heap.size room l S' WL fr ((fw.cell 0).trans rfl) (nS _ (by omega) (by omega)) (nS _ (by omega) (by omega)))
    (fun h k => h.trans k) (fun Wc o _ => Turned.put (by rw [hS']; exact List.mem_cons_self ..) o) (Below.refl _ _) (fun _ => rfl)
    (fun pre Wc => J pre Wc ∧ Fresh Wc W.heap.size #[.func (.yield l0) #[] #[]] 74)
    (fun c pre Wc => c = .ret ∧ Jx pre Wc)
    (fun pre X Y row ⟨h1, h4⟩ hg hr => ⟨HJ.out pre X Y row h1 hg (fun r e => ⟨by have := (hr r e).1; omega, (hr r e).2⟩), h4.kept hg (fun r e => (hr r e).2)⟩)
    (fun c pre X Y row ⟨h1, h2⟩ hg hr => ⟨h1, HJx.out pre X Y row h2 hg (fun r e => ⟨by have := (hr r e).1; omega, (hr r e).2⟩)⟩)
    ⟨jL, fy⟩
    (fun x a' Wc => ∃ bx, a' = { tmps := #[.func (.yield l0) #[] #[], .pointer (some ⟨b, 0, none⟩), .pointer (some ⟨W.heap.size, 0, none⟩), .pointer (some ⟨W1.heap.size, 0, none⟩), .int .u8 (x.1.toNat : Int), .pointer (some ⟨bx, 0, none⟩), .pointer (some ⟨p, 0, none⟩), .bool false, .pointer (some ⟨p, 0, none⟩), .pointer (some ⟨p, 0, none⟩), .pointer (some ⟨p, 0, none⟩), .pointer (some ⟨q, 0, none⟩), .pointer (some ⟨q, 0, none⟩), .agg cs.toArray, .func (.func 38) #[] #[.pointer (some ⟨W1.heap.size + 1, 0, none⟩)], .int .u8 (x.1.toNat : Int), refV x.2.1 x.2.2, undef, undef, undef, undef, undef], defers := [] } ∧ Fresh Wc bx #[.int .i64 x.2.1, .int .u32 x.2.2] 35)
    (fun x a' _ X Y row ⟨bx, h1, h2⟩ hg hr => ⟨bx, h1, h2.kept hg (fun r e => (hr r e).2)⟩)
    ?assignment ?round ?done ?stop
  case assignment =>
    rintro l' pre x Wc K hG hI hK
    have HK := Lib.hid (hK _ (Wc.alloc (.cells #[.int .i64 x.2.1, .int .u32 x.2.2] 35)) ((KeepsOthers.alloc _ _).from _) ((Turned.refl _ Wc).alloc _) ⟨HJ.out.alloc _ hI.1, hI.2.alloc _⟩ ⟨Wc.heap.size, rfl, Fresh.new _ _ _ _ rfl⟩)
    clear hK hI hG
    clear z1 szL
    unfold enV
    gi_wp2
    exact HK.out
  case round =>
    rintro l' pre x a' W5 hG ⟨hj, hfy⟩ ⟨bx, rfl, hbx⟩ hz
    have d2 := hbx.cell 0
    have d3 := hbx.cell 1
    have d4 := hfy.cell 0
    simp only [List.getElem?_toArray, List.getElem?_cons_zero, List.getElem?_cons_succ] at d2 d3 d4
    obtain ⟨fn, tmps, assign, body, hy, hR⟩ := HY.out pre x W5 hG hj
    unfold enV at hy
    have HR := Lib.hid hR
    have HFY := Lib.hid hfy
    clear hR hj hfy hbx
    clear fw fy fr
    clear z1
    gi_wp2
    refine ⟨fun h => (by cases h), (roundIn_wide HR.out).mono ?_⟩
    have nSS : ∀ k, W.heap.size ≤ k → k ∉ S := fun k h1 h3 => by have := HSW.out k h3; omega
    have sB : ∀ k ∈ S, k < WL.heap.size := fun k h3 => by have := HSW.out k h3; have := HS1.out; omega
    have fin : ∀ W7, Turned S W5 W7 → KeepsFrom WL.heap.size W5 W7 ∧ Turned S' W5 W7 ∧ Fresh W7 W.heap.size #[.func (.yield l0) #[] #[]] 74 := fun W7 hT => by
      exact ⟨KeepsFrom.of_turned hT sB, hT.wide (fun k hk => by rw [hS']; exact List.mem_cons_of_mem _ hk), hT.other HFY.out (nSS _ (by omega))⟩
    have HFIN := Lib.hid fin
    clear fin nSS sB
    rintro e W7 ⟨hT7, ⟨rfl, hJ7⟩ | ⟨rfl, hJ7⟩⟩
    · have H7 := Lib.hid (HFIN.out W7 hT7)
      have HJ7 := Lib.hid hJ7
      clear hT7 hJ7
      gi_wp2
      exact ⟨H7.out.1, H7.out.2.1, HJ7.out, H7.out.2.2⟩
    · have H7 := Lib.hid (HFIN.out W7 hT7)
      have HJ7 := Lib.hid hJ7
      clear hT7 hJ7
      gi_wp2
      exact ⟨H7.out.1, H7.out.2.1, rfl, HJ7.out⟩
  case done =>
    rintro D xs W5 hD hS ⟨h1, _⟩ hK
    have HK := Lib.hid hK
    have H1 := Lib.hid h1
    clear hK h1
    have hD2 := hD
    clear z1
    go_wp2
    exact calm_end1 rfl HK.out (results_none rfl _ _ _) ⟨⟨_, rfl⟩, .inl ⟨xs, hS, HJ.out.putObj _ H1.out (by have := HS1.out; omega) HK.out rfl⟩⟩
  case stop =>
    rintro D c pre W5 hD hS ⟨rfl, h1⟩ hK
    have HK := Lib.hid hK
    have H1 := Lib.hid h1
    clear hK h1 z1
    refine wpIn_wide.2 ?_
    go_wp2
    exact calm_ret1 rfl HK.out (results_none rfl _ _ _) ⟨⟨_, rfl⟩, .inr ⟨pre, hS, HJx.out.putObj _ H1.out (by have := HS1.out; omega) HK.out rfl⟩⟩
end Go.Proofs.Ytioacpcmcnjgaaa
