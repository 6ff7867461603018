/- The law LiveGrows, where the request is one. -/
import Derived.Test.YtjlfgmjcmicoaaaGrowsM
import Derived.Test.YtjlfgmjcmicoaaaAwake
import Derived.Deep.DeepCutAuto
import Derived.Deep.RegionWith
namespace Go.Proofs.Ytjlfgmjcmicoaaa
open Go.RowKit
set_option maxRecDepth 100000

theorem Fresh.thawed {W : World} {p : Nat} {cs : Array Value} {t : TypeId} (h : Fresh W p cs t) (i : Nat) : W.frozen? ⟨p, i, none⟩ = false := by simp [World.frozen?, show W.heap[p]? = _ from h]

theorem Fresh.set {W : World} {p : Nat} {cs : Array Value} {t : TypeId} (h : Fresh W p cs t) (i : Nat) (v : Value) : Fresh (W.setCell ⟨p, i, none⟩ v) p (cs.setIfInBounds i v) t := by
  unfold Fresh at *
  simp only [World.setCell, Array.getElem?_modify, h, Option.map_some, if_pos]
  rfl
theorem Fresh.other {W : World} {p q : Nat} {cs : Array Value} {t : TypeId} (h : Fresh W p cs t) (hn : p ≠ q) (i : Nat) (v : Value) : Fresh (W.setCell ⟨q, i, none⟩ v) p cs t :=
  (Below.heap_setCell W ⟨q, i, none⟩ v p hn).trans h
theorem Fresh.drew {W : World} {p : Nat} {cs : Array Value} {t : TypeId} (h : Fresh W p cs t) : Fresh W.drew p cs t := h

def swapped (r o : Req) (l : Int) : Req := ⟨r.d, o.ht, o.hg, o.hr, r.key, ⟨#[]⟩, r.old, l, o.ten, o.qk, o.qb, o.rts⟩


/-- Behind the change of the fields: what stands where. -/
def AtX (r o : Req) (p q : Nat) (w wx : World) : Prop := ∃ l : Int, (r.d = 5 → l = r.lim) ∧ (-9223372036854775808 ≤ l ∧ l ≤ 9223372036854775807) ∧ Fresh wx q (Req.cells (swapped r o l)) 31 ∧ Fresh wx p (Req.cells r) 31 ∧ Below w.heap.size w wx
def At5 (r o : Req) (p q : Nat) (w wx : World) : Prop := Fresh wx q (Req.cells (swapped r o r.lim)) 31 ∧ Fresh wx p (Req.cells r) 31 ∧ Fresh wx (p + 1) (Req.cells o) 31 ∧ Below w.heap.size w wx
def AtR (r : Req) (p : Nat) (w wx : World) : Prop := Fresh wx p (Req.cells r) 31 ∧ Below w.heap.size w wx

set_option maxHeartbeats 16000000 in
theorem grows_yes (r : Req) (a b : Int) (o : Req) (w : World) (h : r.Ok) (hol : -9223372036854775808 ≤ o.lim ∧ o.lim ≤ 9223372036854775807) (hb : isB r = true) (ha : 0 ≤ a ∧ a ≤ 4294967295) (hm : 0 ≤ b ∧ b ≤ 4294967295) :
    Calls Try.prog 6 #[reqV r, .int .u32 a, .int .u32 b, reqV o] w fun e w' => e = .returned (.bool true) ∧ Below w.heap.size w w' := by
  have HO := Lib.hid h
  have HB := Lib.hid hb
  obtain ⟨T, hT⟩ : ∃ T : Int, a.tmod 1048576 = T := ⟨_, rfl⟩
  obtain ⟨M, hM⟩ : ∃ M : Int, b.tmod 1048576 = M := ⟨_, rfl⟩
  have T0 : 0 ≤ T ∧ T < 1048576 := by rw [← hT, Int.tmod_eq_emod_of_nonneg ha.1]; omega
  have M0 : 0 ≤ M ∧ M < 1048576 := by rw [← hM, Int.tmod_eq_emod_of_nonneg hm.1]; omega
  obtain ⟨a1, a2⟩ := ha
  obtain ⟨b1, b2⟩ := hm
  obtain ⟨T1, T2⟩ := T0
  obtain ⟨M1, M2⟩ := M0
  clear h hb
  go_enter Try.func6, Try.ntmps6
  go_wp2_with fail
  refine (is_any r _ HO.out).mono ?_
  rw [HB.out]
  rintro e W ⟨rfl, hb1⟩
  have HF1 := Lib.hid (((fresh_req w r _ rfl).alloc (.cells #[.int .i64 o.d, .int .i64 o.ht, .int .u32 o.hg, .int .u8 o.hr, .string o.key, .string o.val, .string o.old, .int .i64 o.lim, .int .i64 o.ten, .int .u64 o.qk, .int .u64 o.qb, .int .u8 o.rts] 31)).below hb1)
  have E1 := (Fresh.new (w.alloc (.cells #[.int .i64 r.d, .int .i64 r.ht, .int .u32 r.hg, .int .u8 r.hr, .string r.key, .string r.val, .string r.old, .int .i64 r.lim, .int .i64 r.ten, .int .u64 r.qk, .int .u64 r.qb, .int .u8 r.rts] 31)) (w.heap.size + 1) (Req.cells o) 31 (by simp)).below hb1
  have HE1 := Lib.hid E1
  have HB1 := Lib.hid (Below.step (Below.new ((Below.refl w.heap.size w).alloc (Nat.le_refl _) _) _) hb1)
  obtain ⟨c0, c1, c2, c3, c4, c5, c6, c7, c8, c9, c10, c11⟩ := req_cells HF1.out
  obtain ⟨e0, e1, e2, e3, e4, e5, e6, e7, e8, e9, e10, e11⟩ := req_cells HE1.out
  have l0 : w.heap.size < W.heap.size := HF1.out.lt
  have l1 : w.heap.size + 1 < W.heap.size := HE1.out.lt
  clear E1 hb1
  go_wp2_with fail
  obtain ⟨WX, hWX⟩ : ∃ WX, WX = W.alloc (.cells #[.int .i64 r.d, .int .i64 r.ht, .int .u32 r.hg, .int .u8 r.hr, .string r.key, .string r.val, .string r.old, .int .i64 r.lim, .int .i64 r.ten, .int .u64 r.qk, .int .u64 r.qb, .int .u8 r.rts] 31) := ⟨_, rfl⟩
  rw [← hWX]
  have FX : Fresh WX W.heap.size (Req.cells r) 31 := by rw [hWX]; exact fresh_req W r _ rfl
  have HFX := Lib.hid FX
  have HF2 : Hid (Fresh WX w.heap.size (Req.cells r) 31) := by show Fresh _ _ _ _; rw [hWX]; exact HF1.out.alloc _
  have HE2 : Hid (Fresh WX (w.heap.size + 1) (Req.cells o) 31) := by show Fresh _ _ _ _; rw [hWX]; exact HE1.out.alloc _
  have HB2 : Hid (Below w.heap.size w WX) := by show Below _ _ _; rw [hWX]; exact Below.new HB1.out _
  have lX : W.heap.size < WX.heap.size := FX.lt
  have l2 : w.heap.size < WX.heap.size := HF2.out.lt
  have l3 : w.heap.size + 1 < WX.heap.size := HE2.out.lt
  clear c0 c1 c2 c3 c4 c5 c6 c7 c8 c9 c10 c11 e0 e1 e2 e3 e4 e5 e6 e7 e8 e9 e10 e11 hWX
  obtain ⟨e0, e1, e2, e3, e4, e5, e6, e7, e8, e9, e10, e11⟩ := req_cells HE2.out
  obtain ⟨c0, c1, c2, c3, c4, c5, c6, c7, c8, c9, c10, c11⟩ := req_cells HF2.out
  obtain ⟨x0, x1, x2, x3, x4, x5, x6, x7, x8, x9, x10, x11⟩ := req_cells FX
  have z1 := FX.thawed 1
  have z2 := FX.thawed 2
  have z3 := FX.thawed 3
  have z5 := FX.thawed 5
  have z7 := FX.thawed 7
  have z8 := FX.thawed 8
  have z9 := FX.thawed 9
  have z10 := FX.thawed 10
  have z11 := FX.thawed 11
  clear FX
  go_region
  obtain ⟨W5, hW5⟩ : ∃ W5, W5 = ((((((((WX.setCell ⟨W.heap.size, 1, none⟩ (.int .i64 o.ht)).setCell ⟨W.heap.size, 2, none⟩ (.int .u32 o.hg)).setCell ⟨W.heap.size, 3, none⟩ (.int .u8 o.hr)).setCell ⟨W.heap.size, 5, none⟩ (.string ⟨#[]⟩)).setCell ⟨W.heap.size, 8, none⟩ (.int .i64 o.ten)).setCell ⟨W.heap.size, 9, none⟩ (.int .u64 o.qk)).setCell ⟨W.heap.size, 10, none⟩ (.int .u64 o.qb)).setCell ⟨W.heap.size, 11, none⟩ (.int .u8 o.rts)).drew := ⟨_, rfl⟩
  rw [← hW5]
  have HX5 : Hid (Fresh W5 W.heap.size (Req.cells (swapped r o r.lim)) 31) := by show Fresh _ _ _ _; rw [hW5]; exact ((((((((HFX.out.set 1 _).set 2 _).set 3 _).set 5 _).set 8 _).set 9 _).set 10 _).set 11 _).drew
  have HF5 : Hid (Fresh W5 w.heap.size (Req.cells r) 31) := by show Fresh _ _ _ _; rw [hW5]; exact ((((((((HF2.out.other (by omega) 1 _).other (by omega) 2 _).other (by omega) 3 _).other (by omega) 5 _).other (by omega) 8 _).other (by omega) 9 _).other (by omega) 10 _).other (by omega) 11 _).drew
  have HE5 : Hid (Fresh W5 (w.heap.size + 1) (Req.cells o) 31) := by show Fresh _ _ _ _; rw [hW5]; exact ((((((((HE2.out.other (by omega) 1 _).other (by omega) 2 _).other (by omega) 3 _).other (by omega) 5 _).other (by omega) 8 _).other (by omega) 9 _).other (by omega) 10 _).other (by omega) 11 _).drew
  have HB5 : Hid (Below w.heap.size w W5) := by show Below _ _ _; rw [hW5]; exact (Below.setCell (Below.setCell (Below.setCell (Below.setCell (Below.setCell (Below.setCell (Below.setCell (Below.setCell HB2.out (by show w.heap.size ≤ W.heap.size; omega) _) (by show w.heap.size ≤ W.heap.size; omega) _) (by show w.heap.size ≤ W.heap.size; omega) _) (by show w.heap.size ≤ W.heap.size; omega) _) (by show w.heap.size ≤ W.heap.size; omega) _) (by show w.heap.size ≤ W.heap.size; omega) _) (by show w.heap.size ≤ W.heap.size; omega) _) (by show w.heap.size ≤ W.heap.size; omega) _).drew
  clear c0 c1 c2 c3 c4 c5 c6 c7 c8 c9 c10 c11 e0 e1 e2 e3 e4 e5 e6 e7 e8 e9 e10 e11 x0 x1 x2 x3 x4 x5 x6 x7 x8 x9 x10 x11 z1 z2 z3 z5 z7 z8 z9 z10 z11 hW5 HFX HF2 HE2 HB2 HF1 HE1 HB1 lX l2 l3
  have d0 := (req_cells HF5.out).1
  go_upto_if 61 with fail
  clear d0
  go_cut [] (fun wx => AtX r o w.heap.size W.heap.size w wx)
  case first =>
    as_aux_lemma =>
      obtain ⟨e0, e1, e2, e3, e4, e5, e6, e7, e8, e9, e10, e11⟩ := req_cells HE5.out
      have z7 := HX5.out.thawed 7
      obtain ⟨x0, x1, x2, x3, x4, x5, x6, x7, x8, x9, x10, x11⟩ := req_cells HX5.out
      by_cases h5 : r.d = 5
      · have q5 : ((r.d : Int) != 5) = false := by simp [h5]
        go_wp2_with fail
        go_meet
        exact ⟨r.lim, fun _ => rfl, HO.out.lim, HX5.out, HF5.out, HB5.out⟩
      · have q5 : ((r.d : Int) != 5) = true := by simp [h5]
        go_wp2_with fail
        go_meet
        exact ⟨o.lim, fun e => absurd e h5, hol, HX5.out.set 7 _, HF5.out.other (by omega) 7 _, Below.setCell HB5.out (by show w.heap.size ≤ W.heap.size; omega) _⟩
  case rest =>
    as_aux_lemma =>
      obtain ⟨l, hl, hlr, HX8, HF8, HB8⟩ := hcut
      obtain ⟨W8, hW8⟩ : ∃ W8, W8 = wc := ⟨_, rfl⟩
      rw [← hW8] at HX8 HF8 HB8 ⊢
      clear hW8
      clear HX5 HF5 HE5 HB5
      obtain ⟨x, hx⟩ : ∃ x, x = swapped r o l := ⟨_, rfl⟩
      rw [← hx] at HX8
      have hxB : isB x = true := isB_swap r x HB.out (by rw [hx]; rfl) (by rw [hx]; rfl) (by rw [hx]; exact (by decide : (0:Nat) ≤ 32)) (by rw [hx]; rfl) (by rw [hx]; exact hl)
      have HXY : Hid (boundZ x T = boundZ r T) := bound_swap r x T HB.out hxB (by rw [hx]; rfl) (by rw [hx]; rfl) (by rw [hx]; exact hl)
      have HXO : Hid x.Ok := by rw [hx]; exact ⟨HO.out.key, (by decide : (0:Nat) ≤ maxLen), HO.out.old, HO.out.d, hlr⟩
      clear hx hl
      have HF8' := Lib.hid HF8
      have HB8' := Lib.hid HB8
      obtain ⟨Y, hY⟩ : ∃ Y, boundZ r T = Y := ⟨_, rfl⟩
      obtain ⟨N, hN⟩ : ∃ N : Int, (wayN r : Int) = N := ⟨_, rfl⟩
      have hYr := boundZ_range r T HB.out ⟨T1, by omega⟩
      have hNr := wayN_le r
      have hst := bound_step r T HB.out ⟨T1, T2⟩
      have N1 : 11 ≤ N ∧ N ≤ 145 := by have := hNr.2 HB.out; omega
      rw [hN, hY] at hst
      rw [hY] at hYr
      have HS1 : Hid (boundZ r (T + 1) = Y + N) := by show _ = _; omega
      have HY := Lib.hid hY
      have HN := Lib.hid hN
      have HXY2 : Hid (boundZ x T = Y) := by show _ = _; rw [HXY.out, hY]
      obtain ⟨Y1, Y2⟩ := hYr
      obtain ⟨N1, N2⟩ := N1
      clear hY hN hNr hst HXY
      go_upto_region 8 with fail
      go_cut [89] (fun c wx => c = .bool false ∧ Below W8.heap.size W8 wx)
      case first =>
        as_aux_lemma =>
          have k1 : ((Y : Int) != Y) = false := by simp
          have k3 : ((N : Int) != N) = false := by simp
          have k4 : IntKind.i64.wrap (T + 1) = T + 1 := IntWalk.i64_in _ (by omega)
          have k5 : IntKind.i64.wrap (Y + N - Y) = N := by rw [show Y + N - Y = N from by omega]; exact IntWalk.i64_in _ (by omega)
          have k6 : Y + N - Y = N := by omega
          have k7 : decide (N < 1) = false := decide_eq_false (by omega)
          obtain ⟨c0, c1, c2, c3, c4, c5, c6, c7, c8, c9, c10, c11⟩ := req_cells HF8
          obtain ⟨x0, x1, x2, x3, x4, x5, x6, x7, x8, x9, x10, x11⟩ := req_cells HX8
          have gx0 := fun d os => cell_regrown x0 d os
          have gx1 := fun d os => cell_regrown x1 d os
          have gx2 := fun d os => cell_regrown x2 d os
          have gx3 := fun d os => cell_regrown x3 d os
          have gx4 := fun d os => cell_regrown x4 d os
          have gx5 := fun d os => cell_regrown x5 d os
          have gx6 := fun d os => cell_regrown x6 d os
          have gx7 := fun d os => cell_regrown x7 d os
          have gx8 := fun d os => cell_regrown x8 d os
          have gx9 := fun d os => cell_regrown x9 d os
          have gx10 := fun d os => cell_regrown x10 d os
          have gx11 := fun d os => cell_regrown x11 d os
          have gc0 := fun d os => cell_regrown c0 d os
          have gc1 := fun d os => cell_regrown c1 d os
          have gc2 := fun d os => cell_regrown c2 d os
          have gc3 := fun d os => cell_regrown c3 d os
          have gc4 := fun d os => cell_regrown c4 d os
          have gc5 := fun d os => cell_regrown c5 d os
          have gc6 := fun d os => cell_regrown c6 d os
          have gc7 := fun d os => cell_regrown c7 d os
          have gc8 := fun d os => cell_regrown c8 d os
          have gc9 := fun d os => cell_regrown c9 d os
          have gc10 := fun d os => cell_regrown c10 d os
          have gc11 := fun d os => cell_regrown c11 d os
          refine wp_region_quiet_below (by kernel_rfl) (by kernel_rfl) ?_
          have BW := Lib.hid (fun w => (show Calls Try.prog 13 #[.agg #[.int .i64 r.d, .int .i64 r.ht, .int .u32 r.hg, .int .u8 r.hr, .string r.key, .string r.val, .string r.old, .int .i64 r.lim, .int .i64 r.ten, .int .u64 r.qk, .int .u64 r.qb, .int .u8 r.rts]] w fun e w' => e = .returned (.int .i64 N) ∧ Below w.heap.size w w' from (way_any r w HO.out).mono fun e w' h => ⟨by rw [h.1, HN.out], h.2⟩))
          have B1 := Lib.hid (fun w => (show Calls Try.prog 14 #[.agg #[.int .i64 x.d, .int .i64 x.ht, .int .u32 x.hg, .int .u8 x.hr, .string x.key, .string x.val, .string x.old, .int .i64 x.lim, .int .i64 x.ten, .int .u64 x.qk, .int .u64 x.qb, .int .u8 x.rts], .int .i64 T] w fun e w' => e = .returned (.int .i64 Y) ∧ Below w.heap.size w w' from (bound_any x T w HXO.out).mono fun e w' h => ⟨by rw [h.1, HXY2.out], h.2⟩))
          have B2 := Lib.hid (fun w => (show Calls Try.prog 14 #[.agg #[.int .i64 r.d, .int .i64 r.ht, .int .u32 r.hg, .int .u8 r.hr, .string r.key, .string r.val, .string r.old, .int .i64 r.lim, .int .i64 r.ten, .int .u64 r.qk, .int .u64 r.qb, .int .u8 r.rts], .int .i64 T] w fun e w' => e = .returned (.int .i64 Y) ∧ Below w.heap.size w w' from (bound_any r T w HO.out).mono fun e w' h => ⟨by rw [h.1, HY.out], h.2⟩))
          have B3 := Lib.hid (fun w => (show Calls Try.prog 14 #[.agg #[.int .i64 r.d, .int .i64 r.ht, .int .u32 r.hg, .int .u8 r.hr, .string r.key, .string r.val, .string r.old, .int .i64 r.lim, .int .i64 r.ten, .int .u64 r.qk, .int .u64 r.qb, .int .u8 r.rts], .int .i64 (T + 1)] w fun e w' => e = .returned (.int .i64 (Y + N)) ∧ Below w.heap.size w w' from (bound_any r (T + 1) w HO.out).mono fun e w' h => ⟨by rw [h.1, HS1.out], h.2⟩))
          repeat (any_goals (first | go_big_quiet_step (first
            | (go_at_call 13; with_reducible exact Calls.regrown_of (BW.out _))
            | (go_at_call 14; with_reducible exact Calls.regrown_of (B1.out _))
            | (go_at_call 14; with_reducible exact Calls.regrown_of (B2.out _))
            | (go_at_call 14; with_reducible exact Calls.regrown_of (B3.out _))) | quiet_step (fail)))
          refine wpQuiet_nil ?_
          intro w9 hw9
          have hb9 : Below W8.heap.size W8 w9 := by obtain ⟨p, rfl⟩ := hw9; exact below_regrown _ _ _
          clear hw9
          go_wp2_with fail
          go_meet
          exact ⟨rfl, hb9⟩
      case rest =>
        as_aux_lemma =>
          obtain ⟨rfl, hb9⟩ := hcut
          have BA := Lib.hid (fun w => awake_any w)
          have HF9 := Lib.hid (HF8'.out.below hb9)
          have HB9 := Lib.hid (Below.step HB8'.out hb9)
          clear hb9 HX8 HF8 HB8 HF8' HB8' HXO HXY2 hxB
          obtain ⟨W9, hW9⟩ : ∃ W9, W9 = wc := ⟨_, rfl⟩
          rw [← hW9] at HF9 HB9 ⊢
          clear hW9
          have BW := Lib.hid (fun w => (show Calls Try.prog 13 #[.agg #[.int .i64 r.d, .int .i64 r.ht, .int .u32 r.hg, .int .u8 r.hr, .string r.key, .string r.val, .string r.old, .int .i64 r.lim, .int .i64 r.ten, .int .u64 r.qk, .int .u64 r.qb, .int .u8 r.rts]] w fun e w' => e = .returned (.int .i64 (N)) ∧ Below w.heap.size w w' from (way_any r w HO.out).mono fun e w' h => ⟨by rw [h.1, HN.out], h.2⟩))
          have BB := Lib.hid (fun w => (show Calls Try.prog 14 #[.agg #[.int .i64 r.d, .int .i64 r.ht, .int .u32 r.hg, .int .u8 r.hr, .string r.key, .string r.val, .string r.old, .int .i64 r.lim, .int .i64 r.ten, .int .u64 r.qk, .int .u64 r.qb, .int .u8 r.rts], .int .i64 T] w fun e w' => e = .returned (.int .i64 (Y)) ∧ Below w.heap.size w w' from (bound_any r T w HO.out).mono fun e w' h => ⟨by rw [h.1, HY.out], h.2⟩))
          have c4 := (req_cells HF9.out).2.2.2.2.1
          have hkl := HO.out.key
          unfold maxLen at hkl
          go_upto_if 93 with fail
          clear c4
          go_cut [] (fun wx => AtR r w.heap.size w wx)
          case first =>
            as_aux_lemma =>
              obtain ⟨xl, hxl⟩ : ∃ xl : Req, xl = ⟨r.d, r.ht, r.hg, r.hr, r.key ++ ⟨#[97]⟩, r.val, r.old, r.lim, r.ten, r.qk, r.qb, r.rts⟩ := ⟨_, rfl⟩
              obtain ⟨c0, c1, c2, c3, c4, c5, c6, c7, c8, c9, c10, c11⟩ := req_cells HF9.out
              by_cases hk : r.key.size < 16
              · by_cases h5 : r.d = 5
                · have q5 : ((r.d : Int) == 5) = true := by simp [h5]
                  have HW5 : Hid (wayN xl = wayN r + 0) := by
                    show _ = _
                    have hw := (way_longer r xl HB.out hk (by rw [hxl]) (by rw [hxl]) (by rw [hxl]) (by rw [hxl]) (by rw [hxl])).2
                    rw [if_pos h5] at hw
                    omega
                  have HXK : Hid xl.Ok := by rw [hxl]; exact ⟨by show (r.key ++ ⟨#[97]⟩).size ≤ maxLen; rw [append_size]; exact Nat.le_trans (show r.key.size + 1 ≤ 17 by omega) (by decide), HO.out.val, HO.out.old, HO.out.d, HO.out.lim⟩
                  have BL := Lib.hid (fun w => (show Calls Try.prog 13 #[.agg #[.int .i64 r.d, .int .i64 r.ht, .int .u32 r.hg, .int .u8 r.hr, .string (r.key ++ ⟨#[97]⟩), .string r.val, .string r.old, .int .i64 r.lim, .int .i64 r.ten, .int .u64 r.qk, .int .u64 r.qb, .int .u8 r.rts]] w fun e w' => e = .returned (.int .i64 (N)) ∧ Below w.heap.size w w' from (by have h := way_any xl w HXK.out; rw [hxl] at h; refine h.mono fun e w' h => ⟨?_, h.2⟩; rw [h.1, ← hxl, HW5.out, ← HN.out]; rfl)))
                  have e1 : N + 4 - N = 4 := by omega
                  have e2 : (⟨#[97]⟩ : ByteArray).size = 1 := rfl
                  have l9 : w.heap.size < W9.heap.size := HF9.out.lt
                  clear HW5 HXK hxl h5
                  go_wp2_with fail
                  obtain ⟨WL, hWL⟩ : ∃ WL, WL = W9.alloc (.cells #[.int .i64 r.d, .int .i64 r.ht, .int .u32 r.hg, .int .u8 r.hr, .string (r.key ++ ⟨#[97]⟩), .string r.val, .string r.old, .int .i64 r.lim, .int .i64 r.ten, .int .u64 r.qk, .int .u64 r.qb, .int .u8 r.rts] 31) := ⟨_, rfl⟩
                  rw [← hWL]
                  have FL : Fresh WL W9.heap.size (Req.cells ⟨r.d, r.ht, r.hg, r.hr, r.key ++ ⟨#[97]⟩, r.val, r.old, r.lim, r.ten, r.qk, r.qb, r.rts⟩) 31 := by rw [hWL]; exact fresh_req W9 ⟨r.d, r.ht, r.hg, r.hr, r.key ++ ⟨#[97]⟩, r.val, r.old, r.lim, r.ten, r.qk, r.qb, r.rts⟩ _ rfl
                  have HFL : Hid (Fresh WL w.heap.size (Req.cells r) 31) := by show Fresh _ _ _ _; rw [hWL]; exact HF9.out.alloc _
                  have HBL : Hid (Below w.heap.size w WL) := by show Below _ _ _; rw [hWL]; exact Below.new HB9.out _
                  clear hWL c0 c1 c2 c3 c4 c5 c6 c7 c8 c9 c10 c11
                  obtain ⟨x0, x1, x2, x3, x4, x5, x6, x7, x8, x9, x10, x11⟩ := req_cells FL
                  obtain ⟨c0, c1, c2, c3, c4, c5, c6, c7, c8, c9, c10, c11⟩ := req_cells HFL.out
                  dsimp only at x0 x1 x2 x3 x4 x5 x6 x7 x8 x9 x10 x11
                  have gx0 := fun d os => cell_regrown x0 d os
                  have gx1 := fun d os => cell_regrown x1 d os
                  have gx2 := fun d os => cell_regrown x2 d os
                  have gx3 := fun d os => cell_regrown x3 d os
                  have gx4 := fun d os => cell_regrown x4 d os
                  have gx5 := fun d os => cell_regrown x5 d os
                  have gx6 := fun d os => cell_regrown x6 d os
                  have gx7 := fun d os => cell_regrown x7 d os
                  have gx8 := fun d os => cell_regrown x8 d os
                  have gx9 := fun d os => cell_regrown x9 d os
                  have gx10 := fun d os => cell_regrown x10 d os
                  have gx11 := fun d os => cell_regrown x11 d os
                  have gc0 := fun d os => cell_regrown c0 d os
                  have gc1 := fun d os => cell_regrown c1 d os
                  have gc2 := fun d os => cell_regrown c2 d os
                  have gc3 := fun d os => cell_regrown c3 d os
                  have gc4 := fun d os => cell_regrown c4 d os
                  have gc5 := fun d os => cell_regrown c5 d os
                  have gc6 := fun d os => cell_regrown c6 d os
                  have gc7 := fun d os => cell_regrown c7 d os
                  have gc8 := fun d os => cell_regrown c8 d os
                  have gc9 := fun d os => cell_regrown c9 d os
                  have gc10 := fun d os => cell_regrown c10 d os
                  have gc11 := fun d os => cell_regrown c11 d os
                  refine wp_region_quiet_below (by kernel_rfl) (by kernel_rfl) ?_
                  repeat (any_goals (first | go_big_quiet_step (first
                    | (go_at_call 13; with_reducible exact Calls.regrown_of (BL.out _))
                    | (go_at_call 13; with_reducible exact Calls.regrown_of (BW.out _))) | quiet_step (fail)))
                  refine wpQuiet_nil ?_
                  intro w10 hw10
                  have hb10 : Below WL.heap.size WL w10 := by obtain ⟨p, rfl⟩ := hw10; exact below_regrown _ _ _
                  clear hw10
                  go_wp2_with fail
                  go_meet
                  exact ⟨HFL.out.below hb10, Below.step HBL.out hb10⟩
                · have q5 : ((r.d : Int) == 5) = false := by simp [h5]
                  have HW5 : Hid (wayN xl = wayN r + 4) := by
                    show _ = _
                    have hw := (way_longer r xl HB.out hk (by rw [hxl]) (by rw [hxl]) (by rw [hxl]) (by rw [hxl]) (by rw [hxl])).2
                    rw [if_neg h5] at hw
                    omega
                  have HXK : Hid xl.Ok := by rw [hxl]; exact ⟨by show (r.key ++ ⟨#[97]⟩).size ≤ maxLen; rw [append_size]; exact Nat.le_trans (show r.key.size + 1 ≤ 17 by omega) (by decide), HO.out.val, HO.out.old, HO.out.d, HO.out.lim⟩
                  have BL := Lib.hid (fun w => (show Calls Try.prog 13 #[.agg #[.int .i64 r.d, .int .i64 r.ht, .int .u32 r.hg, .int .u8 r.hr, .string (r.key ++ ⟨#[97]⟩), .string r.val, .string r.old, .int .i64 r.lim, .int .i64 r.ten, .int .u64 r.qk, .int .u64 r.qb, .int .u8 r.rts]] w fun e w' => e = .returned (.int .i64 (N + 4)) ∧ Below w.heap.size w w' from (by have h := way_any xl w HXK.out; rw [hxl] at h; refine h.mono fun e w' h => ⟨?_, h.2⟩; rw [h.1, ← hxl, HW5.out, ← HN.out]; rfl)))
                  have e1 : N + 4 - N = 4 := by omega
                  have e2 : (⟨#[97]⟩ : ByteArray).size = 1 := rfl
                  have l9 : w.heap.size < W9.heap.size := HF9.out.lt
                  clear HW5 HXK hxl h5
                  go_wp2_with fail
                  obtain ⟨WL, hWL⟩ : ∃ WL, WL = W9.alloc (.cells #[.int .i64 r.d, .int .i64 r.ht, .int .u32 r.hg, .int .u8 r.hr, .string (r.key ++ ⟨#[97]⟩), .string r.val, .string r.old, .int .i64 r.lim, .int .i64 r.ten, .int .u64 r.qk, .int .u64 r.qb, .int .u8 r.rts] 31) := ⟨_, rfl⟩
                  rw [← hWL]
                  have FL : Fresh WL W9.heap.size (Req.cells ⟨r.d, r.ht, r.hg, r.hr, r.key ++ ⟨#[97]⟩, r.val, r.old, r.lim, r.ten, r.qk, r.qb, r.rts⟩) 31 := by rw [hWL]; exact fresh_req W9 ⟨r.d, r.ht, r.hg, r.hr, r.key ++ ⟨#[97]⟩, r.val, r.old, r.lim, r.ten, r.qk, r.qb, r.rts⟩ _ rfl
                  have HFL : Hid (Fresh WL w.heap.size (Req.cells r) 31) := by show Fresh _ _ _ _; rw [hWL]; exact HF9.out.alloc _
                  have HBL : Hid (Below w.heap.size w WL) := by show Below _ _ _; rw [hWL]; exact Below.new HB9.out _
                  clear hWL c0 c1 c2 c3 c4 c5 c6 c7 c8 c9 c10 c11
                  obtain ⟨x0, x1, x2, x3, x4, x5, x6, x7, x8, x9, x10, x11⟩ := req_cells FL
                  obtain ⟨c0, c1, c2, c3, c4, c5, c6, c7, c8, c9, c10, c11⟩ := req_cells HFL.out
                  dsimp only at x0 x1 x2 x3 x4 x5 x6 x7 x8 x9 x10 x11
                  have gx0 := fun d os => cell_regrown x0 d os
                  have gx1 := fun d os => cell_regrown x1 d os
                  have gx2 := fun d os => cell_regrown x2 d os
                  have gx3 := fun d os => cell_regrown x3 d os
                  have gx4 := fun d os => cell_regrown x4 d os
                  have gx5 := fun d os => cell_regrown x5 d os
                  have gx6 := fun d os => cell_regrown x6 d os
                  have gx7 := fun d os => cell_regrown x7 d os
                  have gx8 := fun d os => cell_regrown x8 d os
                  have gx9 := fun d os => cell_regrown x9 d os
                  have gx10 := fun d os => cell_regrown x10 d os
                  have gx11 := fun d os => cell_regrown x11 d os
                  have gc0 := fun d os => cell_regrown c0 d os
                  have gc1 := fun d os => cell_regrown c1 d os
                  have gc2 := fun d os => cell_regrown c2 d os
                  have gc3 := fun d os => cell_regrown c3 d os
                  have gc4 := fun d os => cell_regrown c4 d os
                  have gc5 := fun d os => cell_regrown c5 d os
                  have gc6 := fun d os => cell_regrown c6 d os
                  have gc7 := fun d os => cell_regrown c7 d os
                  have gc8 := fun d os => cell_regrown c8 d os
                  have gc9 := fun d os => cell_regrown c9 d os
                  have gc10 := fun d os => cell_regrown c10 d os
                  have gc11 := fun d os => cell_regrown c11 d os
                  refine wp_region_quiet_below (by kernel_rfl) (by kernel_rfl) ?_
                  repeat (any_goals (first | go_big_quiet_step (first
                    | (go_at_call 13; with_reducible exact Calls.regrown_of (BL.out _))
                    | (go_at_call 13; with_reducible exact Calls.regrown_of (BW.out _))) | quiet_step (fail)))
                  refine wpQuiet_nil ?_
                  intro w10 hw10
                  have hb10 : Below WL.heap.size WL w10 := by obtain ⟨p, rfl⟩ := hw10; exact below_regrown _ _ _
                  clear hw10
                  go_wp2_with fail
                  go_meet
                  exact ⟨HFL.out.below hb10, Below.step HBL.out hb10⟩
              · go_wp2_with fail
                go_meet
                exact ⟨HF9.out, HB9.out⟩
          case rest =>
            as_aux_lemma =>
              obtain ⟨HF10, HB10⟩ := hcut
              clear HF9 HB9 hkl
              replace HF10 := Lib.hid HF10
              replace HB10 := Lib.hid HB10
              obtain ⟨V, hV⟩ : ∃ V, V = wc := ⟨_, rfl⟩
              rw [← hV] at HF10 HB10 ⊢
              clear hV
              have c0 := (req_cells HF10.out).1
              have c7 := (req_cells HF10.out).2.2.2.2.2.2.2.1
              go_upto_region 18 with fail
              go_cut [116] (fun c wx => c = .bool (decide (r.d = 5 ∧ r.lim < 4096)) ∧ wx = V)
              case first =>
                as_aux_lemma =>
                  by_cases h5 : r.d = 5
                  · have q5 : ((r.d : Int) == 5) = true := by simp [h5]
                    have HD : Hid (decide (r.d = 5 ∧ r.lim < 4096) = decide (r.lim < 4096)) := by show _ = _; simp [h5]
                    clear h5
                    go_wp2_with fail
                    go_meet
                    exact ⟨by rw [HD.out], rfl⟩
                  · have q5 : ((r.d : Int) == 5) = false := by simp [h5]
                    have HD : Hid (decide (r.d = 5 ∧ r.lim < 4096) = false) := by show _ = _; simp [h5]
                    clear h5
                    go_wp2_with fail
                    go_meet
                    exact ⟨by rw [HD.out], rfl⟩
              case rest =>
                as_aux_lemma =>
                  obtain ⟨hc, hV2⟩ := hcut
                  subst hc
                  rw [hV2]
                  clear hV2 c0 c7
                  go_upto_if 116 with fail
                  go_cut [] (fun wx => AtR r w.heap.size w wx)
                  case first =>
                    as_aux_lemma =>
                      by_cases hm : r.d = 5 ∧ r.lim < 4096
                      · as_aux_lemma =>
                          have q : decide (r.d = 5 ∧ r.lim < 4096) = true := decide_eq_true hm
                          have hl0 : 0 ≤ r.lim := (((isB_of r).1 HB.out).2.1 hm.1).1
                          have hl1 : r.lim < 4096 := hm.2
                          obtain ⟨xm, hxm⟩ : ∃ xm : Req, xm = ⟨r.d, r.ht, r.hg, r.hr, r.key, r.val, r.old, r.lim + 1, r.ten, r.qk, r.qb, r.rts⟩ := ⟨_, rfl⟩
                          have hbm := (bound_more r xm T HB.out hm.1 hm.2 ⟨T1, T2⟩ (by rw [hxm]) (by rw [hxm]) (by rw [hxm]) (by rw [hxm]) (by rw [hxm])).2
                          rw [HY.out] at hbm
                          have HXK : Hid xm.Ok := by rw [hxm]; exact ⟨HO.out.key, HO.out.val, HO.out.old, HO.out.d, by show -9223372036854775808 ≤ r.lim + 1 ∧ r.lim + 1 ≤ 9223372036854775807; omega⟩
                          obtain ⟨YM, hYM⟩ : ∃ YM, boundZ xm T = YM := ⟨_, rfl⟩
                          rw [hYM] at hbm
                          have BM := Lib.hid (fun w => (show Calls Try.prog 14 #[.agg #[.int .i64 r.d, .int .i64 r.ht, .int .u32 r.hg, .int .u8 r.hr, .string r.key, .string r.val, .string r.old, .int .i64 (r.lim + 1), .int .i64 r.ten, .int .u64 r.qk, .int .u64 r.qb, .int .u8 r.rts], .int .i64 T] w fun e w' => e = .returned (.int .i64 (YM)) ∧ Below w.heap.size w w' from (by have h := bound_any xm T w HXK.out; rw [hYM, hxm] at h; exact h)))
                          have q2 : decide (YM ≤ Y) = false := decide_eq_false (by omega)
                          clear hm hxm hYM hbm HXK
                          rw [q]
                          clear q
                          have l10 : w.heap.size < V.heap.size := HF10.out.lt
                          obtain ⟨c0, c1, c2, c3, c4, c5, c6, c7, c8, c9, c10, c11⟩ := req_cells HF10.out
                          go_wp2_with fail
                          obtain ⟨WL, hWL⟩ : ∃ WL, WL = V.alloc (.cells #[.int .i64 r.d, .int .i64 r.ht, .int .u32 r.hg, .int .u8 r.hr, .string r.key, .string r.val, .string r.old, .int .i64 (r.lim + 1), .int .i64 r.ten, .int .u64 r.qk, .int .u64 r.qb, .int .u8 r.rts] 31) := ⟨_, rfl⟩
                          rw [← hWL]
                          have FL : Fresh WL V.heap.size (Req.cells ⟨r.d, r.ht, r.hg, r.hr, r.key, r.val, r.old, r.lim + 1, r.ten, r.qk, r.qb, r.rts⟩) 31 := by rw [hWL]; exact fresh_req V ⟨r.d, r.ht, r.hg, r.hr, r.key, r.val, r.old, r.lim + 1, r.ten, r.qk, r.qb, r.rts⟩ _ rfl
                          have HFL : Hid (Fresh WL w.heap.size (Req.cells r) 31) := by show Fresh _ _ _ _; rw [hWL]; exact HF10.out.alloc _
                          have HBL : Hid (Below w.heap.size w WL) := by show Below _ _ _; rw [hWL]; exact Below.new HB10.out _
                          clear hWL c0 c1 c2 c3 c4 c5 c6 c7 c8 c9 c10 c11
                          obtain ⟨x0, x1, x2, x3, x4, x5, x6, x7, x8, x9, x10, x11⟩ := req_cells FL
                          obtain ⟨c0, c1, c2, c3, c4, c5, c6, c7, c8, c9, c10, c11⟩ := req_cells HFL.out
                          dsimp only at x0 x1 x2 x3 x4 x5 x6 x7 x8 x9 x10 x11
                          have gx0 := fun d os => cell_regrown x0 d os
                          have gx1 := fun d os => cell_regrown x1 d os
                          have gx2 := fun d os => cell_regrown x2 d os
                          have gx3 := fun d os => cell_regrown x3 d os
                          have gx4 := fun d os => cell_regrown x4 d os
                          have gx5 := fun d os => cell_regrown x5 d os
                          have gx6 := fun d os => cell_regrown x6 d os
                          have gx7 := fun d os => cell_regrown x7 d os
                          have gx8 := fun d os => cell_regrown x8 d os
                          have gx9 := fun d os => cell_regrown x9 d os
                          have gx10 := fun d os => cell_regrown x10 d os
                          have gx11 := fun d os => cell_regrown x11 d os
                          have gc0 := fun d os => cell_regrown c0 d os
                          have gc1 := fun d os => cell_regrown c1 d os
                          have gc2 := fun d os => cell_regrown c2 d os
                          have gc3 := fun d os => cell_regrown c3 d os
                          have gc4 := fun d os => cell_regrown c4 d os
                          have gc5 := fun d os => cell_regrown c5 d os
                          have gc6 := fun d os => cell_regrown c6 d os
                          have gc7 := fun d os => cell_regrown c7 d os
                          have gc8 := fun d os => cell_regrown c8 d os
                          have gc9 := fun d os => cell_regrown c9 d os
                          have gc10 := fun d os => cell_regrown c10 d os
                          have gc11 := fun d os => cell_regrown c11 d os
                          refine wp_region_quiet_below (by kernel_rfl) (by kernel_rfl) ?_
                          repeat (any_goals (first | go_big_quiet_step (first
                            | (go_at_call 14; with_reducible exact Calls.regrown_of (BM.out _))
                            | (go_at_call 14; with_reducible exact Calls.regrown_of (BB.out _))) | quiet_step (fail)))
                          refine wpQuiet_nil ?_
                          intro w10 hw10
                          have hb10 : Below WL.heap.size WL w10 := by obtain ⟨p, rfl⟩ := hw10; exact below_regrown _ _ _
                          clear hw10
                          go_wp2_with fail
                          go_meet
                          exact ⟨HFL.out.below hb10, Below.step HBL.out hb10⟩
                      · as_aux_lemma =>
                          have q : decide (r.d = 5 ∧ r.lim < 4096) = false := decide_eq_false hm
                          rw [q]
                          clear hm q
                          go_wp2_with fail
                          go_meet
                          exact ⟨HF10.out, HB10.out⟩
                  case rest =>
                    as_aux_lemma =>
                      obtain ⟨HF11, HB11⟩ := hcut
                      clear HF10 HB10
                      replace HF11 := Lib.hid HF11
                      replace HB11 := Lib.hid HB11
                      obtain ⟨U, hU⟩ : ∃ U, U = wc := ⟨_, rfl⟩
                      rw [← hU] at HF11 HB11 ⊢
                      clear hU
                      obtain ⟨K, hK⟩ : ∃ K, enoughZ r T M = K := ⟨_, rfl⟩
                      have HK := Lib.hid hK
                      obtain ⟨c0, c1, c2, c3, c4, c5, c6, c7, c8, c9, c10, c11⟩ := req_cells HF11.out
                      have zz := fun h => enough_zero r T M HB.out ⟨T1, T2⟩ ⟨M1, M2⟩ h
                      have zl := fun h => enough_least r T M HB.out ⟨T1, T2⟩ ⟨M1, M2⟩ h
                      rw [hK, HY.out] at zz zl
                      have HZ0 := Lib.hid zz
                      have HZL := Lib.hid zl
                      clear zz zl hK
                      go_wp2_with fail
                      refine (enough_any r T M _ HO.out).mono ?_
                      rw [HK.out]
                      rintro e U1 ⟨rfl, hb1⟩
                      have HF12 := Lib.hid (HF11.out.below hb1)
                      have HB12 := Lib.hid (Below.step HB11.out hb1)
                      clear hb1 c0 c1 c2 c3 c4 c5 c6 c7 c8 c9 c10 c11
                      have kY : IntKind.i64.wrap (Y + M) = Y + M := IntWalk.i64_in _ (by omega)
                      by_cases hK0 : K = 0
                      · as_aux_lemma =>
                          have hp := HZ0.out hK0
                          obtain ⟨Q, hQ⟩ : ∃ Q, picksZ r 4096 = Q := ⟨_, rfl⟩
                          rw [hQ] at hp
                          have HQ := Lib.hid hQ
                          have kq : decide (Q ≤ Y + M) = true := decide_eq_true hp
                          subst hK0
                          clear hQ hp
                          have BP := Lib.hid (fun w => (show Calls Try.prog 16 #[.agg #[.int .i64 r.d, .int .i64 r.ht, .int .u32 r.hg, .int .u8 r.hr, .string r.key, .string r.val, .string r.old, .int .i64 r.lim, .int .i64 r.ten, .int .u64 r.qk, .int .u64 r.qb, .int .u8 r.rts], .int .i64 4096] w fun e w' => e = .returned (.int .i64 (Q)) ∧ Below w.heap.size w w' from (picks_any r 4096 w).mono fun e w' h => ⟨by rw [h.1, HQ.out], h.2⟩))
                          obtain ⟨c0, c1, c2, c3, c4, c5, c6, c7, c8, c9, c10, c11⟩ := req_cells HF12.out
                          have gc0 := fun d os => cell_regrown c0 d os
                          have gc1 := fun d os => cell_regrown c1 d os
                          have gc2 := fun d os => cell_regrown c2 d os
                          have gc3 := fun d os => cell_regrown c3 d os
                          have gc4 := fun d os => cell_regrown c4 d os
                          have gc5 := fun d os => cell_regrown c5 d os
                          have gc6 := fun d os => cell_regrown c6 d os
                          have gc7 := fun d os => cell_regrown c7 d os
                          have gc8 := fun d os => cell_regrown c8 d os
                          have gc9 := fun d os => cell_regrown c9 d os
                          have gc10 := fun d os => cell_regrown c10 d os
                          have gc11 := fun d os => cell_regrown c11 d os
                          go_wp2_with fail
                          refine wp_region_quiet_below (by kernel_rfl) (by kernel_rfl) ?_
                          repeat (any_goals (first | go_big_quiet_step (first
                            | (go_at_call 16; with_reducible exact Calls.regrown_of (BP.out _))
                            | (go_at_call 14; with_reducible exact Calls.regrown_of (BB.out _))
                            | (go_at_call 8; with_reducible exact Calls.regrown_of (BA.out _))) | quiet_step (fail)))
                          refine wpQuiet_nil ?_
                          intro w13 hw13
                          have hb13 : Below U1.heap.size U1 w13 := by obtain ⟨p, rfl⟩ := hw13; exact below_regrown _ _ _
                          clear hw13
                          go_wp2_with fail
                          go_ret
                          exact ⟨rfl, Below.step HB12.out hb13⟩
                      · as_aux_lemma =>
                          obtain ⟨l1, l2, l3, l4, l5, l6⟩ := HZL.out hK0
                          obtain ⟨K2, hK2⟩ : ∃ K2, enoughZ r (T / 2) (M / 2) = K2 := ⟨_, rfl⟩
                          rw [hK2] at l5 l6
                          have HK2 := Lib.hid hK2
                          obtain ⟨Q, hQ⟩ : ∃ Q, picksZ r K = Q := ⟨_, rfl⟩
                          obtain ⟨Q1, hQ1⟩ : ∃ Q1, picksZ r (K - 1) = Q1 := ⟨_, rfl⟩
                          rw [hQ] at l3
                          rw [hQ1] at l4
                          have HQ := Lib.hid hQ
                          have HQ1 := Lib.hid hQ1
                          have HL4 := Lib.hid l4
                          have q0 : ((K : Int) == 0) = false := by simp; omega
                          have q1 : decide (2 ≤ K) = true := decide_eq_true l1
                          have q2 : decide (K ≤ 4096) = true := decide_eq_true l2
                          have q3 : decide (Y + M < Q) = true := decide_eq_true l3
                          have q5 : decide (2 ≤ K2) = true := decide_eq_true l5
                          have q6 : decide (K2 ≤ K) = true := decide_eq_true l6
                          have kK : IntKind.i64.wrap (K - 1) = K - 1 := IntWalk.i64_in _ (by omega)
                          clear hK2 hQ hQ1 l4 hK0
                          have BP := Lib.hid (fun w => (show Calls Try.prog 16 #[.agg #[.int .i64 r.d, .int .i64 r.ht, .int .u32 r.hg, .int .u8 r.hr, .string r.key, .string r.val, .string r.old, .int .i64 r.lim, .int .i64 r.ten, .int .u64 r.qk, .int .u64 r.qb, .int .u8 r.rts], .int .i64 K] w fun e w' => e = .returned (.int .i64 (Q)) ∧ Below w.heap.size w w' from (picks_any r K w).mono fun e w' h => ⟨by rw [h.1, HQ.out], h.2⟩))
                          have BP1 := Lib.hid (fun w => (show Calls Try.prog 16 #[.agg #[.int .i64 r.d, .int .i64 r.ht, .int .u32 r.hg, .int .u8 r.hr, .string r.key, .string r.val, .string r.old, .int .i64 r.lim, .int .i64 r.ten, .int .u64 r.qk, .int .u64 r.qb, .int .u8 r.rts], .int .i64 (K - 1)] w fun e w' => e = .returned (.int .i64 (Q1)) ∧ Below w.heap.size w w' from (picks_any r (K - 1) w).mono fun e w' h => ⟨by rw [h.1, HQ1.out], h.2⟩))
                          obtain ⟨c0, c1, c2, c3, c4, c5, c6, c7, c8, c9, c10, c11⟩ := req_cells HF12.out
                          go_wp2_with fail
                          refine (enough_any r (T / 2) (M / 2) _ HO.out).mono ?_
                          rw [HK2.out]
                          rintro e U2 ⟨rfl, hb2⟩
                          have HF13 := Lib.hid (HF12.out.below hb2)
                          have HB13 := Lib.hid (Below.step HB12.out hb2)
                          clear hb2 c0 c1 c2 c3 c4 c5 c6 c7 c8 c9 c10 c11
                          obtain ⟨c0, c1, c2, c3, c4, c5, c6, c7, c8, c9, c10, c11⟩ := req_cells HF13.out
                          have gc0 := fun d os => cell_regrown c0 d os
                          have gc1 := fun d os => cell_regrown c1 d os
                          have gc2 := fun d os => cell_regrown c2 d os
                          have gc3 := fun d os => cell_regrown c3 d os
                          have gc4 := fun d os => cell_regrown c4 d os
                          have gc5 := fun d os => cell_regrown c5 d os
                          have gc6 := fun d os => cell_regrown c6 d os
                          have gc7 := fun d os => cell_regrown c7 d os
                          have gc8 := fun d os => cell_regrown c8 d os
                          have gc9 := fun d os => cell_regrown c9 d os
                          have gc10 := fun d os => cell_regrown c10 d os
                          have gc11 := fun d os => cell_regrown c11 d os
                          go_wp2_with fail
                          by_cases hK2 : K = 2
                          · as_aux_lemma =>
                              have qk : ((K : Int) == 2) = true := by simp; omega
                              clear hK2
                              refine wp_region_quiet_below (by kernel_rfl) (by kernel_rfl) ?_
                              repeat (any_goals (first | go_big_quiet_step (first
                                | (go_at_call 16; with_reducible exact Calls.regrown_of (BP.out _))
                                | (go_at_call 16; with_reducible exact Calls.regrown_of (BP1.out _))
                                | (go_at_call 14; with_reducible exact Calls.regrown_of (BB.out _))
                                | (go_at_call 8; with_reducible exact Calls.regrown_of (BA.out _))) | quiet_step (fail)))
                              refine wpQuiet_nil ?_
                              intro w13 hw13
                              have hb13 : Below U2.heap.size U2 w13 := by obtain ⟨p, rfl⟩ := hw13; exact below_regrown _ _ _
                              clear hw13
                              go_wp2_with fail
                              go_ret
                              exact ⟨rfl, Below.step HB13.out hb13⟩
                          · as_aux_lemma =>
                              have qk : ((K : Int) == 2) = false := by simp; omega
                              have q4 : decide (Q1 ≤ Y + M) = true := decide_eq_true (HL4.out hK2)
                              clear hK2
                              refine wp_region_quiet_below (by kernel_rfl) (by kernel_rfl) ?_
                              repeat (any_goals (first | go_big_quiet_step (first
                                | (go_at_call 16; with_reducible exact Calls.regrown_of (BP.out _))
                                | (go_at_call 16; with_reducible exact Calls.regrown_of (BP1.out _))
                                | (go_at_call 14; with_reducible exact Calls.regrown_of (BB.out _))
                                | (go_at_call 8; with_reducible exact Calls.regrown_of (BA.out _))) | quiet_step (fail)))
                              refine wpQuiet_nil ?_
                              intro w13 hw13
                              have hb13 : Below U2.heap.size U2 w13 := by obtain ⟨p, rfl⟩ := hw13; exact below_regrown _ _ _
                              clear hw13
                              go_wp2_with fail
                              go_ret
                              exact ⟨rfl, Below.step HB13.out hb13⟩

end Go.Proofs.Ytjlfgmjcmicoaaa
