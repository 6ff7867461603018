/- does: the same on both. -/
import Derived.Test.YtbbadkgmnfjfaaaDoesK
import Derived.Deep.DeepCutAuto
import Derived.Laws.AppendOwn
import Derived.Deep.QuietTactic
import Derived.BigQuiet
import Derived.Deep.CutBlock
import Derived.BigRegion
import Derived.Deep.RegionHeld3
namespace Go.Proofs.Ytbbadkgmnfjfaaa
open Go.RowKit
set_option maxRecDepth 100000
set_option maxHeartbeats 8000000

theorem calm_ret {F : Fence} {n : Nat} {P : Program} {fn : Func} {R : Ending → World → Prop} {a : Act} {w : World} {v : Value} (hd : a.defers = []) (hr : (results fn a.tmps).run P w = .ok v w) (h : R (.returned v) w) : calmQ (bodyPostM F n P fn R) .ret a w := by
  show LeavesInM F n P fn a.tmps R a.defers .returning w
  rw [hd]
  exact ⟨v, hr, h⟩
theorem St.drewN {B : Nat} {W : World} {p a g r gr : Nat} {s : Sb} {N b : Nat} {vt : Value} {T : List Rf} (h : St B W p a g r gr s N b vt T) (m : Nat) : St B (W.drewN m) p a g r gr s N b vt T := ⟨⟨h.sl.hp, h.sl.ha, h.sl.hg⟩, ⟨h.rf.hr, h.rf.hg⟩, h.wf, h.nt, row_keep h.row (fun _ _ => rfl), h.lo⟩
theorem bel_drewN {n : Nat} {w w' : World} (h : Below n w w') (m : Nat) : Below n w (w'.drewN m) := ⟨h.os, h.tape, h.output, h.size, h.block⟩
theorem callsIn_round {n l : Nat} {P : Program} {f : FuncId} {args : Array Value} {w : World} {R : Ending → World → Prop} (h : Calls P f args w R) : CallsIn (Fence.wide.inRound l) n P f args w R := ⟨trivial, fun cs _ => ((callsIn_wide (n := n)).2 h).2 cs (room_wide _)⟩
theorem calm_ret1 {F : Fence} {n : Nat} {P : Program} {fn : Func} {R : Ending → World → Prop} {a : Act} {w : World} {v : Value} {D : Nat} (hd : a.defers = [{ target := .collected D, args := #[] }]) (hD : w.heap[D]? = some (.deferred (some []))) (hr : (results fn a.tmps).run P (w.putObj D (.deferred none)) = .ok v (w.putObj D (.deferred none))) (h : R (.returned v) (w.putObj D (.deferred none))) : calmQ (bodyPostM F n P fn R) .ret a w := by
  show LeavesInM F n P fn a.tmps R a.defers .returning w
  rw [hd]
  exact ⟨by simp, .inl ⟨_, _, rfl, run_takeDeferred hD, v, hr, h⟩⟩
attribute [local go_sem] Oper.semAt_some
theorem St.drew {B : Nat} {W : World} {p a g r gr : Nat} {s : Sb} {N b : Nat} {vt : Value} {T : List Rf} (h : St B W p a g r gr s N b vt T) : St B W.drew p a g r gr s N b vt T := ⟨h.sl.drew, h.rf.drew, h.wf, h.nt, h.row.drew, h.lo⟩
theorem does_any {B : Nat} {W : World} {p a g r gr : Nat} {s : Sb} {N b : Nat} {vt : Value} {T : List Rf} (hS : St B W p a g r gr s N b vt T) (hN : N ≤ 4096) (hb : b < 100000) (hT : T.length ≤ b) (hB : B ≤ W.heap.size) (d : Dd) (hd : d.ok) :
    Calls Try.prog 10 #[.pointer (some ⟨p, 0, none⟩), .pointer (some ⟨r, 0, none⟩), .agg #[.int .i64 d.c, .int .i64 d.n, .int .i64 d.x, .int .i64 d.s, .int .u32 d.g], vt] W (DoesP B r gr N b W) := by
  obtain ⟨ao, cap, rfl⟩ := row_form hS.row
  obtain ⟨tl, htl⟩ : ∃ tl, T.length = tl := ⟨_, rfl⟩
  have HTL := Lib.hid htl
  have HS := Lib.hid hS
  have HN := Lib.hid hN
  have HB := Lib.hid hB
  have HD := Lib.hid hd
  rw [htl] at hT ⊢
  have t0 : (0 : Int) ≤ (tl : Int) := Int.natCast_nonneg _
  have t9 : (tl : Int) < 1000000 := by omega
  clear hS htl hN hB hd
  refine (callsIn_wide (n := 10)).1 ?_
  refine callsIn_of_wp_marks Try.func10 rfl trivial ?_ rfl
  simp only [Try.ntmps10, List.size_toArray, List.length_cons, List.length_nil, Nat.reduceAdd, Nat.reduceSub, Array.replicate_succ, Array.replicate_zero, List.push_toArray, List.append_toArray, List.nil_append, List.cons_append]
  refine wpIn_wide.2 ?_
  refine wp_mono (Q := calmQ _) ?_ calmQ_out
  go_upto_region 2 with fail
  go_cut [36] from 24 to 36 (fun v wx => v = .bool (decide (0 < tl ∧ (d.c = 4 ∨ d.c = 5))) ∧ wx = (((W.alloc (.cells #[.pointer (some ⟨p, 0, none⟩)] 24)).alloc (.cells #[.int .i64 d.c, .int .i64 d.n, .int .i64 d.x, .int .i64 d.s, .int .u32 d.g] 38)).alloc (.cells #[.int .i64 d.s, .int .u32 d.g] 36)))
  case first =>
    by_cases h0 : 0 < tl
    · have k0 : (0 : Int) < (tl : Int) := by omega
      have k1 : decide ((0 : Int) < (tl : Int)) = true := decide_eq_true k0
      have k1' : decide (0 < tl) = true := decide_eq_true h0
      by_cases h4 : d.c = 4
      · have c4 : decide (d.c = 4) = true := decide_eq_true h4
        have c4' : (d.c == 4) = true := by simpa using h4
        have HR : Hid (decide (0 < tl ∧ (d.c = 4 ∨ d.c = 5)) = true) := by show _ = _; exact decide_eq_true ⟨h0, .inl h4⟩
        clear h4
        go_wp2_with fail
        go_meet
        exact ⟨by rw [HR.out], rfl⟩
      · have c4 : decide (d.c = 4) = false := decide_eq_false h4
        have c4' : (d.c == 4) = false := by simpa using h4
        by_cases h5 : d.c = 5
        · have c5 : decide (d.c = 5) = true := decide_eq_true h5
          have c5' : (d.c == 5) = true := by simpa using h5
          have HR : Hid (decide (0 < tl ∧ (d.c = 4 ∨ d.c = 5)) = true) := by show _ = _; exact decide_eq_true ⟨h0, .inr h5⟩
          clear h4 h5
          go_wp2_with fail
          go_meet
          exact ⟨by rw [HR.out], rfl⟩
        · have c5 : decide (d.c = 5) = false := decide_eq_false h5
          have c5' : (d.c == 5) = false := by simpa using h5
          have HR : Hid (decide (0 < tl ∧ (d.c = 4 ∨ d.c = 5)) = false) := by show _ = _; exact decide_eq_false (fun h => h.2.elim h4 h5)
          clear h4 h5
          go_wp2_with fail
          go_meet
          exact ⟨by rw [HR.out], rfl⟩
    · have HR : Hid (decide (0 < tl ∧ (d.c = 4 ∨ d.c = 5)) = false) := by show _ = _; exact decide_eq_false (fun h => h0 h.1)
      obtain rfl : tl = 0 := by omega
      have k1 : decide ((0 : Int) < ((0 : Nat) : Int)) = false := by decide
      go_wp2_with fail
      go_meet
      exact ⟨by rw [HR.out], rfl⟩
  case rest =>
  obtain ⟨rfl, rfl⟩ := hcut
  obtain ⟨bb, hbb⟩ : ∃ bb, decide (0 < tl ∧ (d.c = 4 ∨ d.c = 5)) = bb := ⟨_, rfl⟩
  rw [hbb]
  have HBB := Lib.hid hbb
  clear hbb
  go_upto_if 36 with fail
  go_cut [11] from 37 to 44 (fun v wx => v = .pointer (some ⟨W.heap.size + 2, 0, none⟩) ∧ ∃ x k : Int, Fresh wx W.heap.size #[.pointer (some ⟨p, 0, none⟩)] 24 ∧ Fresh wx (W.heap.size + 1) #[.int .i64 d.c, .int .i64 d.n, .int .i64 d.x, .int .i64 d.s, .int .u32 d.g] 38 ∧ Fresh wx (W.heap.size + 2) #[.int .i64 x, .int .u32 k] 36 ∧ Below W.heap.size W wx)
  case first =>
    have B3 : Below W.heap.size W (((W.alloc (.cells #[.pointer (some ⟨p, 0, none⟩)] 24)).alloc (.cells #[.int .i64 d.c, .int .i64 d.n, .int .i64 d.x, .int .i64 d.s, .int .u32 d.g] 38)).alloc (.cells #[.int .i64 d.s, .int .u32 d.g] 36)) := Below.new (Below.new (Below.new (Below.refl _ _) _) _) _
    have g0 : Fresh (((W.alloc (.cells #[.pointer (some ⟨p, 0, none⟩)] 24)).alloc (.cells #[.int .i64 d.c, .int .i64 d.n, .int .i64 d.x, .int .i64 d.s, .int .u32 d.g] 38)).alloc (.cells #[.int .i64 d.s, .int .u32 d.g] 36)) W.heap.size #[.pointer (some ⟨p, 0, none⟩)] 24 := ((Fresh.new _ _ _ _ rfl).alloc _).alloc _
    have g1 : Fresh (((W.alloc (.cells #[.pointer (some ⟨p, 0, none⟩)] 24)).alloc (.cells #[.int .i64 d.c, .int .i64 d.n, .int .i64 d.x, .int .i64 d.s, .int .u32 d.g] 38)).alloc (.cells #[.int .i64 d.s, .int .u32 d.g] 36)) (W.heap.size + 1) #[.int .i64 d.c, .int .i64 d.n, .int .i64 d.x, .int .i64 d.s, .int .u32 d.g] 38 := (Fresh.new _ _ _ _ (by simp)).alloc _
    have g2 : Fresh (((W.alloc (.cells #[.pointer (some ⟨p, 0, none⟩)] 24)).alloc (.cells #[.int .i64 d.c, .int .i64 d.n, .int .i64 d.x, .int .i64 d.s, .int .u32 d.g] 38)).alloc (.cells #[.int .i64 d.s, .int .u32 d.g] 36)) (W.heap.size + 2) #[.int .i64 d.s, .int .u32 d.g] 36 := Fresh.new _ _ _ _ (by simp)
    have HG := Lib.hid (⟨B3, g0, g1, g2⟩ : _ ∧ _ ∧ _ ∧ _)
    clear B3 g0 g1 g2
    cases bb
    · go_wp2_with fail
      go_meet
      exact ⟨rfl, d.s, d.g, HG.out.2.1, HG.out.2.2.1, HG.out.2.2.2, HG.out.1⟩
    · have h0 : 0 < tl := (of_decide_eq_true HBB.out).1
      have k0 : (0 : Int) < (tl : Int) := by omega
      have hp1 := Int.emod_nonneg d.n (show (tl : Int) ≠ 0 by omega)
      have hp2 := Int.emod_lt_of_pos d.n (show (0 : Int) < (tl : Int) by omega)
      obtain ⟨nn, hnn⟩ : ∃ nn : Nat, d.n % (tl : Int) = nn := ⟨(d.n % (tl : Int)).toNat, by omega⟩
      have hnl : nn < tl := by omega
      have hnl' : (nn : Int) < (tl : Int) := by omega
      have hn0 : (0 : Int) ≤ (nn : Int) := by omega
      have hnd : decide (nn < tl) = true := decide_eq_true hnl
      obtain ⟨t, ht⟩ : ∃ t, T[nn]? = some t := ⟨T[nn]'(by have := HTL.out; omega), List.getElem?_eq_getElem _⟩
      obtain ⟨gt, rfl, _, r1, r2⟩ := rc_cells (row_keep HS.out.row fun k hk => HG.out.1.block k (HS.out.row.lt k hk).2) nn t ht
      have HP : Hid (∀ w, Calls Try.prog 17 #[.int .i64 d.n, .int .i64 (tl : Int)] w fun e w' => e = .returned (.int .i64 (nn : Int)) ∧ w' = w) := by
        intro w
        have := pick_any d.n (tl : Int) (by omega) (by omega) w
        rwa [hnn] at this
      clear ht hnn hp1 hp2
      go_wp2_with fail
      refine (HP.out _).mono ?_
      rintro e w3 ⟨rfl, hw3⟩
      replace hw3 := hw3.symm
      subst hw3
      go_wp2_with fail
      go_meet
      exact ⟨rfl, t.s, t.g, ((Fresh.new _ _ _ _ rfl).alloc _).alloc _, (Fresh.new _ _ _ _ (by simp)).alloc _, Fresh.new _ _ _ _ (by simp), Below.new (Below.new (Below.new (Below.refl _ _) _) _) _⟩
  case rest =>
  obtain ⟨rfl, x, k, g0, g1, g2, BW⟩ := hcut
  have g0' := g0.cell 0
  have g1c := g1.cell 0
  have g1x := g1.cell 2
  have g2s := g2.cell 0
  have g2g := g2.cell 1
  simp only [List.getElem?_toArray, List.getElem?_cons_zero, List.getElem?_cons_succ] at g0' g1c g1x g2s g2g
  have hM : s.l.length ≤ 5000 := by have := HS.out.wf.len; have := HN.out; omega
  obtain ⟨v, c, K1, K2⟩ := both_get hM HS.out.nt p a g r gr x k
  have HK1 := Lib.hid (K1 wc (HS.out.sl.below BW))
  have HK2 := Lib.hid (fun W' (hb' : Below wc.heap.size wc W') => K2 W' ((HS.out.rf.below BW).below hb'))
  have HG := Lib.hid (⟨g0, g1, g2, BW⟩ : _ ∧ _ ∧ _ ∧ _)
  clear K1 K2 g0 g1 g2 BW
  go_wp2_with fail
  refine HK1.out.mono ?_
  rintro e w1 ⟨rfl, hb1⟩
  have HB1 := Lib.hid hb1
  have f11 := (HG.out.2.2.1.below hb1)
  have g2s1 := f11.cell 0
  have g2g1 := f11.cell 1
  simp only [List.getElem?_toArray, List.getElem?_cons_zero, List.getElem?_cons_succ] at g2s1 g2g1
  clear hb1 f11 g0' g1c g1x g2s g2g HK1
  go_wp2_with fail
  refine (HK2.out _ HB1.out).mono ?_
  rintro e w2 ⟨rfl, hb2⟩
  obtain ⟨h0, h1, h2, hBW⟩ := HG.out
  have hbw2 : Below wc.heap.size wc w2 := Below.step HB1.out hb2
  have q0 := h0.below hbw2
  have q1 := h1.below hbw2
  have q2 := h2.below hbw2
  have bw := Below.step hBW hbw2
  have st := HS.out.below bw
  have g0' := q0.cell 0
  have g1c := q1.cell 0
  have g1x := q1.cell 2
  have g2s := q2.cell 0
  have g2g := q2.cell 1
  simp only [List.getElem?_toArray, List.getElem?_cons_zero, List.getElem?_cons_succ] at g0' g1c g1x g2s g2g
  have HQ := Lib.hid (⟨q0, q1, q2, bw, st⟩ : _ ∧ _ ∧ _ ∧ _ ∧ _)
  have HE : Hid (W.heap.size + 2 < w2.heap.size) := by show _ < _; exact q2.lt
  clear h0 h1 h2 hBW hbw2 q0 q1 q2 bw st hb2 HG HB1 HK2 g2s1 g2g1
  have n0 : 0 ≤ d.c % 7 := Int.emod_nonneg _ (by omega)
  have n7 : d.c % 7 < 7 := Int.emod_lt_of_pos _ (by omega)
  have pk : ∀ o : Int, d.c % 7 = o → Hid (∀ w, Calls Try.prog 17 #[.int .i64 d.c, .int .i64 7] w fun e w' => e = .returned (.int .i64 o) ∧ w' = w) := by
    intro o ho w
    have := pick_any d.c 7 (by omega) (by omega) w
    rwa [ho] at this
  have HPK := Lib.hid pk
  have hcases : (d.c % 7 = 2 ∨ d.c % 7 = 4) ∨ (d.c % 7 = 3 ∨ d.c % 7 = 5) ∨ (d.c % 7 = 0 ∨ d.c % 7 = 1) ∨ d.c % 7 = 6 := by omega
  clear pk n0 n7
  rcases hcases with ho | ho | ho | ho
  · obtain ⟨v, s', K1, K2, hW', hX'⟩ := both_free HS.out.wf HN.out (by omega) HS.out.nt p a g r gr x k
    have HK1 := Lib.hid K1
    have HK2 := Lib.hid K2
    have HWX := Lib.hid (⟨hW', hX'⟩ : _ ∧ _)
    clear K1 K2 hW' hX'
    rcases ho with ho | ho
    all_goals
      have HP := HPK.out _ ho
      clear ho HPK
      go_wp2_with fail
      refine (HP.out _).mono ?_
      rintro e w3 ⟨rfl, hw3⟩
      replace hw3 := hw3.symm
      subst hw3
      go_wp2_with fail
      refine wp_region_held_drew (S := fun W' => W'.cell? ⟨W.heap.size, 0, none⟩ = some (.pointer (some ⟨p, 0, none⟩)) ∧ W'.cell? ⟨W.heap.size + 1, 2, none⟩ = some (.int .i64 d.x) ∧ W'.cell? ⟨W.heap.size + 2, 0, none⟩ = some (.int .i64 x) ∧ W'.cell? ⟨W.heap.size + 2, 1, none⟩ = some (.int .u32 k)) (by kernel_rfl) ?_ (fun hHeld => ?_)
      · (try dsimp only)
        exact ⟨g0', g1x, g2s, g2g⟩
      refine wpAnyH_take (i := 0) (oi := ?_) (v := ?_) ?_ (by kernel_rfl) (by kernel_rfl) (by kernel_rfl) ?_ (Or.inl ⟨?_, ?_⟩) (by assumption) ?_
      rotate_left 2
      · simp only [List.getElem?_toArray, List.getElem?_cons_succ, List.getElem?_cons_zero] <;> rfl
      · exact fun _ _ _ h => h
      · rfl
      · (intro w hSw; (try dsimp only at hSw); go_simp; try (with_reducible rfl))
      try simp only [Act.put, List.setIfInBounds_toArray, List.set_cons_zero, List.set_cons_succ]
      refine wpAnyH_take (i := 1) (oi := ?_) (v := ?_) ?_ (by kernel_rfl) (by kernel_rfl) (by kernel_rfl) ?_ (Or.inl ⟨?_, ?_⟩) (by assumption) ?_
      rotate_left 2
      · simp only [List.getElem?_toArray, List.getElem?_cons_succ, List.getElem?_cons_zero] <;> rfl
      · exact fun _ _ _ h => h
      · rfl
      · (intro w hSw; (try dsimp only at hSw); go_simp; try (with_reducible rfl))
      try simp only [Act.put, List.setIfInBounds_toArray, List.set_cons_zero, List.set_cons_succ]
      refine wpAnyH_take (i := 2) (oi := ?_) (v := ?_) ?_ (by kernel_rfl) (by kernel_rfl) (by kernel_rfl) ?_ (Or.inl ⟨?_, ?_⟩) (by assumption) ?_
      rotate_left 2
      · simp only [List.getElem?_toArray, List.getElem?_cons_succ, List.getElem?_cons_zero] <;> rfl
      · exact fun _ _ _ h => h
      · rfl
      · (intro w hSw; (try dsimp only at hSw); go_simp; try (with_reducible rfl))
      try simp only [Act.put, List.setIfInBounds_toArray, List.set_cons_zero, List.set_cons_succ]
      refine wpAnyH_take (i := 3) (oi := ?_) (v := ?_) ?_ (by kernel_rfl) (by kernel_rfl) (by kernel_rfl) ?_ (Or.inl ⟨?_, ?_⟩) (by assumption) ?_
      rotate_left 2
      · simp only [List.getElem?_toArray, List.getElem?_cons_succ, List.getElem?_cons_zero] <;> rfl
      · exact fun _ _ _ h => h
      · rfl
      · (intro w hSw; (try dsimp only at hSw); go_simp; try (with_reducible rfl))
      try simp only [Act.put, List.setIfInBounds_toArray, List.set_cons_zero, List.set_cons_succ]
      refine wpAnyH_take (i := 5) (oi := ?_) (v := ?_) ?_ (by kernel_rfl) (by kernel_rfl) (by kernel_rfl) ?_ (Or.inl ⟨?_, ?_⟩) (by assumption) ?_
      rotate_left 2
      · simp only [List.getElem?_toArray, List.getElem?_cons_succ, List.getElem?_cons_zero] <;> rfl
      · exact fun _ _ _ h => h
      · rfl
      · (intro w hSw; (try dsimp only at hSw); go_simp; try (with_reducible rfl))
      try simp only [Act.put, List.setIfInBounds_toArray, List.set_cons_zero, List.set_cons_succ]
      refine wpAnyH_take (i := 6) (oi := ?_) (v := ?_) ?_ (by kernel_rfl) (by kernel_rfl) (by kernel_rfl) ?_ (Or.inl ⟨?_, ?_⟩) (by assumption) ?_
      rotate_left 2
      · simp only [List.getElem?_toArray, List.getElem?_cons_succ, List.getElem?_cons_zero] <;> rfl
      · exact fun _ _ _ h => h
      · rfl
      · (intro w hSw; (try dsimp only at hSw); go_simp; try (with_reducible rfl))
      try simp only [Act.put, List.setIfInBounds_toArray, List.set_cons_zero, List.set_cons_succ]
      refine wpAnyH_ready (rs := [4]) (by kernel_rfl) (by simp) ?_
      refine AllReadyH.cons (o := _) (by simp only [List.getElem?_toArray, List.getElem?_cons_succ, List.getElem?_cons_zero] <;> rfl) (fun K hK => ?_) ?_
      · go_simp
        go_at_call 14
        refine (HK1.out _ HQ.out.2.2.2.2.sl.drew).mono ?_
        rintro e w4 ⟨rfl, hT4, hA4⟩
        have hq := HQ.out
        have HF4 : Hid (Fresh w4 W.heap.size #[.pointer (some ⟨p, 0, none⟩)] 24 ∧ Fresh w4 (W.heap.size + 1) #[.int .i64 d.c, .int .i64 d.n, .int .i64 d.x, .int .i64 d.s, .int .u32 d.g] 38 ∧ Fresh w4 (W.heap.size + 2) #[.int .i64 x, .int .u32 k] 36) := ⟨hT4.other hq.1.drew (by simp; exact ⟨hq.1.apart hq.2.2.2.2.sl.ha (by decide), hq.1.apart hq.2.2.2.2.sl.hg (by decide)⟩), hT4.other hq.2.1.drew (by simp; exact ⟨hq.2.1.apart hq.2.2.2.2.sl.ha (by decide), hq.2.1.apart hq.2.2.2.2.sl.hg (by decide)⟩), hT4.other hq.2.2.1.drew (by simp; exact ⟨hq.2.2.1.apart hq.2.2.2.2.sl.ha (by decide), hq.2.2.1.apart hq.2.2.2.2.sl.hg (by decide)⟩)⟩
        have HR4 := Lib.hid (RAt.beside hq.2.2.2.2.rf.drew hq.2.2.2.2.sl.drew hT4)
        have H4 := Lib.hid (⟨hT4, hA4⟩ : _ ∧ _)
        clear hT4 hA4 hq
        have k40 := HF4.out.1.cell 0
        have k41 := HF4.out.2.1.cell 2
        have k42 := HF4.out.2.2.cell 0
        have k43 := HF4.out.2.2.cell 1
        simp only [List.getElem?_toArray, List.getElem?_cons_zero, List.getElem?_cons_succ] at k40 k41 k42 k43
        go_wp2_with fail
        refine hK.out _ _ ?_ (fun hHeld => ?_)
        · (try dsimp only)
          exact ⟨k40, k41, k42, k43⟩
        clear hK K
        try simp only [Act.put, List.setIfInBounds_toArray, List.set_cons_zero, List.set_cons_succ]
        refine wpAnyH_ready (rs := [7]) (by kernel_rfl) (by simp) ?_
        refine AllReadyH.cons (o := _) (by simp only [List.getElem?_toArray, List.getElem?_cons_succ, List.getElem?_cons_zero] <;> rfl) (fun K hK => ?_) ?_
        · go_simp
          go_at_call 27
          refine (HK2.out _ HR4.out).mono ?_
          rintro e w5 ⟨rfl, hT5, hR5⟩
          have HF5 : Hid (Fresh w5 W.heap.size #[.pointer (some ⟨p, 0, none⟩)] 24 ∧ Fresh w5 (W.heap.size + 1) #[.int .i64 d.c, .int .i64 d.n, .int .i64 d.x, .int .i64 d.s, .int .u32 d.g] 38 ∧ Fresh w5 (W.heap.size + 2) #[.int .i64 x, .int .u32 k] 36) := ⟨hT5.other HF4.out.1 (by simp; exact HF4.out.1.apart HR4.out.hg (by decide)), hT5.other HF4.out.2.1 (by simp; exact HF4.out.2.1.apart HR4.out.hg (by decide)), hT5.other HF4.out.2.2 (by simp; exact HF4.out.2.2.apart HR4.out.hg (by decide))⟩
          have H5 := Lib.hid (⟨hT5, hR5⟩ : _ ∧ _)
          clear hT5 hR5
          have k50 := HF5.out.1.cell 0
          have k51 := HF5.out.2.1.cell 2
          have k52 := HF5.out.2.2.cell 0
          have k53 := HF5.out.2.2.cell 1
          simp only [List.getElem?_toArray, List.getElem?_cons_zero, List.getElem?_cons_succ] at k50 k51 k52 k53
          go_wp2_with fail
          refine hK.out _ _ ?_ (fun hHeld => ?_)
          · (try dsimp only)
            exact ⟨k50, k51, k52, k53⟩
          clear hK K
          try simp only [Act.put, List.setIfInBounds_toArray, List.set_cons_zero, List.set_cons_succ]
          refine wpAnyH_take (i := 8) (oi := ?_) (v := ?_) ?_ (by kernel_rfl) (by kernel_rfl) (by kernel_rfl) ?_ (Or.inl ⟨?_, ?_⟩) (by assumption) ?_
          rotate_left 2
          · simp only [List.getElem?_toArray, List.getElem?_cons_succ, List.getElem?_cons_zero] <;> rfl
          · exact fun _ _ _ h => h
          · rfl
          · (intro w hSw; (try dsimp only at hSw); go_simp; try (with_reducible rfl))
          try simp only [Act.put, List.setIfInBounds_toArray, List.set_cons_zero, List.set_cons_succ]
          refine wpAnyH_take (i := 9) (oi := ?_) (v := ?_) ?_ (by kernel_rfl) (by kernel_rfl) (by kernel_rfl) ?_ (Or.inl ⟨?_, ?_⟩) (by assumption) ?_
          rotate_left 2
          · simp only [List.getElem?_toArray, List.getElem?_cons_succ, List.getElem?_cons_zero] <;> rfl
          · exact fun _ _ _ h => h
          · rfl
          · (intro w hSw; (try dsimp only at hSw); go_simp; try (with_reducible rfl))
          try simp only [Act.put, List.setIfInBounds_toArray, List.set_cons_zero, List.set_cons_succ]
          refine wpAnyH_take (i := 10) (oi := ?_) (v := ?_) ?_ (by kernel_rfl) (by kernel_rfl) (by kernel_rfl) ?_ (Or.inl ⟨?_, ?_⟩) (by assumption) ?_
          rotate_left 2
          · simp only [List.getElem?_toArray, List.getElem?_cons_succ, List.getElem?_cons_zero] <;> rfl
          · exact fun _ _ _ h => h
          · rfl
          · (intro w hSw; (try dsimp only at hSw); go_simp; try (with_reducible rfl))
          try simp only [Act.put, List.setIfInBounds_toArray, List.set_cons_zero, List.set_cons_succ]
          refine wpAnyH_take (i := 11) (oi := ?_) (v := ?_) ?_ (by kernel_rfl) (by kernel_rfl) (by kernel_rfl) ?_ (Or.inl ⟨?_, ?_⟩) (by assumption) ?_
          rotate_left 2
          · simp only [List.getElem?_toArray, List.getElem?_cons_succ, List.getElem?_cons_zero] <;> rfl
          · exact fun _ _ _ h => h
          · rfl
          · (intro w hSw; (try dsimp only at hSw); go_simp; try (with_reducible rfl))
          try simp only [Act.put, List.setIfInBounds_toArray, List.set_cons_zero, List.set_cons_succ]
          refine wpAnyH_done (by kernel_rfl) ?_ _
          go_wp2_with fail
          have B2 : B ≤ w2.heap.size := by have := HQ.out.2.2.2.1.size; have := HB.out; omega
          have HZ := HQ.out.2.2.2.2.drew.both H4.out.1 H5.out.1 H4.out.2 H5.out.2 (HWX.out.1.more (Nat.le_succ b)) HWX.out.2 B2
          refine calm_ret (v := .tuple #[.pointer (some ⟨p, 0, none⟩), .slice ao tl cap, .bool true]) rfl (by simp [results, Try.f10, go_sem]) ?_
          rw [← HTL.out]
          exact ⟨p, a, g, s', _, T, rfl, HZ.1, by have := HTL.out; omega, (HQ.out.2.2.2.1.mono HB.out).drew.trans HZ.2⟩
        exact AllReadyH.nil
      exact AllReadyH.nil
  · obtain ⟨v, s', K1, K2, hW', hX'⟩ := both_set HS.out.wf HN.out HS.out.nt p a g r gr x k d.x
    have HK1 := Lib.hid K1
    have HK2 := Lib.hid K2
    have HWX := Lib.hid (⟨hW', hX'⟩ : _ ∧ _)
    clear K1 K2 hW' hX'
    rcases ho with ho | ho
    all_goals
      have HP := HPK.out _ ho
      clear ho HPK
      go_wp2_with fail
      refine (HP.out _).mono ?_
      rintro e w3 ⟨rfl, hw3⟩
      replace hw3 := hw3.symm
      subst hw3
      go_wp2_with fail
      refine wp_region_held_drew (S := fun W' => W'.cell? ⟨W.heap.size, 0, none⟩ = some (.pointer (some ⟨p, 0, none⟩)) ∧ W'.cell? ⟨W.heap.size + 1, 2, none⟩ = some (.int .i64 d.x) ∧ W'.cell? ⟨W.heap.size + 2, 0, none⟩ = some (.int .i64 x) ∧ W'.cell? ⟨W.heap.size + 2, 1, none⟩ = some (.int .u32 k)) (by kernel_rfl) ?_ (fun hHeld => ?_)
      · (try dsimp only)
        exact ⟨g0', g1x, g2s, g2g⟩
      refine wpAnyH_take (i := 0) (oi := ?_) (v := ?_) ?_ (by kernel_rfl) (by kernel_rfl) (by kernel_rfl) ?_ (Or.inl ⟨?_, ?_⟩) (by assumption) ?_
      rotate_left 2
      · simp only [List.getElem?_toArray, List.getElem?_cons_succ, List.getElem?_cons_zero] <;> rfl
      · exact fun _ _ _ h => h
      · rfl
      · (intro w hSw; (try dsimp only at hSw); go_simp; try (with_reducible rfl))
      try simp only [Act.put, List.setIfInBounds_toArray, List.set_cons_zero, List.set_cons_succ]
      refine wpAnyH_take (i := 1) (oi := ?_) (v := ?_) ?_ (by kernel_rfl) (by kernel_rfl) (by kernel_rfl) ?_ (Or.inl ⟨?_, ?_⟩) (by assumption) ?_
      rotate_left 2
      · simp only [List.getElem?_toArray, List.getElem?_cons_succ, List.getElem?_cons_zero] <;> rfl
      · exact fun _ _ _ h => h
      · rfl
      · (intro w hSw; (try dsimp only at hSw); go_simp; try (with_reducible rfl))
      try simp only [Act.put, List.setIfInBounds_toArray, List.set_cons_zero, List.set_cons_succ]
      refine wpAnyH_take (i := 2) (oi := ?_) (v := ?_) ?_ (by kernel_rfl) (by kernel_rfl) (by kernel_rfl) ?_ (Or.inl ⟨?_, ?_⟩) (by assumption) ?_
      rotate_left 2
      · simp only [List.getElem?_toArray, List.getElem?_cons_succ, List.getElem?_cons_zero] <;> rfl
      · exact fun _ _ _ h => h
      · rfl
      · (intro w hSw; (try dsimp only at hSw); go_simp; try (with_reducible rfl))
      try simp only [Act.put, List.setIfInBounds_toArray, List.set_cons_zero, List.set_cons_succ]
      refine wpAnyH_take (i := 3) (oi := ?_) (v := ?_) ?_ (by kernel_rfl) (by kernel_rfl) (by kernel_rfl) ?_ (Or.inl ⟨?_, ?_⟩) (by assumption) ?_
      rotate_left 2
      · simp only [List.getElem?_toArray, List.getElem?_cons_succ, List.getElem?_cons_zero] <;> rfl
      · exact fun _ _ _ h => h
      · rfl
      · (intro w hSw; (try dsimp only at hSw); go_simp; try (with_reducible rfl))
      try simp only [Act.put, List.setIfInBounds_toArray, List.set_cons_zero, List.set_cons_succ]
      refine wpAnyH_take (i := 4) (oi := ?_) (v := ?_) ?_ (by kernel_rfl) (by kernel_rfl) (by kernel_rfl) ?_ (Or.inl ⟨?_, ?_⟩) (by assumption) ?_
      rotate_left 2
      · simp only [List.getElem?_toArray, List.getElem?_cons_succ, List.getElem?_cons_zero] <;> rfl
      · exact fun _ _ _ h => h
      · rfl
      · (intro w hSw; (try dsimp only at hSw); go_simp; try (with_reducible rfl))
      try simp only [Act.put, List.setIfInBounds_toArray, List.set_cons_zero, List.set_cons_succ]
      refine wpAnyH_take (i := 5) (oi := ?_) (v := ?_) ?_ (by kernel_rfl) (by kernel_rfl) (by kernel_rfl) ?_ (Or.inl ⟨?_, ?_⟩) (by assumption) ?_
      rotate_left 2
      · simp only [List.getElem?_toArray, List.getElem?_cons_succ, List.getElem?_cons_zero] <;> rfl
      · exact fun _ _ _ h => h
      · rfl
      · (intro w hSw; (try dsimp only at hSw); go_simp; try (with_reducible rfl))
      try simp only [Act.put, List.setIfInBounds_toArray, List.set_cons_zero, List.set_cons_succ]
      refine wpAnyH_take (i := 7) (oi := ?_) (v := ?_) ?_ (by kernel_rfl) (by kernel_rfl) (by kernel_rfl) ?_ (Or.inl ⟨?_, ?_⟩) (by assumption) ?_
      rotate_left 2
      · simp only [List.getElem?_toArray, List.getElem?_cons_succ, List.getElem?_cons_zero] <;> rfl
      · exact fun _ _ _ h => h
      · rfl
      · (intro w hSw; (try dsimp only at hSw); go_simp; try (with_reducible rfl))
      try simp only [Act.put, List.setIfInBounds_toArray, List.set_cons_zero, List.set_cons_succ]
      refine wpAnyH_take (i := 8) (oi := ?_) (v := ?_) ?_ (by kernel_rfl) (by kernel_rfl) (by kernel_rfl) ?_ (Or.inl ⟨?_, ?_⟩) (by assumption) ?_
      rotate_left 2
      · simp only [List.getElem?_toArray, List.getElem?_cons_succ, List.getElem?_cons_zero] <;> rfl
      · exact fun _ _ _ h => h
      · rfl
      · (intro w hSw; (try dsimp only at hSw); go_simp; try (with_reducible rfl))
      try simp only [Act.put, List.setIfInBounds_toArray, List.set_cons_zero, List.set_cons_succ]
      refine wpAnyH_take (i := 9) (oi := ?_) (v := ?_) ?_ (by kernel_rfl) (by kernel_rfl) (by kernel_rfl) ?_ (Or.inl ⟨?_, ?_⟩) (by assumption) ?_
      rotate_left 2
      · simp only [List.getElem?_toArray, List.getElem?_cons_succ, List.getElem?_cons_zero] <;> rfl
      · exact fun _ _ _ h => h
      · rfl
      · (intro w hSw; (try dsimp only at hSw); go_simp; try (with_reducible rfl))
      try simp only [Act.put, List.setIfInBounds_toArray, List.set_cons_zero, List.set_cons_succ]
      refine wpAnyH_take (i := 10) (oi := ?_) (v := ?_) ?_ (by kernel_rfl) (by kernel_rfl) (by kernel_rfl) ?_ (Or.inl ⟨?_, ?_⟩) (by assumption) ?_
      rotate_left 2
      · simp only [List.getElem?_toArray, List.getElem?_cons_succ, List.getElem?_cons_zero] <;> rfl
      · exact fun _ _ _ h => h
      · rfl
      · (intro w hSw; (try dsimp only at hSw); go_simp; try (with_reducible rfl))
      try simp only [Act.put, List.setIfInBounds_toArray, List.set_cons_zero, List.set_cons_succ]
      refine wpAnyH_ready (rs := [6]) (by kernel_rfl) (by simp) ?_
      refine AllReadyH.cons (o := _) (by simp only [List.getElem?_toArray, List.getElem?_cons_succ, List.getElem?_cons_zero] <;> rfl) (fun K hK => ?_) ?_
      · go_simp
        go_at_call 19
        refine (HK1.out _ HQ.out.2.2.2.2.sl.drew).mono ?_
        rintro e w4 ⟨rfl, hT4, hA4⟩
        have hq := HQ.out
        have HF4 : Hid (Fresh w4 W.heap.size #[.pointer (some ⟨p, 0, none⟩)] 24 ∧ Fresh w4 (W.heap.size + 1) #[.int .i64 d.c, .int .i64 d.n, .int .i64 d.x, .int .i64 d.s, .int .u32 d.g] 38 ∧ Fresh w4 (W.heap.size + 2) #[.int .i64 x, .int .u32 k] 36) := ⟨hT4.other hq.1.drew (by simp; exact ⟨hq.1.apart hq.2.2.2.2.sl.ha (by decide), hq.1.apart hq.2.2.2.2.sl.hg (by decide)⟩), hT4.other hq.2.1.drew (by simp; exact ⟨hq.2.1.apart hq.2.2.2.2.sl.ha (by decide), hq.2.1.apart hq.2.2.2.2.sl.hg (by decide)⟩), hT4.other hq.2.2.1.drew (by simp; exact ⟨hq.2.2.1.apart hq.2.2.2.2.sl.ha (by decide), hq.2.2.1.apart hq.2.2.2.2.sl.hg (by decide)⟩)⟩
        have HR4 := Lib.hid (RAt.beside hq.2.2.2.2.rf.drew hq.2.2.2.2.sl.drew hT4)
        have H4 := Lib.hid (⟨hT4, hA4⟩ : _ ∧ _)
        clear hT4 hA4 hq
        have k40 := HF4.out.1.cell 0
        have k41 := HF4.out.2.1.cell 2
        have k42 := HF4.out.2.2.cell 0
        have k43 := HF4.out.2.2.cell 1
        simp only [List.getElem?_toArray, List.getElem?_cons_zero, List.getElem?_cons_succ] at k40 k41 k42 k43
        go_wp2_with fail
        refine hK.out _ _ ?_ (fun hHeld => ?_)
        · (try dsimp only)
          exact ⟨k40, k41, k42, k43⟩
        clear hK K
        try simp only [Act.put, List.setIfInBounds_toArray, List.set_cons_zero, List.set_cons_succ]
        refine wpAnyH_ready (rs := [11]) (by kernel_rfl) (by simp) ?_
        refine AllReadyH.cons (o := _) (by simp only [List.getElem?_toArray, List.getElem?_cons_succ, List.getElem?_cons_zero] <;> rfl) (fun K hK => ?_) ?_
        · go_simp
          go_at_call 28
          refine (HK2.out _ HR4.out).mono ?_
          rintro e w5 ⟨rfl, hT5, hR5⟩
          have HF5 : Hid (Fresh w5 W.heap.size #[.pointer (some ⟨p, 0, none⟩)] 24 ∧ Fresh w5 (W.heap.size + 1) #[.int .i64 d.c, .int .i64 d.n, .int .i64 d.x, .int .i64 d.s, .int .u32 d.g] 38 ∧ Fresh w5 (W.heap.size + 2) #[.int .i64 x, .int .u32 k] 36) := ⟨hT5.other HF4.out.1 (by simp; exact HF4.out.1.apart HR4.out.hg (by decide)), hT5.other HF4.out.2.1 (by simp; exact HF4.out.2.1.apart HR4.out.hg (by decide)), hT5.other HF4.out.2.2 (by simp; exact HF4.out.2.2.apart HR4.out.hg (by decide))⟩
          have H5 := Lib.hid (⟨hT5, hR5⟩ : _ ∧ _)
          clear hT5 hR5
          have k50 := HF5.out.1.cell 0
          have k51 := HF5.out.2.1.cell 2
          have k52 := HF5.out.2.2.cell 0
          have k53 := HF5.out.2.2.cell 1
          simp only [List.getElem?_toArray, List.getElem?_cons_zero, List.getElem?_cons_succ] at k50 k51 k52 k53
          go_wp2_with fail
          refine hK.out _ _ ?_ (fun hHeld => ?_)
          · (try dsimp only)
            exact ⟨k50, k51, k52, k53⟩
          clear hK K
          try simp only [Act.put, List.setIfInBounds_toArray, List.set_cons_zero, List.set_cons_succ]
          refine wpAnyH_take (i := 12) (oi := ?_) (v := ?_) ?_ (by kernel_rfl) (by kernel_rfl) (by kernel_rfl) ?_ (Or.inl ⟨?_, ?_⟩) (by assumption) ?_
          rotate_left 2
          · simp only [List.getElem?_toArray, List.getElem?_cons_succ, List.getElem?_cons_zero] <;> rfl
          · exact fun _ _ _ h => h
          · rfl
          · (intro w hSw; (try dsimp only at hSw); go_simp; try (with_reducible rfl))
          try simp only [Act.put, List.setIfInBounds_toArray, List.set_cons_zero, List.set_cons_succ]
          refine wpAnyH_take (i := 13) (oi := ?_) (v := ?_) ?_ (by kernel_rfl) (by kernel_rfl) (by kernel_rfl) ?_ (Or.inl ⟨?_, ?_⟩) (by assumption) ?_
          rotate_left 2
          · simp only [List.getElem?_toArray, List.getElem?_cons_succ, List.getElem?_cons_zero] <;> rfl
          · exact fun _ _ _ h => h
          · rfl
          · (intro w hSw; (try dsimp only at hSw); go_simp; try (with_reducible rfl))
          try simp only [Act.put, List.setIfInBounds_toArray, List.set_cons_zero, List.set_cons_succ]
          refine wpAnyH_take (i := 14) (oi := ?_) (v := ?_) ?_ (by kernel_rfl) (by kernel_rfl) (by kernel_rfl) ?_ (Or.inl ⟨?_, ?_⟩) (by assumption) ?_
          rotate_left 2
          · simp only [List.getElem?_toArray, List.getElem?_cons_succ, List.getElem?_cons_zero] <;> rfl
          · exact fun _ _ _ h => h
          · rfl
          · (intro w hSw; (try dsimp only at hSw); go_simp; try (with_reducible rfl))
          try simp only [Act.put, List.setIfInBounds_toArray, List.set_cons_zero, List.set_cons_succ]
          refine wpAnyH_take (i := 15) (oi := ?_) (v := ?_) ?_ (by kernel_rfl) (by kernel_rfl) (by kernel_rfl) ?_ (Or.inl ⟨?_, ?_⟩) (by assumption) ?_
          rotate_left 2
          · simp only [List.getElem?_toArray, List.getElem?_cons_succ, List.getElem?_cons_zero] <;> rfl
          · exact fun _ _ _ h => h
          · rfl
          · (intro w hSw; (try dsimp only at hSw); go_simp; try (with_reducible rfl))
          try simp only [Act.put, List.setIfInBounds_toArray, List.set_cons_zero, List.set_cons_succ]
          refine wpAnyH_done (by kernel_rfl) ?_ _
          go_wp2_with fail
          have B2 : B ≤ w2.heap.size := by have := HQ.out.2.2.2.1.size; have := HB.out; omega
          have HZ := HQ.out.2.2.2.2.drew.both H4.out.1 H5.out.1 H4.out.2 H5.out.2 (HWX.out.1.more (Nat.le_succ b)) HWX.out.2 B2
          refine calm_ret (v := .tuple #[.pointer (some ⟨p, 0, none⟩), .slice ao tl cap, .bool true]) rfl (by simp [results, Try.f10, go_sem]) ?_
          rw [← HTL.out]
          exact ⟨p, a, g, s', _, T, rfl, HZ.1, by have := HTL.out; omega, (HQ.out.2.2.2.1.mono HB.out).drew.trans HZ.2⟩
        exact AllReadyH.nil
      exact AllReadyH.nil
  · obtain ⟨i, u, v, s', hv, K1, K2, hW', hX'⟩ := both_take HS.out.wf HN.out (by omega) HS.out.nt p a g r gr d.x
    have HK1 := Lib.hid K1
    have HK2 := Lib.hid K2
    have HWX := Lib.hid (⟨hW', hX'⟩ : _ ∧ _)
    have HV := Lib.hid hv
    clear K1 K2 hW' hX' hv
    obtain ⟨iR, jR, jR0, jR1, jR2⟩ := infoR
    have HJR := Lib.hid jR
    clear jR
    have HNB := Lib.hid (⟨hb, hT, t9, hM⟩ : _ ∧ _ ∧ _ ∧ _)
    clear hb hT t9 hM
    rcases ho with ho | ho
    all_goals
      have HP := HPK.out _ ho
      clear ho HPK
      go_wp2_with fail
      refine (HP.out _).mono ?_
      rintro e w3 ⟨rfl, hw3⟩
      replace hw3 := hw3.symm
      subst hw3
      go_wp2_with fail
      refine (HK1.out _ HQ.out.2.2.2.2.sl).mono ?_
      rintro e w4 ⟨rfl, hT4, hA4⟩
      have hq := HQ.out
      have HF4 : Hid (Fresh w4 W.heap.size #[.pointer (some ⟨p, 0, none⟩)] 24 ∧ Fresh w4 (W.heap.size + 1) #[.int .i64 d.c, .int .i64 d.n, .int .i64 d.x, .int .i64 d.s, .int .u32 d.g] 38) := ⟨hT4.other hq.1 (by simp; exact ⟨hq.1.apart hq.2.2.2.2.sl.ha (by decide), hq.1.apart hq.2.2.2.2.sl.hg (by decide)⟩), hT4.other hq.2.1 (by simp; exact ⟨hq.2.1.apart hq.2.2.2.2.sl.ha (by decide), hq.2.1.apart hq.2.2.2.2.sl.hg (by decide)⟩)⟩
      have B4 : Below w4.heap.size w4 (w4.alloc (.cells #[.int .i64 i, .int .u32 u] 36)) := Below.new (Below.refl _ _) _
      have HR4 := Lib.hid ((RAt.beside hq.2.2.2.2.rf hq.2.2.2.2.sl hT4).below B4)
      have HA4 := Lib.hid (hA4.below B4)
      have HT4 := Lib.hid (hT4.alloc (.cells #[.int .i64 i, .int .u32 u] 36))
      have HX4 : Hid (Fresh (w4.alloc (.cells #[.int .i64 i, .int .u32 u] 36)) w4.heap.size #[.int .i64 i, .int .u32 u] 36 ∧ w2.heap.size ≤ w4.heap.size) := ⟨Fresh.new _ _ _ _ rfl, hT4.size⟩
      have HF4' : Hid (Fresh (w4.alloc (.cells #[.int .i64 i, .int .u32 u] 36)) W.heap.size #[.pointer (some ⟨p, 0, none⟩)] 24) := HF4.out.1.below B4
      have k40 := HF4.out.1.cell 0
      have k41 := HF4.out.2.cell 2
      simp only [List.getElem?_toArray, List.getElem?_cons_zero, List.getElem?_cons_succ] at k40 k41
      have l40 : W.heap.size < w4.heap.size := HF4.out.1.lt
      have l41 : W.heap.size + 1 < w4.heap.size := HF4.out.2.lt
      clear hT4 hA4 hq B4
      go_wp2_with fail
      refine (HK2.out _ HR4.out).mono ?_
      rintro e w5 ⟨rfl, hT5, hR5⟩
      have HZ := Lib.hid (HQ.out.2.2.2.2.both HT4.out hT5 HA4.out hR5 HWX.out.1 HWX.out.2 (by have := HQ.out.2.2.2.1.size; have := HB.out; omega))
      have HF5 : Hid (Fresh w5 W.heap.size #[.pointer (some ⟨p, 0, none⟩)] 24 ∧ Fresh w5 w4.heap.size #[.int .i64 i, .int .u32 u] 36) := ⟨hT5.other HF4'.out (by simp; exact HF4'.out.apart HR4.out.hg (by decide)), hT5.other HX4.out.1 (by simp; exact HX4.out.1.apart HR4.out.hg (by decide))⟩
      obtain ⟨w6, hw6⟩ : ∃ w6, w6 = w5.alloc (.cells #[.int .i64 i, .int .u32 u] 36) := ⟨_, rfl⟩
      have B6 : Below w5.heap.size w5 w6 := by rw [hw6]; exact Below.new (Below.refl _ _) _
      have f60 := HF5.out.1.below B6
      have f61 := HF5.out.2.below B6
      have f62 : Fresh w6 w5.heap.size #[.int .i64 i, .int .u32 u] 36 := by rw [hw6]; exact Fresh.new _ _ _ _ rfl
      have k60 := f60.cell 0
      have k61 := f61.cell 0
      have k62 := f61.cell 1
      have k63 := f62.cell 0
      have k64 := f62.cell 1
      simp only [List.getElem?_toArray, List.getElem?_cons_zero, List.getElem?_cons_succ] at k60 k61 k62 k63 k64
      have HW6 := Lib.hid hw6
      have HZ6 := Lib.hid (HZ.out.1.below B6)
      have HF6 := Lib.hid (⟨f60, f61, f62, B6⟩ : _ ∧ _ ∧ _ ∧ _)
      clear hT5 hR5 hw6 B6 f60 f61 f62
      rcases HV.out with rfl | rfl
      · clear HV
        obtain ⟨hb, hT, t9, hM⟩ := HNB.out
        have B7 : Below w6.heap.size w6 (w6.alloc (.cells #[.int .i64 i, .int .u32 u] 36)) := Below.new (Below.refl _ _) _
        have o7 : Hid ((w6.alloc (.cells #[.int .i64 i, .int .u32 u] 36)).ownsRow B 36 2 (.slice ao tl cap) tl (rc T)) := by
          have := (HZ6.out.below B7).row
          rw [HTL.out] at this
          exact this
        have N7 : Hid (∀ (j : Nat) q, [Value.int .i64 i, Value.int .u32 u][j]? = some q → (w6.alloc (.cells #[.int .i64 i, .int .u32 u] 36)).cell? ((⟨w6.heap.size, 0, none⟩ : Addr).add j) = some q) := by
          intro j q hj
          have D7 : Fresh (w6.alloc (.cells #[.int .i64 i, .int .u32 u] 36)) w6.heap.size #[.int .i64 i, .int .u32 u] 36 := Fresh.new _ _ _ _ rfl
          rw [Addr.add_lit, Nat.zero_add, D7.cell j]
          simpa using hj
        have z1 : w6.heap.size = w5.heap.size + 1 := by rw [HW6.out]; simp
        have S7 : Hid (B ≤ (w6.alloc (.cells #[.int .i64 i, .int .u32 u] 36)).heap.size) := by
          show _ ≤ _
          have h1 := HZ.out.2.size
          have h2 := HQ.out.2.2.2.1.size
          have h3 := HB.out
          have h4 := HX4.out.2
          have h5 := HF5.out.2.lt
          simp
          omega
        have HRL : Hid (∀ k, (Value.slice ao tl cap).ownBlock = some k → k < w2.heap.size) := by
          intro k hk
          have := HQ.out.2.2.2.2.row
          rw [HTL.out] at this
          exact (this.lt k hk).2
        have HZ7 := Lib.hid (HZ6.out.below B7)
        have HF7 := Lib.hid (⟨HF6.out.1.below B7, HF6.out.2.1.below B7, HF6.out.2.2.1.below B7⟩ : _ ∧ _ ∧ _)
        have HB7 := Lib.hid (Below.step HF6.out.2.2.2 B7)
        have HM : Hid (b < 100000 ∧ tl ≤ b) := ⟨hb, hT⟩
        clear hb hT t9 hM B7 z1
        go_upto_if 136 with fail
        rw [← HW6.out]
        go_wp2_with (at_builtin; refine wpList_append_own _ rfl (.tmp 137) (.tmp 139) 31 rfl B 36 iR (.agg #[.int .i64 0, .int .u32 0]) 2 16 Try.underlying31 HJR.out jR0 jR1 jR2 rfl (by omega) (.slice ao tl cap) tl (rc T) rfl o7.out ⟨w6.heap.size, 0, none⟩ 1 1 [.int .i64 i, .int .u32 u] rfl rfl N7.out (by intro u hu; simp at hu; rcases hu with rfl | rfl <;> rfl) (by unfold maxLen; have := HM.out; omega) (by have := HM.out; omega) S7.out ?_)
        intro v8 w8 hown hgrow hnn
        obtain ⟨a8, k8, rfl⟩ := row_form hown
        have hz := HZ7.out
        obtain ⟨f70, f71, f72⟩ := HF7.out
        have e1 := HX4.out.2
        have nb : ∀ q, w2.heap.size ≤ q → some q ≠ (Value.slice ao tl cap).ownBlock := fun q hq e => by have := HRL.out q e.symm; omega
        have sl8 : Si.At w8 p a g s' := at_grown hz.sl o7.out (.inl rfl) hgrow
        have rf8 : RAt w8 r gr s'.l := ⟨hz.rf.hr.grown hgrow (Ne.symm (row_apart o7.out hz.rf.hr (by decide))), hz.rf.hg.grown hgrow (Ne.symm (row_apart o7.out hz.rf.hg (by decide)))⟩
        have f80 := f70.grown hgrow (Ne.symm (row_apart o7.out f70 (by decide)))
        have f81 := f71.grown hgrow (nb _ e1)
        have f82 := f72.grown hgrow (nb _ (by have := HF5.out.2.lt; omega))
        have k80 := f80.cell 0
        have k81 := f81.cell 0
        have k82 := f81.cell 1
        have k83 := f82.cell 0
        have k84 := f82.cell 1
        simp only [List.getElem?_toArray, List.getElem?_cons_zero, List.getElem?_cons_succ] at k80 k81 k82 k83 k84
        have B8 : Below B w5 w8 := by
          have h1 := HZ.out.2.size
          have h2 := HQ.out.2.2.2.1.size
          have h3 := HB.out
          exact (HB7.out.mono (by omega)).grown hgrow (by have := S7.out; exact this) (fun k hk => (o7.out.lt k hk).1)
        have st8 : St B w8 p a g r gr s' N (b + 1) (.slice a8 (tl + 1) k8) (T ++ [⟨i, u⟩]) := ⟨sl8, rf8, hz.wf, hz.nt, by rw [List.length_append, HTL.out, rc_append]; exact hown, hz.lo⟩
        have H8 := Lib.hid (⟨st8, B8⟩ : _ ∧ _)
        clear hown hgrow hnn hz f70 f71 f72 e1 nb sl8 rf8 f80 f81 f82 B8 st8 k60 k61 k62 k63 k64
        go_wp2_with fail
        go_quiet (fail)
        go_wp2_with fail
        refine calm_ret (v := .tuple #[.pointer (some ⟨p, 0, none⟩), .slice a8 (tl + 1) k8, .bool true]) rfl (by simp [results, Try.f10, go_sem]) ?_
        exact ⟨p, a, g, s', _, _, rfl, H8.out.1.drewN _, by have h1 := HM.out; have h2 := HTL.out; rw [List.length_append]; simp; omega, bel_drewN ((HQ.out.2.2.2.1.mono HB.out).trans (HZ.out.2.trans H8.out.2)) _⟩
      · clear HV
        go_upto_region 28 with fail
        rw [← HW6.out]
        go_quiet (fail)
        go_wp2_with fail
        refine calm_ret (v := .tuple #[.pointer (some ⟨p, 0, none⟩), .slice ao tl cap, .bool true]) rfl (by simp [results, Try.f10, go_sem]) ?_
        have h1 := HNB.out
        have h2 := HTL.out
        rw [← h2]
        refine ⟨p, a, g, s', _, _, rfl, HZ6.out.drewN _, by omega, bel_drewN ((HQ.out.2.2.2.1.mono HB.out).trans (HZ.out.2.trans (HF6.out.2.2.2.mono ?_))) _⟩
        have h3 := HZ.out.2.size
        have h4 := HQ.out.2.2.2.1.size
        have h5 := HB.out
        omega
  · have HP := HPK.out _ ho
    have HNB := Lib.hid (⟨hb, hT, t9, hM⟩ : _ ∧ _ ∧ _ ∧ _)
    obtain ⟨i1, u1, v1, s1, _, K1, _, hW1, hX1⟩ := both_take HS.out.wf HN.out (by omega) HS.out.nt p a g r gr d.x
    obtain ⟨v2, s2, K2, _, hW2, hX2⟩ := both_free hW1 HN.out (by omega) hX1 p a g r gr x k
    have HC := Lib.hid (Si.copy_any HQ.out.2.2.2.2.sl hM HS.out.nt)
    have HK1 := Lib.hid K1
    have HK2 := Lib.hid K2
    have HWX := Lib.hid (⟨hW2, hX2⟩ : _ ∧ _)
    clear K1 K2 hW1 hX1 hW2 hX2 hb hT t9 hM ho HPK
    go_wp2_with fail
    refine (HP.out _).mono ?_
    rintro e w3 ⟨rfl, hw3⟩
    replace hw3 := hw3.symm
    subst hw3
    go_wp2_with fail
    refine HC.out.mono ?_
    rintro e w4 ⟨p', a', g', kk, rest', rfl, hp', ha', hg', hb4, hA'⟩
    have HQ4 : Hid (Fresh w4 W.heap.size #[.pointer (some ⟨p, 0, none⟩)] 24 ∧ Fresh w4 (W.heap.size + 1) #[.int .i64 d.c, .int .i64 d.n, .int .i64 d.x, .int .i64 d.s, .int .u32 d.g] 38 ∧ Fresh w4 (W.heap.size + 2) #[.int .i64 x, .int .u32 k] 36) := ⟨HQ.out.1.below hb4, HQ.out.2.1.below hb4, HQ.out.2.2.1.below hb4⟩
    have HS4 := Lib.hid (HQ.out.2.2.2.2.below hb4)
    have HA' := Lib.hid (⟨hp', ha', hg', hb4, hA'⟩ : _ ∧ _ ∧ _ ∧ _ ∧ _)
    have k40 := HQ4.out.1.cell 0
    have k41 := HQ4.out.2.1.cell 2
    simp only [List.getElem?_toArray, List.getElem?_cons_zero, List.getElem?_cons_succ] at k40 k41
    clear hp' ha' hg' hb4 hA' HC g0' g1c g1x g2s g2g
    go_wp2_with fail
    refine (HK1.out _ HS4.out.sl).mono ?_
    rintro e w5 ⟨rfl, hT5, hA5⟩
    have HQ5 : Hid (Fresh w5 W.heap.size #[.pointer (some ⟨p, 0, none⟩)] 24 ∧ Fresh w5 (W.heap.size + 2) #[.int .i64 x, .int .u32 k] 36) := ⟨hT5.other HQ4.out.1 (by simp; exact ⟨HQ4.out.1.apart HS4.out.sl.ha (by decide), HQ4.out.1.apart HS4.out.sl.hg (by decide)⟩), hT5.other HQ4.out.2.2 (by simp; exact ⟨HQ4.out.2.2.apart HS4.out.sl.ha (by decide), HQ4.out.2.2.apart HS4.out.sl.hg (by decide)⟩)⟩
    have HA5 := Lib.hid hA5
    have HT5 := Lib.hid hT5
    have k50 := HQ5.out.1.cell 0
    have k52 := HQ5.out.2.cell 0
    have k53 := HQ5.out.2.cell 1
    simp only [List.getElem?_toArray, List.getElem?_cons_zero, List.getElem?_cons_succ] at k50 k52 k53
    clear hT5 hA5 k40 k41
    go_wp2_with fail
    refine (HK2.out _ HA5.out).mono ?_
    rintro e w6 ⟨rfl, hT6, hA6⟩
    have HQ6 : Hid (Fresh w6 W.heap.size #[.pointer (some ⟨p, 0, none⟩)] 24) := hT6.other HQ5.out.1 (by simp; exact ⟨HQ5.out.1.apart HA5.out.ha (by decide), HQ5.out.1.apart HA5.out.hg (by decide)⟩)
    have HA6 := Lib.hid hA6
    have HT6 := Lib.hid (HT5.out.trans hT6)
    have k60 := HQ6.out.cell 0
    simp only [List.getElem?_toArray, List.getElem?_cons_zero, List.getElem?_cons_succ] at k60
    clear hT6 hA6 k50 k52 k53
    go_wp2_with (go_at_call 13; refine (all_any _ _).mono ?_; rintro e WL ⟨rfl, hWL⟩; have HWL := Lib.hid hWL; clear hWL)
    refine (wpIn_wide (n := 10)).1 ?_
    obtain ⟨hb, hT, t9, hM⟩ := HNB.out
    have szL : WL.heap.size = w6.heap.size + 1 := by rw [HWL.out]; simp
    have BL : Below w6.heap.size w6 WL := by rw [HWL.out]; exact Below.new (Below.refl _ _) _
    have fs : Fresh WL w6.heap.size #[.pointer (some ⟨p, 0, none⟩)] 24 := by rw [HWL.out]; exact Fresh.new _ _ _ _ rfl
    have fq : Fresh WL W.heap.size #[.pointer (some ⟨p, 0, none⟩)] 24 := HQ6.out.below BL
    have AL := HA6.out.below BL
    have TL : Turned [a, g] w4 WL := HT6.out.trans (Turned.of_below BL)
    have la := AL.ha.lt
    have lg := AL.hg.lt
    have M2 : s2.l.length ≤ 5000 := by have := HWX.out.1.len; have := HN.out; omega
    refine range_box rfl (by omega) (gf := 35) (lb := #[.pointer (some ⟨w6.heap.size, 0, none⟩)]) rfl trivial (enters_of Try.func35 (by kernel_rfl) rfl)
      (Si.all_own 9 (by omega) w6.heap.size [a, g, WL.heap.size + 1] s2 M2 HWX.out.2 WL p a g AL (fs.cell 0) (by omega) (by intro k hk; simp at hk; omega))
      (fun h k => h.trans k) (fun Wc o _ => Turned.put (by simp) o) (Below.refl _ _) (fun _ => rfl)
      (fun _ Wc => Turned [a, g] WL Wc ∧ ∃ sc, Si.At Wc p a g sc ∧ Wf sc N (b + 1) ∧ Ints sc) (fun _ _ _ => False)
      (fun _ X Y row ⟨h1, sc, h2, h3, h4⟩ hg hr => ⟨h1.kept hg (fun r e => (hr r e).1), sc, h2.kept hg (fun r e => (hr r e).2), h3, h4⟩) (fun _ _ _ _ _ h _ _ => h)
      ⟨Turned.refl _ _, s2, AL, HWX.out.1, HWX.out.2⟩
      (fun y a1 Wc => ∃ q, a1 = { tmps := #[.pointer (some ⟨p, 0, none⟩), .pointer (some ⟨r, 0, none⟩), .agg #[.int .i64 d.c, .int .i64 d.n, .int .i64 d.x, .int .i64 d.s, .int .u32 d.g], .slice ao tl cap, .pointer (some ⟨W.heap.size, 0, none⟩), undef, .pointer (some ⟨W.heap.size + 1, 0, none⟩), undef, .pointer none, .slice none 0 0, .bool false, .pointer (some ⟨W.heap.size + 2, 0, none⟩), .int .i64 v, .bool c, .int .i64 v, .bool c, .pointer (some ⟨p', 0, none⟩), .pointer (some ⟨q, 0, none⟩), undef, undef, undef, undef, .pointer (some ⟨W.heap.size + 1, 3, none⟩), .agg #[.int .i64 d.s, .int .u32 d.g], u24, u25, u26, u27, u28, u29, u30, u31, u32, u33, u34, u35, .bool bb, u37, u38, u39, u40, u41, u42, u43, u44, .tuple #[.int .i64 v, .bool c], .pointer (some ⟨p, 0, none⟩), .agg #[.int .i64 x, .int .u32 k], .tuple #[.int .i64 v, .bool c], .int .i64 v, .bool c, .tuple #[.int .i64 v, .bool c], .pointer (some ⟨r, 0, none⟩), .agg #[.int .i64 x, .int .u32 k], .tuple #[.int .i64 v, .bool c], .int .i64 v, .bool c, .int .i64 v, .int .i64 v, .bool false, .bool false, .bool c, .bool c, .bool false, .bool false, undef, undef, .pointer (some ⟨W.heap.size + 1, 0, none⟩), .int .i64 d.c, .int .i64 6, .bool false, .bool false, .bool false, undef, undef, undef, undef, undef, undef, undef, undef, undef, .bool false, .bool false, .bool false, undef, undef, undef, undef, undef, undef, undef, undef, undef, undef, undef, undef, undef, .bool true, .bool true, .pointer (some ⟨p, 0, none⟩), .pointer (some ⟨p', 0, none⟩), .pointer (some ⟨p, 0, none⟩), .pointer (some ⟨W.heap.size + 1, 2, none⟩), .int .i64 d.x, .tuple #[refV i1 u1, .int .i64 v1], .pointer (some ⟨p, 0, none⟩), .agg #[.int .i64 x, .int .u32 k], .int .i64 v2, .pointer (some ⟨p, 0, none⟩), .func (.func 35) #[] #[.pointer (some ⟨w6.heap.size, 0, none⟩)], refV (y : Int) (Si.at0 s2 y).u, (Si.at0 s2 y).x, undef, undef, undef, undef, undef, undef, undef, undef, undef, undef, undef, undef, undef, undef, undef, undef, undef, undef, undef, undef, undef, undef, undef, undef, undef, undef, undef, undef, undef, undef, undef, undef, undef, undef, undef, undef, undef, undef], defers := [] } ∧ Fresh Wc q #[.int .i64 (y : Int), .int .u32 (Si.at0 s2 y).u] 36)
      (fun y a1 _ X Y row ⟨q, h1, h2⟩ hg hr => ⟨q, h1, h2.kept hg (fun r e => (hr r e).2)⟩)
      ?assignment ?round ?done ?stop
    case assignment =>
      rintro l' pre y Wc K hG ⟨h1, sc, h2, h3, h4⟩ hK
      have B9 : Below Wc.heap.size Wc (Wc.alloc (.cells #[.int .i64 (y : Int), .int .u32 (Si.at0 s2 y).u] 36)) := Below.new (Below.refl _ _) _
      have HK := Lib.hid (hK _ (Wc.alloc (.cells #[.int .i64 (y : Int), .int .u32 (Si.at0 s2 y).u] 36)) ((KeepsOthers.alloc _ _).from _) ((Turned.refl _ Wc).alloc _) ⟨h1.alloc _, sc, h2.below B9, h3, h4⟩ ⟨Wc.heap.size, rfl, Fresh.new _ _ _ _ rfl⟩)
      clear hK h1 h2 h3 h4 hG B9
      unfold Si.elemV
      gi_wp2
      exact HK.out
    case round =>
      rintro l' pre y a1 W5 hG ⟨hT5, sc, hA5, hW5, hX5⟩ ⟨q, rfl, cq⟩ hz
      obtain ⟨v3, s3, K3, _, hW3, hX3⟩ := both_set hW5 HN.out hX5 p a g r gr (y : Int) (Si.at0 s2 y).u 99
      obtain ⟨v4, s4, K4, _, hW4, hX4⟩ := both_free hW3 HN.out (by omega) hX3 p a g r gr (y : Int) (Si.at0 s2 y).u
      have fq5 := hT5.other fq (by simp; exact ⟨fq.apart AL.ha (by decide), fq.apart AL.hg (by decide)⟩)
      have nq : q ∉ [a, g] := by simp; exact ⟨cq.apart hA5.ha (by decide), cq.apart hA5.hg (by decide)⟩
      have nq4 : W.heap.size ∉ [a, g] := by simp; exact ⟨fq5.apart hA5.ha (by decide), fq5.apart hA5.hg (by decide)⟩
      have k50 := fq5.cell 0
      have k51 := cq.cell 0
      have k52 := cq.cell 1
      simp only [List.getElem?_toArray, List.getElem?_cons_zero, List.getElem?_cons_succ] at k50 k51 k52
      have HK3 := Lib.hid (K3 W5 hA5)
      have HK4 := Lib.hid K4
      have HW4 := Lib.hid (⟨hW4, hX4⟩ : _ ∧ _)
      have HQ5 := Lib.hid (⟨fq5, cq, hT5⟩ : _ ∧ _ ∧ _)
      obtain ⟨yu, hyu⟩ : ∃ yu, (Si.at0 s2 y).u = yu := ⟨_, rfl⟩
      obtain ⟨yx, hyx⟩ : ∃ yx, (Si.at0 s2 y).x = yx := ⟨_, rfl⟩
      rw [hyu] at HK3 HK4 HQ5 k52 ⊢
      rw [hyx]
      clear K3 K4 hW4 hX4 hW3 hX3 hW5 hX5 hA5 fq5 cq hT5 hG hyu hyx fs AL TL BL hb hT t9 hM
      gi_wp2_with (refine ⟨trivial, ?_⟩; first
        | (gi_at_call 19; refine (callsIn_round HK3.out).mono ?_; rintro e W6 ⟨rfl, hT6, hA6⟩; have HA6 := Lib.hid hA6; have HT6 := Lib.hid hT6; have k60 := (hT6.other HQ5.out.1 nq4).cell 0; have k61 := (hT6.other HQ5.out.2.1 nq).cell 0; have k62 := (hT6.other HQ5.out.2.1 nq).cell 1; simp only [List.getElem?_toArray, List.getElem?_cons_zero, List.getElem?_cons_succ] at k60 k61 k62; clear hT6 hA6)
        | (gi_at_call 14; refine (callsIn_round (HK4.out _ HA6.out)).mono ?_; rintro e W7 ⟨rfl, hT7, hA7⟩; have HA7 := Lib.hid hA7; have HT7 := Lib.hid hT7; clear hT7 hA7))
      have T7 : Turned [a, g] W5 W7 := HT6.out.trans HT7.out
      exact ⟨KeepsFrom.of_turned T7 (by intro k hk; simp at hk; omega), T7.wide (by intro k hk; simp at hk; simp; omega), HQ5.out.2.2.trans T7, s4, HA7.out, HW4.out.1, HW4.out.2⟩
    case done =>
      rintro D xs Wd hD _ ⟨hTd, sc, hAd, _, _⟩ hD0
      have T4 : Turned [a, g] w4 Wd := TL.trans hTd
      have st4 := HS4.out
      obtain ⟨c1, c2, c3, c4, c5⟩ := HA'.out
      have la4 := st4.sl.ha.lt
      have lg4 := st4.sl.hg.lt
      have la2 := HQ.out.2.2.2.2.sl.ha.lt
      have lg2 := HQ.out.2.2.2.2.sl.hg.lt
      have AC : Si.At Wd p' a' g' { s with cap := kk, rest := rest' } := c5.turned T4 (by simp; omega) (by simp; omega) (by simp; omega)
      have RC : RAt Wd r gr s.l := st4.rf.beside st4.sl T4
      have rowC : Wd.ownsRow B 36 2 (.slice ao T.length cap) T.length (rc T) := row_keep st4.row fun k hk => T4.block k (st4.row.lt k hk).2 (by
        have n1 := row_apart st4.row st4.sl.ha (by decide)
        have n2 := row_apart st4.row st4.sl.hg (by decide)
        simp
        exact ⟨fun e => n1 (e ▸ hk), fun e => n2 (e ▸ hk)⟩)
      have hBB := HB.out
      have b2 := HQ.out.2.2.2.1.size
      have b4 := c4.size
      obtain ⟨l1, l2, l3, l4, l5⟩ := HS.out.lo
      have BD : Below B W Wd := Turned.below ((HQ.out.2.2.2.1.mono hBB).trans (c4.mono (by omega))) T4 (by simp; omega) (by omega)
      have stD : St B Wd p' a' g' r gr { s with cap := kk, rest := rest' } N (b + 1) (.slice ao T.length cap) T :=
        ⟨AC, RC, by have h := HS.out.wf.more (Nat.le_succ b); exact ⟨h.len, h.u, h.n, h.f, h.lo, h.low⟩, HS.out.nt, rowC, by omega, by omega, by omega, l4, l5⟩
      have HST := Lib.hid (⟨stD, BD⟩ : _ ∧ _)
      have HD0 := Lib.hid hD0
      clear hTd hAd hD0 T4 st4 c1 c2 c3 c4 c5 la4 lg4 la2 lg2 AC RC rowC hBB b2 b4 l1 l2 l3 l4 l5 BD stD fs AL TL BL hb hT t9 hM
      go_wp2_with fail
      have hg := grownBy_putObj' Wd D (.deferred none)
      have hr : ∀ r, some D = some r → ∃ o : Obj, Wd.heap[r]? = some o ∧ o.isCells = false := fun r e => by cases e; exact ⟨_, HD0.out, rfl⟩
      refine calm_ret1 (v := .tuple #[.pointer (some ⟨p', 0, none⟩), .slice ao tl cap, .bool true]) rfl HD0.out (by simp [results, Try.f10, go_sem]) ?_
      obtain ⟨h1, h2⟩ := HST.out
      rw [← HTL.out]
      have hsz := HQ.out.2.2.2.1.size
      have hlt : D < Wd.heap.size := (Array.getElem?_eq_some_iff.1 HD0.out).1
      refine ⟨p', a', g', { s with cap := kk, rest := rest' }, _, T, rfl, ⟨⟨h1.sl.hp.kept hg hr, h1.sl.ha.kept hg hr, h1.sl.hg.kept hg hr⟩, ⟨h1.rf.hr.kept hg hr, h1.rf.hg.kept hg hr⟩, h1.wf, h1.nt, row_keep h1.row (fun k hk => World.putObj_heap_other ?_), h1.lo⟩, by have h3 := HNB.out; have h4 := HTL.out; omega, h2.grown hg (by have := h2.size; have := HB.out; omega) (fun r e => by cases e; have h5 := HS4.out.sl.ha.lt; have := HB.out; have := HA'.out.2.2.2.1.size; have := HT6.out.size; omega)⟩
      rintro rfl
      obtain ⟨cs, h6⟩ := row_type h1.row hk
      rw [HD0.out] at h6
      cases h6
    case stop => exact fun _ _ _ _ _ _ h => h.elim
end Go.Proofs.Ytbbadkgmnfjfaaa
