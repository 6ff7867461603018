/- The reference model of a book: Swap, Scan. -/
import Derived.Test.YtcpmnkihhenbgaaRef5
namespace Go.Proofs.Ytcpmnkihhenbgaa
open Go.RowKit Go.Shelf
set_option maxRecDepth 1000000
set_option maxHeartbeats 4000000

theorem swapB_of {x o y : ByteArray} {l : List Pr} {K B : Nat} (ho : o.size ≤ 32) (hy : y.size ≤ 32) : swapB x o y l K B = if (getB x l).2 = 0 then (if (getB x l).1 = o then putB x y l K B else (l, 9)) else (l, (getB x l).2) := by
  unfold swapB
  by_cases hx : x.size ≤ 16
  · rw [if_pos ⟨hx, ho, hy⟩]
  · have hg : getB x l = (⟨#[]⟩, 2) := by unfold getB; rw [if_neg hx]
    rw [if_neg (fun h => hx h.1), hg]
    rfl
theorem rswap_any {W : World} {v : Value} {l : List Pr} (h : Seg W v l) (hs : SrtP l) (ht : TxtP l) (hn : l.length < 900) (x o y : ByteArray) (K B : Nat) :
    Calls Try.prog 33 #[rb v K B, .string x, .string o, .string y] W fun e' w' => ∃ v', e' = .returned (.tuple #[rb v' K B, .int .i64 (swapB x o y l K B).2]) ∧ Below W.heap.size W w' ∧ Seg w' v' (swapB x o y l K B).1 := by
  obtain ⟨a, cap, rfl, hcap, _⟩ := h.form
  obtain ⟨W1, hW1, b1, f1, f2, s1⟩ := rbox2 W (.slice a l.length cap) K B
  have HS := Lib.hid (h.below b1)
  have HB := Lib.hid b1
  have HW1 := Lib.hid hW1
  have HF1 := Lib.hid f1
  have HF2 := Lib.hid f2
  have HL := Lib.hid (And.intro hs (And.intro ht hn))
  have c0 := f1.cell 0
  have c1 := f1.cell 1
  have c2 := f1.cell 2
  have t0 := f2.cell 0
  have t1 := f2.cell 1
  have t2 := f2.cell 2
  have s0 := f2.thawed 0
  have s1' := f2.thawed 1
  have s2 := f2.thawed 2
  simp only [List.getElem?_toArray, List.getElem?_cons_zero, List.getElem?_cons_succ] at c0 c1 c2 t0 t1 t2
  have HG := Lib.hid (rget_any (h.below b1) hs ht (by omega) x K B)
  have HPU : Hid (∀ W', Below W1.heap.size W1 W' → Calls Try.prog 34 #[rb (.slice a l.length cap) K B, .string x, .string y] W' fun e' w' => ∃ v', e' = .returned (.tuple #[rb v' K B, .int .i64 (putB x y l K B).2]) ∧ Below W'.heap.size W' w' ∧ Seg w' v' (putB x y l K B).1) := fun W' hb => rput_any ((h.below b1).below hb) hs ht hn x y K B
  unfold rb at HG HPU
  by_cases hoy : o.size ≤ 32 ∧ y.size ≤ 32
  · rw [swapB_of hoy.1 hoy.2]
    have k1 : ¬ (32 : Int) < (o.size : Int) := by omega
    have k2 : ¬ (32 : Int) < (y.size : Int) := by omega
    obtain ⟨gv, ev, hg⟩ : ∃ gv ev, getB x l = (gv, ev) := ⟨_, _, rfl⟩
    rw [hg] at HG ⊢
    have HSW := Lib.hid (h.below b1)
    by_cases hev : ev = 0
    · subst hev
      rw [if_pos rfl]
      by_cases hgo : gv = o
      · rw [if_pos hgo]
        have heq : (gv.toList == o.toList) = true := by rw [kl_beq]; exact decide_eq_true hgo
        obtain ⟨L5, E5, h5⟩ : ∃ L5 E5, putB x y l K B = (L5, E5) := ⟨_, _, rfl⟩
        rw [h5] at HPU ⊢
        generalize hPost : (fun (e' : Ending) (w' : World) => ∃ v', e' = .returned (.tuple #[rb v' K B, .int .i64 E5]) ∧ Below W.heap.size W w' ∧ Seg w' v' L5) = Post
        have HPost := Lib.hid hPost
        clear hPost h b1 f1 f2 hW1 hs ht hn hg hgo hoy h5
        unfold rb
        go_enter Try.func33, Try.ntmps33
        go_upto_region 1 with fail
        rw [← HW1.out]
        go_wp2_with (first
          | (go_at_call 35; refine HG.out.mono ?_; rintro e4 w4 ⟨rfl, hb4⟩; have H4 := Lib.hid hb4; have c0 := (hb4.cell (cell_lt c0)).trans c0; have c1 := (hb4.cell (cell_lt c1)).trans c1; have c2 := (hb4.cell (cell_lt c2)).trans c2; have f5 := HF2.out.below hb4; have t0 := f5.cell 0; have t1 := f5.cell 1; have t2 := f5.cell 2; have s0 := f5.thawed 0; have s1' := f5.thawed 1; have s2 := f5.thawed 2; simp only [List.getElem?_toArray, List.getElem?_cons_zero, List.getElem?_cons_succ] at t0 t1 t2; clear hb4 f5)
          | (go_at_call 34; refine (HPU.out _ H4.out).mono ?_; rintro e5 w5 ⟨v5, rfl, hb5, hS5⟩; obtain ⟨a5, k5, rfl, _, _⟩ := hS5.form; have H5 := Lib.hid (And.intro (Below.step H4.out hb5) hS5); have f5 := HF2.out.below (Below.step H4.out hb5); have t0 := f5.cell 0; have t1 := f5.cell 1; have t2 := f5.cell 2; have s0 := f5.thawed 0; have s1' := f5.thawed 1; have s2 := f5.thawed 2; simp only [List.getElem?_toArray, List.getElem?_cons_zero, List.getElem?_cons_succ] at t0 t1 t2; clear hb5 hS5 f5))
        obtain ⟨Wz, hWz⟩ : ∃ Wz, Wz = stored w5 (W.heap.size + 1) (Value.slice a5 L5.length k5) K B := ⟨_, rfl⟩
        have hFw := HF2.out.below H5.out.1
        have hFz := stored_box hFw rfl (Value.slice a5 L5.length k5) K B
        have hR := told (K := K) (B := B) (Below.step HB.out H5.out.1) H5.out.2 hFw (Nat.le_succ _)
        rw [← hWz] at hFz hR
        unfold stored at hWz
        rw [← hWz]
        have q0 := hFz.cell 0
        have q1 := hFz.cell 1
        have q2 := hFz.cell 2
        simp only [List.getElem?_toArray, List.getElem?_cons_zero, List.getElem?_cons_succ] at q0 q1 q2
        refine bodyPost_ret (v := .tuple #[rb (Value.slice a5 L5.length k5) K B, .int .i64 E5]) (by simp [results, Try.results33, go_sem, rb, q0, q1, q2]) rfl ?_
        rw [← HPost.out]
        exact ⟨_, rfl, hR⟩
      · rw [if_neg hgo]
        have heq : (gv.toList == o.toList) = false := by rw [kl_beq]; exact decide_eq_false hgo
        generalize hPost : (fun (e' : Ending) (w' : World) => ∃ v', e' = .returned (.tuple #[rb v' K B, .int .i64 9]) ∧ Below W.heap.size W w' ∧ Seg w' v' l) = Post
        have HPost := Lib.hid hPost
        clear hPost h b1 f1 f2 hW1 hs ht hn hg hgo hoy
        unfold rb
        go_enter Try.func33, Try.ntmps33
        go_upto_region 1 with fail
        rw [← HW1.out]
        go_wp2_with (first
          | (go_at_call 35; refine HG.out.mono ?_; rintro e4 w4 ⟨rfl, hb4⟩; have H4 := Lib.hid hb4; have c0 := (hb4.cell (cell_lt c0)).trans c0; have c1 := (hb4.cell (cell_lt c1)).trans c1; have c2 := (hb4.cell (cell_lt c2)).trans c2; have f5 := HF2.out.below hb4; have t0 := f5.cell 0; have t1 := f5.cell 1; have t2 := f5.cell 2; have s0 := f5.thawed 0; have s1' := f5.thawed 1; have s2 := f5.thawed 2; simp only [List.getElem?_toArray, List.getElem?_cons_zero, List.getElem?_cons_succ] at t0 t1 t2; clear hb4 f5))
        obtain ⟨Wz, hWz⟩ : ∃ Wz, Wz = stored w4 (W.heap.size + 1) (Value.slice a l.length cap) K B := ⟨_, rfl⟩
        have hFw := HF2.out.below H4.out
        have hFz := stored_box hFw rfl (Value.slice a l.length cap) K B
        have hR := told (K := K) (B := B) (Below.step HB.out H4.out) (HSW.out.below H4.out) hFw (Nat.le_succ _)
        rw [← hWz] at hFz hR
        unfold stored at hWz
        rw [← hWz]
        have q0 := hFz.cell 0
        have q1 := hFz.cell 1
        have q2 := hFz.cell 2
        simp only [List.getElem?_toArray, List.getElem?_cons_zero, List.getElem?_cons_succ] at q0 q1 q2
        refine bodyPost_ret (v := .tuple #[rb (Value.slice a l.length cap) K B, .int .i64 9]) (by simp [results, Try.results33, go_sem, rb, q0, q1, q2]) rfl ?_
        rw [← HPost.out]
        exact ⟨_, rfl, hR⟩
    · rw [if_neg hev]
      generalize hPost : (fun (e' : Ending) (w' : World) => ∃ v', e' = .returned (.tuple #[rb v' K B, .int .i64 ev]) ∧ Below W.heap.size W w' ∧ Seg w' v' l) = Post
      have HPost := Lib.hid hPost
      clear hPost h b1 f1 f2 hW1 hs ht hn hg hoy
      unfold rb
      go_enter Try.func33, Try.ntmps33
      go_upto_region 1 with fail
      rw [← HW1.out]
      go_wp2_with (first
        | (go_at_call 35; refine HG.out.mono ?_; rintro e4 w4 ⟨rfl, hb4⟩; have H4 := Lib.hid hb4; have c0 := (hb4.cell (cell_lt c0)).trans c0; have c1 := (hb4.cell (cell_lt c1)).trans c1; have c2 := (hb4.cell (cell_lt c2)).trans c2; have f5 := HF2.out.below hb4; have t0 := f5.cell 0; have t1 := f5.cell 1; have t2 := f5.cell 2; have s0 := f5.thawed 0; have s1' := f5.thawed 1; have s2 := f5.thawed 2; simp only [List.getElem?_toArray, List.getElem?_cons_zero, List.getElem?_cons_succ] at t0 t1 t2; clear hb4 f5))
      obtain ⟨Wz, hWz⟩ : ∃ Wz, Wz = stored w4 (W.heap.size + 1) (Value.slice a l.length cap) K B := ⟨_, rfl⟩
      have hFw := HF2.out.below H4.out
      have hFz := stored_box hFw rfl (Value.slice a l.length cap) K B
      have hR := told (K := K) (B := B) (Below.step HB.out H4.out) (HSW.out.below H4.out) hFw (Nat.le_succ _)
      rw [← hWz] at hFz hR
      unfold stored at hWz
      rw [← hWz]
      have q0 := hFz.cell 0
      have q1 := hFz.cell 1
      have q2 := hFz.cell 2
      simp only [List.getElem?_toArray, List.getElem?_cons_zero, List.getElem?_cons_succ] at q0 q1 q2
      refine bodyPost_ret (v := .tuple #[rb (Value.slice a l.length cap) K B, .int .i64 ev]) (by simp [results, Try.results33, go_sem, rb, q0, q1, q2]) rfl ?_
      rw [← HPost.out]
      exact ⟨_, rfl, hR⟩
  · have hd : swapB x o y l K B = (l, 2) := by unfold swapB; rw [if_neg (fun h => hoy h.2)]
    rw [hd]
    have HSW := Lib.hid (h.below b1)
    have k12 : (32 : Int) < (o.size : Int) ∨ ¬ (32 : Int) < (o.size : Int) ∧ (32 : Int) < (y.size : Int) := by omega
    generalize hPost : (fun (e' : Ending) (w' : World) => ∃ v', e' = .returned (.tuple #[rb v' K B, .int .i64 2]) ∧ Below W.heap.size W w' ∧ Seg w' v' l) = Post
    have HPost := Lib.hid hPost
    clear hPost h b1 f1 f2 hW1 hs ht hn hd hoy
    unfold rb
    go_enter Try.func33, Try.ntmps33
    go_upto_region 1 with fail
    rw [← HW1.out]
    rcases k12 with k | ⟨k, k2⟩
    all_goals
      go_wp2_with fail
    all_goals
      obtain ⟨Wz, hWz⟩ : ∃ Wz, Wz = stored W1 (W.heap.size + 1) (Value.slice a l.length cap) K B := ⟨_, rfl⟩
      have hFw := HF2.out.below (Below.refl _ _)
      have hFz := stored_box hFw rfl (Value.slice a l.length cap) K B
      have hR := told (K := K) (B := B) (Below.step HB.out (Below.refl _ _)) HSW.out hFw (Nat.le_succ _)
      rw [← hWz] at hFz hR
      unfold stored at hWz
      rw [← hWz]
      have q0 := hFz.cell 0
      have q1 := hFz.cell 1
      have q2 := hFz.cell 2
      simp only [List.getElem?_toArray, List.getElem?_cons_zero, List.getElem?_cons_succ] at q0 q1 q2
      refine bodyPost_ret (v := .tuple #[rb (Value.slice a l.length cap) K B, .int .i64 2]) (by simp [results, Try.results33, go_sem, rb, q0, q1, q2]) rfl ?_
      rw [← HPost.out]
      exact ⟨_, rfl, hR⟩
theorem rscan_any {W : World} {v : Value} {l : List Pr} (h : Seg W v l) (hs : SrtP l) (ht : TxtP l) (hn : l.length < 900) (x : ByteArray) (lim : Int) (K B : Nat) :
    Calls Try.prog 15 #[rb v K B, .string x, .int .i64 lim] W fun e' w' => ∃ v', e' = .returned (.tuple #[v', .int .i64 (scanB x lim l).2]) ∧ Below W.heap.size W w' ∧ Seg w' v' (scanB x lim l).1 := by
  obtain ⟨a, cap, rfl, hcap, _⟩ := h.form
  obtain ⟨W1, hW1, b1, f1⟩ := rbox W (.slice a l.length cap) K B
  have HS := Lib.hid (h.below b1)
  have HB := Lib.hid b1
  have HW1 := Lib.hid hW1
  have HF1 := Lib.hid f1
  have HN := Lib.hid hn
  have c0 := f1.cell 0
  have c1 := f1.cell 1
  have c2 := f1.cell 2
  simp only [List.getElem?_toArray, List.getElem?_cons_zero, List.getElem?_cons_succ] at c0 c1 c2
  by_cases hx : x.size ≤ 16 ∧ 0 ≤ lim ∧ lim ≤ 4096
  · obtain ⟨hx1, hx2, hx3⟩ := hx
    obtain ⟨N, rfl⟩ : ∃ N : Nat, lim = (N : Int) := ⟨lim.toNat, by omega⟩
    have hN : N ≤ 4096 := by omega
    rw [scanB_ok hx1 hN]
    have hA : atK x (keys l) ≤ l.length := by rw [← keys_len]; exact atK_le _ _
    have HAT : Hid (∀ d os, Calls Try.prog 41 #[.agg #[.slice a l.length cap, .int .u64 (K : Int), .int .u64 (B : Int)], .string x] (Sort.grow (redrawn W1 d) os) fun e' w' => e' = .returned (.int .i64 (atK x (keys l) : Nat)) ∧ Below (Sort.grow (redrawn W1 d) os).heap.size (Sort.grow (redrawn W1 d) os) w') := fun d os => rat_any ((h.below b1).below (below_regrown W1 d os)) hs ht (by omega) x K B
    obtain ⟨A, hAe⟩ : ∃ A, atK x (keys l) = A := ⟨_, rfl⟩
    rw [hAe] at HAT hA ⊢
    have HA := Lib.hid hA
    have k1 : ¬ (16 : Int) < (x.size : Int) := by omega
    have k2 : ¬ (N : Int) < 0 := by omega
    have k3 : ¬ (4096 : Int) < (N : Int) := by omega
    have j0 : (0 : Int) ≤ (A : Int) := by omega
    have j1 : (A : Int) ≤ (l.length : Int) := by omega
    have j2 : A ≤ l.length := hA
    have g0 := fun d os => cell_regrown c0 d os
    have g1 := fun d os => cell_regrown c1 d os
    have g2 := fun d os => cell_regrown c2 d os
    generalize hPost : (fun (e' : Ending) (w' : World) => ∃ v', e' = .returned (.tuple #[v', .int .i64 (((l.drop A).take N, (0 : Int)) : List Pr × Int).2]) ∧ Below W.heap.size W w' ∧ Seg w' v' (((l.drop A).take N, (0 : Int)) : List Pr × Int).1) = Post
    have HPost := Lib.hid hPost
    clear hPost h b1 f1 hW1 hs ht hn hx1 hx2 hx3 hAe hA hN
    unfold rb
    go_enter Try.func15, Try.ntmps15
    go_upto_region 1 with fail
    rw [← HW1.out]
    go_upto_region 3 with fail
    refine wp_region_quiet_below (by kernel_rfl) (by kernel_rfl) ?_
    repeat (any_goals (first | go_big_quiet_step ((go_at_call 41; with_reducible exact Calls.regrown_of (HAT.out _ _))) | quiet_step (fail)))
    all_goals
      refine wpQuiet_nil ?_
      intro w3 hw3
      have b3 : Below W1.heap.size W1 w3 := by obtain ⟨p, rfl⟩ := hw3; exact below_regrown _ _ _
      have hS2 := (HS.out.below b3).drop HA.out
      unfold fromAd at hS2
      obtain ⟨ad, had⟩ : ∃ ad, (if cap = A then a else Option.map (fun x : Addr => x.add (A * 2)) a) = ad := ⟨_, rfl⟩
      obtain ⟨n2, hn2⟩ : ∃ n2, l.length - A = n2 := ⟨_, rfl⟩
      obtain ⟨k4, hk4⟩ : ∃ k4, cap - A = k4 := ⟨_, rfl⟩
      rw [had, hn2, hk4] at hS2
      rw [had, hn2, hk4]
      obtain ⟨r, hr⟩ : ∃ r, Nat.min N n2 = r := ⟨_, rfl⟩
      have hr2 : r ≤ n2 := by rw [← hr]; exact Nat.min_le_right _ _
      have hnk : n2 ≤ k4 := by omega
      have jmin : min (N : Int) (n2 : Int) = (r : Int) := by
        rw [← hr]
        simp only [Nat.min_def, Int.min_def]
        split <;> split <;> omega
      have j5 : (0 : Int) ≤ (r : Int) := by omega
      have j6 : (r : Int) ≤ (k4 : Int) := by omega
      have j7 : r ≤ k4 := by omega
      obtain ⟨v5, W5, r5, o5, gb⟩ := app_seg (row_none w3) ((hS2.take hr2).below (Below.new (Below.refl _ _) _)) (by simp) (by have := HN.out; simp; omega)
      have b5 : Below w3.heap.size w3 W5 := Below.grown2 (Below.new (Below.refl _ _) _) gb (fun z hz => ((row_none w3).lt z hz).1)
      have htk : [] ++ (l.drop A).take r = (l.drop A).take N := by
        rw [List.nil_append, ← hr]
        rcases Nat.le_total N n2 with h | h
        · rw [show Nat.min N n2 = N from Nat.min_eq_left h]
        · rw [show Nat.min N n2 = n2 from Nat.min_eq_right h, List.take_of_length_le (by simp; omega), List.take_of_length_le (by simp; omega)]
      rw [htk] at o5
      have H5 := Lib.hid (And.intro (Below.step HB.out (Below.step b3 b5)) (Seg.of_row o5))
      clear b3 hS2 had hn2 hk4 hr hr2 o5 gb b5 htk hw3 g0 g1 g2 HAT
      go_wp2_with (at_builtin; refine Lib.wpList_append_run _ rfl _ _ _ _ rfl _ _ rfl rfl _ _ (r5 _) ?_)
      rw [← HPost.out]
      exact ⟨v5, rfl, H5.out⟩
  · have hd : scanB x lim l = ([], 2) := by
      unfold scanB
      by_cases h1 : x.size ≤ 16
      · rw [if_pos h1, if_neg (fun h => hx ⟨h1, h⟩)]
      · rw [if_neg h1]
    rw [hd]
    have k : (16 : Int) < (x.size : Int) ∨ ¬ (16 : Int) < (x.size : Int) ∧ lim < 0 ∨ ¬ (16 : Int) < (x.size : Int) ∧ ¬ lim < 0 ∧ 4096 < lim := by omega
    clear h b1 f1 hW1 hs ht hn hd hx
    unfold rb
    go_enter Try.func15, Try.ntmps15
    go_upto_region 1 with fail
    rw [← HW1.out]
    rcases k with k | ⟨k, k2⟩ | ⟨k, k2, k3⟩
    all_goals
      go_wp2_with fail
    all_goals
      go_ret2
      exact ⟨_, rfl, HB.out, Seg.nil _⟩
end Go.Proofs.Ytcpmnkihhenbgaa
