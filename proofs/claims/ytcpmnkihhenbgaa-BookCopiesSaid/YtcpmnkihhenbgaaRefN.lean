/- The reference model of a book: Put, Delete, Swap, with where its list lies behind them. -/
import Derived.Test.YtcpmnkihhenbgaaRef6
namespace Go.Proofs.Ytcpmnkihhenbgaa
open Go.RowKit Go.Shelf
set_option maxRecDepth 1000000
set_option maxHeartbeats 4000000

/-- A list that lies where the old one lay, or in a new block. -/
def SegN (W w' : World) (v v' : Value) (l : List Pr) : Prop := Seg w' v' l ∧ ∀ g, v'.ownBlock = some g → v.ownBlock = some g ∨ W.heap.size ≤ g
namespace Nw
theorem rput_bad {W : World} {v : Value} {l : List Pr} (h : Seg W v l) (x y : ByteArray) (K B : Nat) (hxy : ¬ (x.size ≤ 16 ∧ y.size ≤ 32)) :
    Calls Try.prog 34 #[rb v K B, .string x, .string y] W fun e' w' => ∃ v', e' = .returned (.tuple #[rb v' K B, .int .i64 2]) ∧ Below W.heap.size W w' ∧ SegN W w' v v' l := by
  obtain ⟨a, cap, rfl, _, _⟩ := h.form
  obtain ⟨W1, hW1, b1, f1, f2, s1⟩ := rbox2 W (.slice a l.length cap) K B
  have HS := Lib.hid h
  have HB := Lib.hid b1
  have HW1 := Lib.hid hW1
  have HF2 := Lib.hid f2
  have c0 := f1.cell 0
  have c1 := f1.cell 1
  have c2 := f1.cell 2
  have t0 := f2.cell 0
  have t1 := f2.cell 1
  have t2 := f2.cell 2
  have s0 := f2.thawed 0
  have s1' := f2.thawed 1
  have s2 := f2.thawed 2
  simp only [List.getElem?_toArray, List.getElem?_cons_zero, List.getElem?_cons_succ] at c0 c1 c2 t0 t1 t2
  generalize hPost : (fun (e' : Ending) (w' : World) => ∃ v', e' = .returned (.tuple #[rb v' K B, .int .i64 2]) ∧ Below W.heap.size W w' ∧ SegN W w' (.slice a l.length cap) v' l) = Post
  have HPost := Lib.hid hPost
  have k16 : ¬ (x.size : Int) ≤ 16 ∨ (x.size : Int) ≤ 16 ∧ ¬ (y.size : Int) ≤ 32 := by omega
  clear hPost h b1 f1 f2 hW1 hxy
  unfold rb
  go_enter Try.func34, Try.ntmps34
  go_upto_region 1 with fail
  rw [← HW1.out]
  rcases k16 with k | ⟨k, k2⟩
  all_goals
    go_wp2_with fail
  all_goals
    obtain ⟨W7, hW7⟩ : ∃ W7, W7 = stored W1 (W.heap.size + 1) (.slice a l.length cap) K B := ⟨_, rfl⟩
    have hF7 := stored_box HF2.out rfl (.slice a l.length cap) K B
    have hT := stored_turned W1 (W.heap.size + 1) (.slice a l.length cap) K B
    rw [← hW7] at hF7 hT
    unfold stored at hW7
    rw [← hW7]
    have r0 := hF7.cell 0
    have r1 := hF7.cell 1
    have r2 := hF7.cell 2
    simp only [List.getElem?_toArray, List.getElem?_cons_zero, List.getElem?_cons_succ] at r0 r1 r2
    refine bodyPost_ret (v := .tuple #[rb (.slice a l.length cap) K B, .int .i64 2]) (by simp [results, Try.results34, go_sem, rb, r0, r1, r2]) rfl ?_
    rw [← HPost.out]
    have hb : Below W.heap.size W W7 := Turned.below (S := [W.heap.size + 1]) HB.out hT (by simp) HB.out.size
    exact ⟨_, rfl, hb, HS.out.below hb, fun g hg => .inl hg⟩
theorem rput_ok {W : World} {v : Value} {l : List Pr} (h : Seg W v l) (hs : SrtP l) (ht : TxtP l) (hn : l.length < 900) (x y : ByteArray) (K B : Nat) (hx : x.size ≤ 16) (hy : y.size ≤ 32) :
    Calls Try.prog 34 #[rb v K B, .string x, .string y] W fun e' w' => ∃ v', e' = .returned (.tuple #[rb v' K B, .int .i64 (putB x y l K B).2]) ∧ Below W.heap.size W w' ∧ SegN W w' v v' (putB x y l K B).1 := by
  obtain ⟨a, cap, rfl, hcap, _⟩ := h.form
  obtain ⟨W1, hW1, b1, f1, f2, s1⟩ := rbox2 W (.slice a l.length cap) K B
  have HSW := Lib.hid h
  have HS := Lib.hid (h.below b1)
  have HB := Lib.hid b1
  have HW1 := Lib.hid hW1
  have HF1 := Lib.hid f1
  have HF2 := Lib.hid f2
  have HL := Lib.hid (And.intro hs (And.intro ht hn))
  have HS1 := Lib.hid s1
  have c0 := f1.cell 0
  have c1 := f1.cell 1
  have c2 := f1.cell 2
  simp only [List.getElem?_toArray, List.getElem?_cons_zero, List.getElem?_cons_succ] at c0 c1 c2
  have HWO := Lib.hid (rwithout_any (h.below b1) hs ht (by omega) x K B)
  obtain ⟨L2, hL2⟩ : ∃ L2, dropP x l = L2 := ⟨_, rfl⟩
  rw [hL2] at HWO
  have HL2 := Lib.hid hL2
  generalize hPost : (fun (e' : Ending) (w' : World) => ∃ v', e' = .returned (.tuple #[rb v' K B, .int .i64 (putB x y l K B).2]) ∧ Below W.heap.size W w' ∧ SegN W w' (.slice a l.length cap) v' (putB x y l K B).1) = Post
  have HPost := Lib.hid hPost
  have k16 : ¬ (16 : Int) < (x.size : Int) := by omega
  have k32 : ¬ (32 : Int) < (y.size : Int) := by omega
  have HXY := Lib.hid (And.intro hx hy)
  clear hPost h b1 f1 f2 hW1 hx hy hL2 hs ht hn s1
  unfold rb at HWO ⊢
  go_enter Try.func34, Try.ntmps34
  go_upto_region 1 with fail
  rw [← HW1.out]
  go_upto_region 4 with (go_at_call 50; refine HWO.out.mono ?_; rintro e2 w2 ⟨v2, rfl, hb2, ho2⟩; obtain ⟨a2, k2, rfl⟩ := row_form ho2; have H2 := Lib.hid (And.intro hb2 ho2); clear hb2 ho2)
  obtain ⟨W3, hW3⟩ : ∃ W3, W3 = w2.alloc (.cells #[.slice a2 L2.length k2, .int .u64 (K : Int), .int .u64 (B : Int)] 31) := ⟨_, rfl⟩
  have b3 : Below w2.heap.size w2 W3 := by rw [hW3]; exact Below.new (Below.refl _ _) _
  have f3 : Fresh W3 w2.heap.size #[.slice a2 L2.length k2, .int .u64 (K : Int), .int .u64 (B : Int)] 31 := by rw [hW3]; exact Fresh.new _ _ _ _ rfl
  have hS3 : Seg W3 (.slice a2 L2.length k2) L2 := (Seg.of_row H2.out.2).below b3
  have hG2 : SrtP L2 ∧ TxtP L2 ∧ L2.length < 900 := by
    have := drop_len x l
    rw [← HL2.out]
    exact ⟨drop_srt HL.out.1, drop_txt HL.out.2.1, by have := HL.out.2.2; omega⟩
  have HAT := Lib.hid (rat_any hS3 hG2.1 hG2.2.1 (by omega) x K B)
  have hA : atK x (keys L2) ≤ L2.length := by rw [← keys_len]; exact atK_le _ _
  obtain ⟨A, hAe⟩ : ∃ A, atK x (keys L2) = A := ⟨_, rfl⟩
  rw [hAe] at HAT hA
  have HAE := Lib.hid hAe
  have HA := Lib.hid hA
  have HG2 := Lib.hid hG2
  have HS3 := Lib.hid hS3
  have HF3 := Lib.hid f3
  have HB3 := Lib.hid (Below.step H2.out.1 b3)
  have x0 := f3.cell 0
  have x1 := f3.cell 1
  have x2 := f3.cell 2
  simp only [List.getElem?_toArray, List.getElem?_cons_zero, List.getElem?_cons_succ] at x0 x1 x2
  have hk2 := row_cap H2.out.2
  have HK2 := Lib.hid hk2
  rw [← hW3]
  clear hW3 b3 f3 hS3 hG2 hAe hA c0 c1 c2
  unfold rb at HAT
  have j0 : (0 : Int) ≤ (A : Int) := by omega
  have j1 : (A : Int) ≤ (k2 : Int) := by have := HA.out; have := HK2.out; omega
  have j2 : A ≤ k2 := by have := HA.out; have := HK2.out; omega
  have j3 : (A : Int) ≤ (L2.length : Int) := by have := HA.out; omega
  have j4 : A ≤ L2.length := HA.out
  go_upto_region 5 with (go_at_call 41; refine HAT.out.mono ?_; rintro e4 w4 ⟨rfl, hb4⟩; have H4 := Lib.hid hb4; have x0 := (hb4.cell (cell_lt x0)).trans x0; clear hb4)
  obtain ⟨a5, k5, W5, a6, k6, W6, a7, k7, W7, r5, r6, r7, b5, b6, b7, o7⟩ := ins_steps (HS3.out.below H4.out) HA.out (by have := HG2.out.2.2; omega) x y
  have ca : (w4.alloc (.cells #[] 49)).cell? ⟨w2.heap.size, 0, none⟩ = some (.slice a2 L2.length k2) := ((Below.new (Below.refl w4.heap.size w4) _).cell (p := ⟨w2.heap.size, 0, none⟩) (cell_lt x0)).trans x0
  have c6 := (b6.cell (cell_lt x0)).trans x0
  have f7 := (HF3.out.below H4.out).below b7
  have c7 := f7.cell 0
  have z7 := f7.thawed 0
  simp only [List.getElem?_toArray, List.getElem?_cons_zero, List.getElem?_cons_succ] at c7
  have H7 := Lib.hid (And.intro b7 (And.intro o7 f7))
  clear b5 b6 b7 o7 f7
  go_wp2_with (first
    | (at_builtin; refine Lib.wpList_append_run _ rfl _ _ _ _ rfl _ _ rfl rfl _ _ (r5 _) ?_; clear r5 ca)
    | (at_builtin; refine Lib.wpList_append_run _ rfl _ _ _ _ rfl _ _ rfl rfl _ _ (r6 _) ?_; clear r6)
    | (at_builtin; refine Lib.wpList_append_run _ rfl _ _ _ _ rfl _ _ rfl rfl _ _ (r7 _) ?_; clear r7))
  all_goals
    obtain ⟨W8, hW8⟩ : ∃ W8, W8 = W7.setCell ⟨w2.heap.size, 0, none⟩ (.slice a7 (L2.length + 1) k7) := ⟨_, rfl⟩
    rw [← hW8]
    have hT8 : Turned [w2.heap.size] W7 W8 := by rw [hW8]; exact (Turned.refl _ _).setCell (.inl (by simp)) _ _
    have hs2 : W1.heap.size ≤ w2.heap.size := H2.out.1.size
    have h17 : Below W1.heap.size W1 W7 := Below.step HB3.out (Below.step H4.out H7.out.1)
    have h18 : Below W1.heap.size W1 W8 := Turned.below (S := [w2.heap.size]) h17 hT8 (by simp; omega) h17.size
    obtain ⟨L7, hL7⟩ : ∃ L7, L2.take A ++ (x, y) :: L2.drop A = L7 := ⟨_, rfl⟩
    have hput : putP x y l = L7 := by
      rw [← hL7, ← HAE.out, ← HL2.out]
      rfl
    have o7 := H7.out.2.1
    rw [hL7] at o7
    have hl7 : L7.length = L2.length + 1 := by rw [← hL7]; simp; have := HA.out; omega
    have hw24 : w2.heap.size < w4.heap.size := Nat.lt_of_lt_of_le HF3.out.lt H4.out.size
    have HGE : Hid (∀ g, (Value.slice a7 (L2.length + 1) k7).ownBlock = some g → W.heap.size ≤ g) := fun g hg => Nat.le_trans (by have h1 := HB.out.size; omega) (o7.lt g hg).1
    have HSE : Hid (Seg W8 (.slice a7 (L2.length + 1) k7) L7) := Seg.of_row (B := w4.heap.size) (row_keep o7 fun k hk => hT8.block k (o7.lt k hk).2 (fun e => by have := (o7.lt k hk).1; simp at e; omega))
    have f8 : Fresh W8 w2.heap.size #[.slice a7 (L2.length + 1) k7, .int .u64 (K : Int), .int .u64 (B : Int)] 31 := by rw [hW8]; exact H7.out.2.2.set 0 _
    have H8 : Hid (Below W.heap.size W W8 ∧ Fresh W8 w2.heap.size #[.slice a7 (L2.length + 1) k7, .int .u64 (K : Int), .int .u64 (B : Int)] 31 ∧ True ∧ Fresh W8 W.heap.size #[.slice a l.length cap, .int .u64 (K : Int), .int .u64 (B : Int)] 31 ∧ Fresh W8 (W.heap.size + 1) #[.slice none 0 0, .int .u64 0, .int .u64 0] 31) := ⟨Below.step HB.out h18, f8, trivial, HF1.out.below h18, HF2.out.below h18⟩
    have HS0 : Hid (Seg W (.slice a l.length cap) l) := HSW.out
    have hg7 : TxtP L7 := by rw [← hput]; exact put_txt HL.out.2.1 HXY.out.1 HXY.out.2
    have HG7 := Lib.hid (And.intro hg7 hl7)
    have HPUT := Lib.hid hput
    have g0 := fun d os => cell_regrown (f8.cell 0) d os
    have g1 := fun d os => cell_regrown (f8.cell 1) d os
    have g2 := fun d os => cell_regrown (f8.cell 2) d os
    have g3 := fun d os => cell_regrown (H8.out.2.2.2.1.cell 1) d os
    have g4 := fun d os => cell_regrown (H8.out.2.2.2.1.cell 2) d os
    have HKE : Hid (∀ d os, Calls Try.prog 36 #[.agg #[.slice a7 (L2.length + 1) k7, .int .u64 (K : Int), .int .u64 (B : Int)]] (Sort.grow (redrawn W8 d) os) fun e' w' => e' = .returned (.int .u64 (L7.length : Nat)) ∧ Below (Sort.grow (redrawn W8 d) os).heap.size (Sort.grow (redrawn W8 d) os) w') := fun d os => rkeys_any (HSE.out.below (below_regrown W8 d os)) (by rw [hl7]; have := HG2.out.2.2; omega) K B
    have HBY : Hid (∀ d os, Calls Try.prog 37 #[.agg #[.slice a7 (L2.length + 1) k7, .int .u64 (K : Int), .int .u64 (B : Int)]] (Sort.grow (redrawn W8 d) os) fun e' w' => e' = .returned (.int .u64 (lenP L7 : Nat)) ∧ Below (Sort.grow (redrawn W8 d) os).heap.size (Sort.grow (redrawn W8 d) os) w') := fun d os => rbytes_any (HSE.out.below (below_regrown W8 d os)) hg7 (by rw [hl7]; have := HG2.out.2.2; omega) K B
    clear hW8 hT8 hs2 h17 h18 hL7 o7 hw24 f8 hg7 x0 x1 x2 c6 c7 z7 hput hl7
    by_cases hc1 : K < L7.length
    · have u1 : decide (K < L7.length) = true := decide_eq_true hc1
      have u2 : (K : Int) < (L7.length : Int) := by omega
      have hpb : putB x y l K B = (l, 10) := by
        unfold putB
        rw [if_pos HXY.out, HPUT.out, if_neg (fun h => by omega)]
      · refine wp_region_quiet_below (by kernel_rfl) (by kernel_rfl) ?_
        repeat (any_goals (first | go_big_quiet_step (first
          | (go_at_call 36; with_reducible exact Calls.regrown_of (HKE.out _ _))) | quiet_step (fail)))
        refine wpQuiet_nil ?_
        intro w9 hw9
        have H9 : Hid (Below W8.heap.size W8 w9) := by obtain ⟨p, rfl⟩ := hw9; exact below_regrown _ _ _
        clear hw9 g0 g1 g2 g3 g4 HKE HBY
        have f9 := (H8.out.2.2.2.1).below H9.out
        have r9 := (H8.out.2.2.2.2).below H9.out
        have e0 := f9.cell 0
        have e1 := f9.cell 1
        have e2 := f9.cell 2
        have t0 := r9.cell 0
        have t1 := r9.cell 1
        have t2 := r9.cell 2
        have s0 := r9.thawed 0
        have s1 := r9.thawed 1
        have s2 := r9.thawed 2
        simp only [List.getElem?_toArray, List.getElem?_cons_zero, List.getElem?_cons_succ] at e0 e1 e2 t0 t1 t2
        go_wp2_with fail
        obtain ⟨Wz, hWz⟩ : ∃ Wz, Wz = stored w9 (W.heap.size + 1) (.slice a l.length cap) K B := ⟨_, rfl⟩
        have hFz := stored_box r9 rfl (.slice a l.length cap) K B
        have hTz := stored_turned w9 (W.heap.size + 1) (.slice a l.length cap) K B
        rw [← hWz] at hFz hTz
        unfold stored at hWz
        rw [← hWz]
        have q0 := hFz.cell 0
        have q1 := hFz.cell 1
        have q2 := hFz.cell 2
        simp only [List.getElem?_toArray, List.getElem?_cons_zero, List.getElem?_cons_succ] at q0 q1 q2
        refine bodyPost_ret (v := .tuple #[rb (.slice a l.length cap) K B, .int .i64 10]) (by simp [results, Try.results34, go_sem, rb, q0, q1, q2]) rfl ?_
        rw [← HPost.out, hpb]
        have hb : Below W.heap.size W Wz := Turned.below (S := [W.heap.size + 1]) (Below.step H8.out.1 H9.out) hTz (by simp) (Below.step H8.out.1 H9.out).size
        refine ⟨_, rfl, hb, ?_⟩
        exact ⟨HS0.out.below hb, fun g hg => .inl hg⟩
    · have u1 : decide (K < L7.length) = false := decide_eq_false hc1
      have u2 : ¬ (K : Int) < (L7.length : Int) := by omega
      by_cases hc2 : B < lenP L7
      · have u3 : decide (B < lenP L7) = true := decide_eq_true hc2
        have u4 : (B : Int) < (lenP L7 : Int) := by omega
        have hpb : putB x y l K B = (l, 10) := by
          unfold putB
          rw [if_pos HXY.out, HPUT.out, if_neg (fun h => by omega)]
        refine wp_region_quiet_below (by kernel_rfl) (by kernel_rfl) ?_
        repeat (any_goals (first | go_big_quiet_step (first
          | (go_at_call 36; with_reducible exact Calls.regrown_of (HKE.out _ _))
          | (go_at_call 37; with_reducible exact Calls.regrown_of (HBY.out _ _))) | quiet_step (fail)))
        refine wpQuiet_nil ?_
        intro w9 hw9
        have H9 : Hid (Below W8.heap.size W8 w9) := by obtain ⟨p, rfl⟩ := hw9; exact below_regrown _ _ _
        clear hw9 g0 g1 g2 g3 g4 HKE HBY
        have f9 := (H8.out.2.2.2.1).below H9.out
        have r9 := (H8.out.2.2.2.2).below H9.out
        have e0 := f9.cell 0
        have e1 := f9.cell 1
        have e2 := f9.cell 2
        have t0 := r9.cell 0
        have t1 := r9.cell 1
        have t2 := r9.cell 2
        have s0 := r9.thawed 0
        have s1 := r9.thawed 1
        have s2 := r9.thawed 2
        simp only [List.getElem?_toArray, List.getElem?_cons_zero, List.getElem?_cons_succ] at e0 e1 e2 t0 t1 t2
        go_wp2_with fail
        obtain ⟨Wz, hWz⟩ : ∃ Wz, Wz = stored w9 (W.heap.size + 1) (.slice a l.length cap) K B := ⟨_, rfl⟩
        have hFz := stored_box r9 rfl (.slice a l.length cap) K B
        have hTz := stored_turned w9 (W.heap.size + 1) (.slice a l.length cap) K B
        rw [← hWz] at hFz hTz
        unfold stored at hWz
        rw [← hWz]
        have q0 := hFz.cell 0
        have q1 := hFz.cell 1
        have q2 := hFz.cell 2
        simp only [List.getElem?_toArray, List.getElem?_cons_zero, List.getElem?_cons_succ] at q0 q1 q2
        refine bodyPost_ret (v := .tuple #[rb (.slice a l.length cap) K B, .int .i64 10]) (by simp [results, Try.results34, go_sem, rb, q0, q1, q2]) rfl ?_
        rw [← HPost.out, hpb]
        have hb : Below W.heap.size W Wz := Turned.below (S := [W.heap.size + 1]) (Below.step H8.out.1 H9.out) hTz (by simp) (Below.step H8.out.1 H9.out).size
        refine ⟨_, rfl, hb, ?_⟩
        exact ⟨HS0.out.below hb, fun g hg => .inl hg⟩
      · have u3 : decide (B < lenP L7) = false := decide_eq_false hc2
        have u4 : ¬ (B : Int) < (lenP L7 : Int) := by omega
        have hpb : putB x y l K B = (L7, 0) := by
          unfold putB
          rw [if_pos HXY.out, HPUT.out, if_pos ⟨by omega, by omega⟩]
        refine wp_region_quiet_below (by kernel_rfl) (by kernel_rfl) ?_
        repeat (any_goals (first | go_big_quiet_step (first
          | (go_at_call 36; with_reducible exact Calls.regrown_of (HKE.out _ _))
          | (go_at_call 37; with_reducible exact Calls.regrown_of (HBY.out _ _))) | quiet_step (fail)))
        refine wpQuiet_nil ?_
        intro w9 hw9
        have H9 : Hid (Below W8.heap.size W8 w9) := by obtain ⟨p, rfl⟩ := hw9; exact below_regrown _ _ _
        clear hw9 g0 g1 g2 g3 g4 HKE HBY
        have f9 := (H8.out.2.1).below H9.out
        have r9 := (H8.out.2.2.2.2).below H9.out
        have e0 := f9.cell 0
        have e1 := f9.cell 1
        have e2 := f9.cell 2
        have t0 := r9.cell 0
        have t1 := r9.cell 1
        have t2 := r9.cell 2
        have s0 := r9.thawed 0
        have s1 := r9.thawed 1
        have s2 := r9.thawed 2
        simp only [List.getElem?_toArray, List.getElem?_cons_zero, List.getElem?_cons_succ] at e0 e1 e2 t0 t1 t2
        go_wp2_with fail
        obtain ⟨Wz, hWz⟩ : ∃ Wz, Wz = stored w9 (W.heap.size + 1) (.slice a7 (L2.length + 1) k7) K B := ⟨_, rfl⟩
        have hFz := stored_box r9 rfl (.slice a7 (L2.length + 1) k7) K B
        have hTz := stored_turned w9 (W.heap.size + 1) (.slice a7 (L2.length + 1) k7) K B
        rw [← hWz] at hFz hTz
        unfold stored at hWz
        rw [← hWz]
        have q0 := hFz.cell 0
        have q1 := hFz.cell 1
        have q2 := hFz.cell 2
        simp only [List.getElem?_toArray, List.getElem?_cons_zero, List.getElem?_cons_succ] at q0 q1 q2
        refine bodyPost_ret (v := .tuple #[rb (.slice a7 (L2.length + 1) k7) K B, .int .i64 0]) (by simp [results, Try.results34, go_sem, rb, q0, q1, q2]) rfl ?_
        rw [← HPost.out, hpb]
        have hb : Below W.heap.size W Wz := Turned.below (S := [W.heap.size + 1]) (Below.step H8.out.1 H9.out) hTz (by simp) (Below.step H8.out.1 H9.out).size
        refine ⟨_, rfl, hb, ?_, fun g hg => .inr (HGE.out g hg)⟩
        exact ((HSE.out.below H9.out).same fun g hg => hTz.block g (((HSE.out.below H9.out)).lt hg).1 (fun e => by
          simp at e
          subst e
          obtain ⟨cur, hc⟩ := ((HSE.out.below H9.out).lt hg).2
          have := fresh_ty hc r9
          exact absurd this (by decide)))
theorem rput_any {W : World} {v : Value} {l : List Pr} (h : Seg W v l) (hs : SrtP l) (ht : TxtP l) (hn : l.length < 900) (x y : ByteArray) (K B : Nat) :
    Calls Try.prog 34 #[rb v K B, .string x, .string y] W fun e' w' => ∃ v', e' = .returned (.tuple #[rb v' K B, .int .i64 (putB x y l K B).2]) ∧ Below W.heap.size W w' ∧ SegN W w' v v' (putB x y l K B).1 := by
  by_cases hxy : x.size ≤ 16 ∧ y.size ≤ 32
  · exact rput_ok h hs ht hn x y K B hxy.1 hxy.2
  · have e : putB x y l K B = (l, 2) := by unfold putB; rw [if_neg hxy]
    rw [e]
    exact rput_bad h x y K B hxy
theorem told {W w : World} {n : Nat} {v : Value} {l : List Pr} {K B : Nat} {cs : Array Value} (hb : Below W.heap.size W w) (hS : Seg w v l) (hf : Fresh w n cs 31) (hn : W.heap.size ≤ n) : Below W.heap.size W (stored w n v K B) ∧ Seg (stored w n v K B) v l := by
  have hT := stored_turned w n v K B
  refine ⟨Turned.below (S := [n]) hb hT (by simpa using hn) hb.size, hS.same fun g hg => hT.block g (hS.lt hg).1 (fun e => ?_)⟩
  simp at e
  subst e
  obtain ⟨cur, hc⟩ := (hS.lt hg).2
  exact absurd (fresh_ty hc hf) (by decide)
theorem rdelete_any {W : World} {v : Value} {l : List Pr} (h : Seg W v l) (hs : SrtP l) (ht : TxtP l) (hn : l.length < 900) (x : ByteArray) (K B : Nat) :
    Calls Try.prog 32 #[rb v K B, .string x] W fun e' w' => ∃ v', e' = .returned (.tuple #[rb v' K B, .int .i64 (delB x l).2]) ∧ Below W.heap.size W w' ∧ SegN W w' v v' (delB x l).1 := by
  obtain ⟨a, cap, rfl, hcap, _⟩ := h.form
  obtain ⟨W1, hW1, b1, f1, f2, s1⟩ := rbox2 W (.slice a l.length cap) K B
  have HS := Lib.hid (h.below b1)
  have HB := Lib.hid b1
  have HW1 := Lib.hid hW1
  have HF1 := Lib.hid f1
  have HF2 := Lib.hid f2
  have HL := Lib.hid (And.intro hs (And.intro ht hn))
  have c0 := f1.cell 0
  have c1 := f1.cell 1
  have c2 := f1.cell 2
  have t0 := f2.cell 0
  have t1 := f2.cell 1
  have t2 := f2.cell 2
  have s0 := f2.thawed 0
  have s1' := f2.thawed 1
  have s2 := f2.thawed 2
  simp only [List.getElem?_toArray, List.getElem?_cons_zero, List.getElem?_cons_succ] at c0 c1 c2 t0 t1 t2
  have HG := Lib.hid (rget_any (h.below b1) hs ht (by omega) x K B)
  have HWO : Hid (∀ W', Below W1.heap.size W1 W' → Calls Try.prog 50 #[rb (.slice a l.length cap) K B, .string x] W' fun e' w' => ∃ v', e' = .returned (rb v' K B) ∧ Below W'.heap.size W' w' ∧ w'.ownsRow W'.heap.size 49 2 v' (dropP x l).length (flatP (dropP x l))) := fun W' hb => rwithout_any ((h.below b1).below hb) hs ht (by omega) x K B
  unfold rb at HG HWO
  by_cases hg : (getB x l).2 = 0
  · have hd : delB x l = (dropP x l, 0) := by unfold delB; rw [if_pos hg]
    rw [hg] at HG
    rw [hd]
    generalize hPost : (fun (e' : Ending) (w' : World) => ∃ v', e' = .returned (.tuple #[rb v' K B, .int .i64 0]) ∧ Below W.heap.size W w' ∧ SegN W w' (.slice a l.length cap) v' (dropP x l)) = Post
    have HPost := Lib.hid hPost
    clear hPost h b1 f1 f2 hW1 hs ht hn hg hd
    unfold rb
    go_enter Try.func32, Try.ntmps32
    go_upto_region 1 with fail
    rw [← HW1.out]
    go_wp2_with (first
      | (go_at_call 35; refine HG.out.mono ?_; rintro e4 w4 ⟨rfl, hb4⟩; have H4 := Lib.hid hb4; have c0 := (hb4.cell (cell_lt c0)).trans c0; have c1 := (hb4.cell (cell_lt c1)).trans c1; have c2 := (hb4.cell (cell_lt c2)).trans c2; clear hb4)
      | (go_at_call 50; refine (HWO.out _ H4.out).mono ?_; rintro e5 w5 ⟨v5, rfl, hb5, ho5⟩; obtain ⟨a5, k5, rfl⟩ := row_form ho5; have H5 := Lib.hid (And.intro (Below.step H4.out hb5) (And.intro (Seg.of_row ho5) (fun g hg => (ho5.lt g hg).1))); have f5 := HF2.out.below (Below.step H4.out hb5); have t0 := f5.cell 0; have t1 := f5.cell 1; have t2 := f5.cell 2; have s0 := f5.thawed 0; have s1' := f5.thawed 1; have s2 := f5.thawed 2; simp only [List.getElem?_toArray, List.getElem?_cons_zero, List.getElem?_cons_succ] at t0 t1 t2; clear hb5 ho5 f5))
    obtain ⟨Wz, hWz⟩ : ∃ Wz, Wz = stored w5 (W.heap.size + 1) (Value.slice a5 (dropP x l).length k5) K B := ⟨_, rfl⟩
    have hFw := HF2.out.below H5.out.1
    have hFz := stored_box hFw rfl (Value.slice a5 (dropP x l).length k5) K B
    have hR := told (K := K) (B := B) (Below.step HB.out H5.out.1) H5.out.2.1 hFw (Nat.le_succ _)
    rw [← hWz] at hFz hR
    unfold stored at hWz
    rw [← hWz]
    have q0 := hFz.cell 0
    have q1 := hFz.cell 1
    have q2 := hFz.cell 2
    simp only [List.getElem?_toArray, List.getElem?_cons_zero, List.getElem?_cons_succ] at q0 q1 q2
    refine bodyPost_ret (v := .tuple #[rb (Value.slice a5 (dropP x l).length k5) K B, .int .i64 0]) (by simp [results, Try.results32, go_sem, rb, q0, q1, q2]) rfl ?_
    rw [← HPost.out]
    exact ⟨_, rfl, hR.1, hR.2, fun g hg => .inr (Nat.le_trans (Below.step HB.out H4.out).size (H5.out.2.2 g hg))⟩
  · have hd : delB x l = (l, (getB x l).2) := by unfold delB; rw [if_neg hg]
    rw [hd]
    obtain ⟨ev, hev⟩ : ∃ ev, (getB x l).2 = ev := ⟨_, rfl⟩
    rw [hev] at HG hg ⊢
    generalize hPost : (fun (e' : Ending) (w' : World) => ∃ v', e' = .returned (.tuple #[rb v' K B, .int .i64 ev]) ∧ Below W.heap.size W w' ∧ SegN W w' (.slice a l.length cap) v' l) = Post
    have HPost := Lib.hid hPost
    have HSW := Lib.hid (h.below b1)
    clear hPost h b1 f1 f2 hW1 hs ht hn hd hev
    unfold rb
    go_enter Try.func32, Try.ntmps32
    go_upto_region 1 with fail
    rw [← HW1.out]
    go_wp2_with (first
      | (go_at_call 35; refine HG.out.mono ?_; rintro e4 w4 ⟨rfl, hb4⟩; have H4 := Lib.hid hb4; have c0 := (hb4.cell (cell_lt c0)).trans c0; have c1 := (hb4.cell (cell_lt c1)).trans c1; have c2 := (hb4.cell (cell_lt c2)).trans c2; have f5 := HF2.out.below hb4; have t0 := f5.cell 0; have t1 := f5.cell 1; have t2 := f5.cell 2; have s0 := f5.thawed 0; have s1' := f5.thawed 1; have s2 := f5.thawed 2; simp only [List.getElem?_toArray, List.getElem?_cons_zero, List.getElem?_cons_succ] at t0 t1 t2; clear hb4 f5))
    obtain ⟨Wz, hWz⟩ : ∃ Wz, Wz = stored w4 (W.heap.size + 1) (Value.slice a l.length cap) K B := ⟨_, rfl⟩
    have hFw := HF2.out.below H4.out
    have hFz := stored_box hFw rfl (Value.slice a l.length cap) K B
    have hR := told (K := K) (B := B) (Below.step HB.out H4.out) (HSW.out.below H4.out) hFw (Nat.le_succ _)
    rw [← hWz] at hFz hR
    unfold stored at hWz
    rw [← hWz]
    have q0 := hFz.cell 0
    have q1 := hFz.cell 1
    have q2 := hFz.cell 2
    simp only [List.getElem?_toArray, List.getElem?_cons_zero, List.getElem?_cons_succ] at q0 q1 q2
    refine bodyPost_ret (v := .tuple #[rb (Value.slice a l.length cap) K B, .int .i64 ev]) (by simp [results, Try.results32, go_sem, rb, q0, q1, q2]) rfl ?_
    rw [← HPost.out]
    exact ⟨_, rfl, hR.1, hR.2, fun g hg => .inl hg⟩
theorem rswap_any {W : World} {v : Value} {l : List Pr} (h : Seg W v l) (hs : SrtP l) (ht : TxtP l) (hn : l.length < 900) (x o y : ByteArray) (K B : Nat) :
    Calls Try.prog 33 #[rb v K B, .string x, .string o, .string y] W fun e' w' => ∃ v', e' = .returned (.tuple #[rb v' K B, .int .i64 (swapB x o y l K B).2]) ∧ Below W.heap.size W w' ∧ SegN W w' v v' (swapB x o y l K B).1 := by
  obtain ⟨a, cap, rfl, hcap, _⟩ := h.form
  obtain ⟨W1, hW1, b1, f1, f2, s1⟩ := rbox2 W (.slice a l.length cap) K B
  have HS := Lib.hid (h.below b1)
  have HB := Lib.hid b1
  have HW1 := Lib.hid hW1
  have HF1 := Lib.hid f1
  have HF2 := Lib.hid f2
  have HL := Lib.hid (And.intro hs (And.intro ht hn))
  have c0 := f1.cell 0
  have c1 := f1.cell 1
  have c2 := f1.cell 2
  have t0 := f2.cell 0
  have t1 := f2.cell 1
  have t2 := f2.cell 2
  have s0 := f2.thawed 0
  have s1' := f2.thawed 1
  have s2 := f2.thawed 2
  simp only [List.getElem?_toArray, List.getElem?_cons_zero, List.getElem?_cons_succ] at c0 c1 c2 t0 t1 t2
  have HG := Lib.hid (rget_any (h.below b1) hs ht (by omega) x K B)
  have HPU : Hid (∀ W', Below W1.heap.size W1 W' → Calls Try.prog 34 #[rb (.slice a l.length cap) K B, .string x, .string y] W' fun e' w' => ∃ v', e' = .returned (.tuple #[rb v' K B, .int .i64 (putB x y l K B).2]) ∧ Below W'.heap.size W' w' ∧ SegN W' w' (.slice a l.length cap) v' (putB x y l K B).1) := fun W' hb => rput_any ((h.below b1).below hb) hs ht hn x y K B
  unfold rb at HG HPU
  by_cases hoy : o.size ≤ 32 ∧ y.size ≤ 32
  · rw [swapB_of hoy.1 hoy.2]
    have k1 : ¬ (32 : Int) < (o.size : Int) := by omega
    have k2 : ¬ (32 : Int) < (y.size : Int) := by omega
    obtain ⟨gv, ev, hg⟩ : ∃ gv ev, getB x l = (gv, ev) := ⟨_, _, rfl⟩
    rw [hg] at HG ⊢
    have HSW := Lib.hid (h.below b1)
    by_cases hev : ev = 0
    · subst hev
      rw [if_pos rfl]
      by_cases hgo : gv = o
      · rw [if_pos hgo]
        have heq : (gv.toList == o.toList) = true := by rw [kl_beq]; exact decide_eq_true hgo
        obtain ⟨L5, E5, h5⟩ : ∃ L5 E5, putB x y l K B = (L5, E5) := ⟨_, _, rfl⟩
        rw [h5] at HPU ⊢
        generalize hPost : (fun (e' : Ending) (w' : World) => ∃ v', e' = .returned (.tuple #[rb v' K B, .int .i64 E5]) ∧ Below W.heap.size W w' ∧ SegN W w' (.slice a l.length cap) v' L5) = Post
        have HPost := Lib.hid hPost
        clear hPost h b1 f1 f2 hW1 hs ht hn hg hgo hoy h5
        unfold rb
        go_enter Try.func33, Try.ntmps33
        go_upto_region 1 with fail
        rw [← HW1.out]
        go_wp2_with (first
          | (go_at_call 35; refine HG.out.mono ?_; rintro e4 w4 ⟨rfl, hb4⟩; have H4 := Lib.hid hb4; have c0 := (hb4.cell (cell_lt c0)).trans c0; have c1 := (hb4.cell (cell_lt c1)).trans c1; have c2 := (hb4.cell (cell_lt c2)).trans c2; have f5 := HF2.out.below hb4; have t0 := f5.cell 0; have t1 := f5.cell 1; have t2 := f5.cell 2; have s0 := f5.thawed 0; have s1' := f5.thawed 1; have s2 := f5.thawed 2; simp only [List.getElem?_toArray, List.getElem?_cons_zero, List.getElem?_cons_succ] at t0 t1 t2; clear hb4 f5)
          | (go_at_call 34; refine (HPU.out _ H4.out).mono ?_; rintro e5 w5 ⟨v5, rfl, hb5, hS5⟩; obtain ⟨a5, k5, rfl, _, _⟩ := hS5.1.form; have H5 := Lib.hid (And.intro (Below.step H4.out hb5) hS5); have f5 := HF2.out.below (Below.step H4.out hb5); have t0 := f5.cell 0; have t1 := f5.cell 1; have t2 := f5.cell 2; have s0 := f5.thawed 0; have s1' := f5.thawed 1; have s2 := f5.thawed 2; simp only [List.getElem?_toArray, List.getElem?_cons_zero, List.getElem?_cons_succ] at t0 t1 t2; clear hb5 hS5 f5))
        obtain ⟨Wz, hWz⟩ : ∃ Wz, Wz = stored w5 (W.heap.size + 1) (Value.slice a5 L5.length k5) K B := ⟨_, rfl⟩
        have hFw := HF2.out.below H5.out.1
        have hFz := stored_box hFw rfl (Value.slice a5 L5.length k5) K B
        have hR := told (K := K) (B := B) (Below.step HB.out H5.out.1) H5.out.2.1 hFw (Nat.le_succ _)
        rw [← hWz] at hFz hR
        unfold stored at hWz
        rw [← hWz]
        have q0 := hFz.cell 0
        have q1 := hFz.cell 1
        have q2 := hFz.cell 2
        simp only [List.getElem?_toArray, List.getElem?_cons_zero, List.getElem?_cons_succ] at q0 q1 q2
        refine bodyPost_ret (v := .tuple #[rb (Value.slice a5 L5.length k5) K B, .int .i64 E5]) (by simp [results, Try.results33, go_sem, rb, q0, q1, q2]) rfl ?_
        rw [← HPost.out]
        exact ⟨_, rfl, hR.1, hR.2, fun g hg => (H5.out.2.2 g hg).imp id (fun x => Nat.le_trans (Below.step HB.out H4.out).size x)⟩
      · rw [if_neg hgo]
        have heq : (gv.toList == o.toList) = false := by rw [kl_beq]; exact decide_eq_false hgo
        generalize hPost : (fun (e' : Ending) (w' : World) => ∃ v', e' = .returned (.tuple #[rb v' K B, .int .i64 9]) ∧ Below W.heap.size W w' ∧ SegN W w' (.slice a l.length cap) v' l) = Post
        have HPost := Lib.hid hPost
        clear hPost h b1 f1 f2 hW1 hs ht hn hg hgo hoy
        unfold rb
        go_enter Try.func33, Try.ntmps33
        go_upto_region 1 with fail
        rw [← HW1.out]
        go_wp2_with (first
          | (go_at_call 35; refine HG.out.mono ?_; rintro e4 w4 ⟨rfl, hb4⟩; have H4 := Lib.hid hb4; have c0 := (hb4.cell (cell_lt c0)).trans c0; have c1 := (hb4.cell (cell_lt c1)).trans c1; have c2 := (hb4.cell (cell_lt c2)).trans c2; have f5 := HF2.out.below hb4; have t0 := f5.cell 0; have t1 := f5.cell 1; have t2 := f5.cell 2; have s0 := f5.thawed 0; have s1' := f5.thawed 1; have s2 := f5.thawed 2; simp only [List.getElem?_toArray, List.getElem?_cons_zero, List.getElem?_cons_succ] at t0 t1 t2; clear hb4 f5))
        obtain ⟨Wz, hWz⟩ : ∃ Wz, Wz = stored w4 (W.heap.size + 1) (Value.slice a l.length cap) K B := ⟨_, rfl⟩
        have hFw := HF2.out.below H4.out
        have hFz := stored_box hFw rfl (Value.slice a l.length cap) K B
        have hR := told (K := K) (B := B) (Below.step HB.out H4.out) (HSW.out.below H4.out) hFw (Nat.le_succ _)
        rw [← hWz] at hFz hR
        unfold stored at hWz
        rw [← hWz]
        have q0 := hFz.cell 0
        have q1 := hFz.cell 1
        have q2 := hFz.cell 2
        simp only [List.getElem?_toArray, List.getElem?_cons_zero, List.getElem?_cons_succ] at q0 q1 q2
        refine bodyPost_ret (v := .tuple #[rb (Value.slice a l.length cap) K B, .int .i64 9]) (by simp [results, Try.results33, go_sem, rb, q0, q1, q2]) rfl ?_
        rw [← HPost.out]
        exact ⟨_, rfl, hR.1, hR.2, fun g hg => .inl hg⟩
    · rw [if_neg hev]
      generalize hPost : (fun (e' : Ending) (w' : World) => ∃ v', e' = .returned (.tuple #[rb v' K B, .int .i64 ev]) ∧ Below W.heap.size W w' ∧ SegN W w' (.slice a l.length cap) v' l) = Post
      have HPost := Lib.hid hPost
      clear hPost h b1 f1 f2 hW1 hs ht hn hg hoy
      unfold rb
      go_enter Try.func33, Try.ntmps33
      go_upto_region 1 with fail
      rw [← HW1.out]
      go_wp2_with (first
        | (go_at_call 35; refine HG.out.mono ?_; rintro e4 w4 ⟨rfl, hb4⟩; have H4 := Lib.hid hb4; have c0 := (hb4.cell (cell_lt c0)).trans c0; have c1 := (hb4.cell (cell_lt c1)).trans c1; have c2 := (hb4.cell (cell_lt c2)).trans c2; have f5 := HF2.out.below hb4; have t0 := f5.cell 0; have t1 := f5.cell 1; have t2 := f5.cell 2; have s0 := f5.thawed 0; have s1' := f5.thawed 1; have s2 := f5.thawed 2; simp only [List.getElem?_toArray, List.getElem?_cons_zero, List.getElem?_cons_succ] at t0 t1 t2; clear hb4 f5))
      obtain ⟨Wz, hWz⟩ : ∃ Wz, Wz = stored w4 (W.heap.size + 1) (Value.slice a l.length cap) K B := ⟨_, rfl⟩
      have hFw := HF2.out.below H4.out
      have hFz := stored_box hFw rfl (Value.slice a l.length cap) K B
      have hR := told (K := K) (B := B) (Below.step HB.out H4.out) (HSW.out.below H4.out) hFw (Nat.le_succ _)
      rw [← hWz] at hFz hR
      unfold stored at hWz
      rw [← hWz]
      have q0 := hFz.cell 0
      have q1 := hFz.cell 1
      have q2 := hFz.cell 2
      simp only [List.getElem?_toArray, List.getElem?_cons_zero, List.getElem?_cons_succ] at q0 q1 q2
      refine bodyPost_ret (v := .tuple #[rb (Value.slice a l.length cap) K B, .int .i64 ev]) (by simp [results, Try.results33, go_sem, rb, q0, q1, q2]) rfl ?_
      rw [← HPost.out]
      exact ⟨_, rfl, hR.1, hR.2, fun g hg => .inl hg⟩
  · have hd : swapB x o y l K B = (l, 2) := by unfold swapB; rw [if_neg (fun h => hoy h.2)]
    rw [hd]
    have HSW := Lib.hid (h.below b1)
    have k12 : (32 : Int) < (o.size : Int) ∨ ¬ (32 : Int) < (o.size : Int) ∧ (32 : Int) < (y.size : Int) := by omega
    generalize hPost : (fun (e' : Ending) (w' : World) => ∃ v', e' = .returned (.tuple #[rb v' K B, .int .i64 2]) ∧ Below W.heap.size W w' ∧ SegN W w' (.slice a l.length cap) v' l) = Post
    have HPost := Lib.hid hPost
    clear hPost h b1 f1 f2 hW1 hs ht hn hd hoy
    unfold rb
    go_enter Try.func33, Try.ntmps33
    go_upto_region 1 with fail
    rw [← HW1.out]
    rcases k12 with k | ⟨k, k2⟩
    all_goals
      go_wp2_with fail
    all_goals
      obtain ⟨Wz, hWz⟩ : ∃ Wz, Wz = stored W1 (W.heap.size + 1) (Value.slice a l.length cap) K B := ⟨_, rfl⟩
      have hFw := HF2.out.below (Below.refl _ _)
      have hFz := stored_box hFw rfl (Value.slice a l.length cap) K B
      have hR := told (K := K) (B := B) (Below.step HB.out (Below.refl _ _)) HSW.out hFw (Nat.le_succ _)
      rw [← hWz] at hFz hR
      unfold stored at hWz
      rw [← hWz]
      have q0 := hFz.cell 0
      have q1 := hFz.cell 1
      have q2 := hFz.cell 2
      simp only [List.getElem?_toArray, List.getElem?_cons_zero, List.getElem?_cons_succ] at q0 q1 q2
      refine bodyPost_ret (v := .tuple #[rb (Value.slice a l.length cap) K B, .int .i64 2]) (by simp [results, Try.results33, go_sem, rb, q0, q1, q2]) rfl ?_
      rw [← HPost.out]
      exact ⟨_, rfl, hR.1, hR.2, fun g hg => .inl hg⟩
end Nw
end Go.Proofs.Ytcpmnkihhenbgaa
