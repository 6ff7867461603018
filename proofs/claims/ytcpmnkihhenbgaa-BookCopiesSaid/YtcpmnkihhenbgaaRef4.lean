/- The reference model of a book: Put. -/
import Derived.Test.YtcpmnkihhenbgaaRef3
namespace Go.Proofs.Ytcpmnkihhenbgaa
open Go.RowKit Go.Shelf
set_option maxRecDepth 1000000
set_option maxHeartbeats 4000000

/-- The two boxes of a call: its argument, its result. -/
theorem rbox2 (W : World) (v : Value) (K B : Nat) : ∃ W1, W1 = (W.alloc (.cells #[v, .int .u64 (K : Int), .int .u64 (B : Int)] 31)).alloc (.cells #[.slice none 0 0, .int .u64 0, .int .u64 0] 31) ∧ Below W.heap.size W W1 ∧
    Fresh W1 W.heap.size #[v, .int .u64 (K : Int), .int .u64 (B : Int)] 31 ∧ Fresh W1 (W.heap.size + 1) #[.slice none 0 0, .int .u64 0, .int .u64 0] 31 ∧ W1.heap.size = W.heap.size + 2 :=
  ⟨_, rfl, Below.new (Below.new (Below.refl _ _) _) _, (Fresh.new _ _ _ _ rfl).alloc _, Fresh.new _ _ _ _ (by simp), by simp⟩
/-- A box stored whole. -/
def stored (W : World) (p : Nat) (v : Value) (K B : Nat) : World := ((W.setCell ⟨p, 0, none⟩ v).setCell ⟨p, 1, none⟩ (.int .u64 (K : Int))).setCell ⟨p, 2, none⟩ (.int .u64 (B : Int))
theorem stored_box {W : World} {p : Nat} {cs : Array Value} (h : Fresh W p cs 31) (hc : cs.size = 3) (v : Value) (K B : Nat) : Fresh (stored W p v K B) p #[v, .int .u64 (K : Int), .int .u64 (B : Int)] 31 := by
  have h1 := ((h.set 0 v).set 1 (.int .u64 (K : Int))).set 2 (.int .u64 (B : Int))
  obtain ⟨l⟩ := cs
  match l, hc with
  | [a, b, c], _ => exact h1
theorem stored_turned (W : World) (p : Nat) (v : Value) (K B : Nat) : Turned [p] W (stored W p v K B) := (((Turned.refl [p] W).setCell (.inl (by simp)) _ _).setCell (.inl (by simp)) _ _).setCell (.inl (by simp)) _ _
theorem rput_bad {W : World} {v : Value} {l : List Pr} (h : Seg W v l) (x y : ByteArray) (K B : Nat) (hxy : ¬ (x.size ≤ 16 ∧ y.size ≤ 32)) :
    Calls Try.prog 34 #[rb v K B, .string x, .string y] W fun e' w' => ∃ v', e' = .returned (.tuple #[rb v' K B, .int .i64 2]) ∧ Below W.heap.size W w' ∧ Seg w' v' l := by
  obtain ⟨a, cap, rfl, _, _⟩ := h.form
  obtain ⟨W1, hW1, b1, f1, f2, s1⟩ := rbox2 W (.slice a l.length cap) K B
  have HS := Lib.hid h
  have HB := Lib.hid b1
  have HW1 := Lib.hid hW1
  have HF2 := Lib.hid f2
  have c0 := f1.cell 0
  have c1 := f1.cell 1
  have c2 := f1.cell 2
  have t0 := f2.cell 0
  have t1 := f2.cell 1
  have t2 := f2.cell 2
  have s0 := f2.thawed 0
  have s1' := f2.thawed 1
  have s2 := f2.thawed 2
  simp only [List.getElem?_toArray, List.getElem?_cons_zero, List.getElem?_cons_succ] at c0 c1 c2 t0 t1 t2
  generalize hPost : (fun (e' : Ending) (w' : World) => ∃ v', e' = .returned (.tuple #[rb v' K B, .int .i64 2]) ∧ Below W.heap.size W w' ∧ Seg w' v' l) = Post
  have HPost := Lib.hid hPost
  have k16 : ¬ (x.size : Int) ≤ 16 ∨ (x.size : Int) ≤ 16 ∧ ¬ (y.size : Int) ≤ 32 := by omega
  clear hPost h b1 f1 f2 hW1 hxy
  unfold rb
  go_enter Try.func34, Try.ntmps34
  go_upto_region 1 with fail
  rw [← HW1.out]
  rcases k16 with k | ⟨k, k2⟩
  all_goals
    go_wp2_with fail
  all_goals
    obtain ⟨W7, hW7⟩ : ∃ W7, W7 = stored W1 (W.heap.size + 1) (.slice a l.length cap) K B := ⟨_, rfl⟩
    have hF7 := stored_box HF2.out rfl (.slice a l.length cap) K B
    have hT := stored_turned W1 (W.heap.size + 1) (.slice a l.length cap) K B
    rw [← hW7] at hF7 hT
    unfold stored at hW7
    rw [← hW7]
    have r0 := hF7.cell 0
    have r1 := hF7.cell 1
    have r2 := hF7.cell 2
    simp only [List.getElem?_toArray, List.getElem?_cons_zero, List.getElem?_cons_succ] at r0 r1 r2
    refine bodyPost_ret (v := .tuple #[rb (.slice a l.length cap) K B, .int .i64 2]) (by simp [results, Try.results34, go_sem, rb, r0, r1, r2]) rfl ?_
    rw [← HPost.out]
    have hb : Below W.heap.size W W7 := Turned.below (S := [W.heap.size + 1]) HB.out hT (by simp) HB.out.size
    exact ⟨_, rfl, hb, HS.out.below hb⟩
/-- A pair set among the others: three appends. -/
theorem ins_steps {w4 : World} {L : List Pr} {a : Option Addr} {k : Nat} (hS : Seg w4 (.slice a L.length k) L) {A : Nat} (hA : A ≤ L.length) (hn : L.length < 1000) (x y : ByteArray) :
    ∃ a5 k5 W5 a6 k6 W6 a7 k7 W7,
      (∀ ty, (Builtin.append_ #[29, 29] ty #[.slice (some ⟨w4.heap.size, 0, none⟩) 0 0, .slice a A k]).run Try.prog (w4.alloc (.cells #[] 49)) = .ok (.slice a5 A k5) W5) ∧
      (∀ ty, (Builtin.append_ #[29, 29] ty #[.slice a5 A k5, .slice (some ⟨W5.heap.size, 0, none⟩) 1 1]).run Try.prog (W5.alloc (.cells #[.string x, .string y] 49)) = .ok (.slice a6 (A + 1) k6) W6) ∧
      (∀ ty, (Builtin.append_ #[29, 29] ty #[.slice a6 (A + 1) k6, .slice (fromAd a k A) (L.length - A) (k - A)]).run Try.prog W6 = .ok (.slice a7 (L.length + 1) k7) W7) ∧
      Below w4.heap.size w4 W5 ∧ Below w4.heap.size w4 W6 ∧ Below w4.heap.size w4 W7 ∧ W7.ownsRow w4.heap.size 49 2 (.slice a7 (L.length + 1) k7) (L.take A ++ (x, y) :: L.drop A).length (flatP (L.take A ++ (x, y) :: L.drop A)) := by
  have lA : (L.take A).length = A := by rw [List.length_take, Nat.min_eq_left hA]
  obtain ⟨v5, W5, r5, o5, g5⟩ := app_seg (row_none w4) ((hS.take hA).below (Below.new (Below.refl _ _) _)) (by simp) (by simp; omega)
  have b5 : Below w4.heap.size w4 W5 := Below.grown2 (Below.new (Below.refl _ _) _) g5 (fun r hr => ((row_none w4).lt r hr).1)
  rw [List.nil_append] at o5
  obtain ⟨a5, k5, rfl⟩ := row_form o5
  have o5' : (W5.alloc (.cells #[.string x, .string y] 49)).ownsRow w4.heap.size 49 2 (.slice a5 (L.take A).length k5) (L.take A).length (flatP (L.take A)) := row_keep o5 fun j hj => (Below.new (Below.refl _ _) _).block j (o5.lt j hj).2
  have p5 : Seg (W5.alloc (.cells #[.string x, .string y] 49)) (.slice (some ⟨W5.heap.size, 0, none⟩) 1 1) [(x, y)] := Seg.of_row (B := W5.heap.size) (World.ownsRow_lit W5 #[.string x, .string y] 1 (Nat.le_refl _) (by unfold maxLen; omega) rfl)
  obtain ⟨v6, W6, r6, o6, g6⟩ := app_seg o5' p5 (Nat.le_trans b5.size (by simp)) (by simp; omega)
  have b6 : Below w4.heap.size w4 W6 := Below.grown2 (Below.new b5 _) g6 (fun r hr => (o5'.lt r hr).1)
  obtain ⟨a6, k6, rfl⟩ := row_form o6
  have l6' : (L.take A ++ [(x, y)]).length = A + 1 := by rw [List.length_append, lA]; rfl
  obtain ⟨v7, W7, r7, o7, g7⟩ := app_seg o6 ((hS.below b6).drop hA) b6.size (by simp; omega)
  have b7 : Below w4.heap.size w4 W7 := Below.grown2 b6 g7 (fun r hr => (o6.lt r hr).1)
  have e7 : L.take A ++ [(x, y)] ++ L.drop A = L.take A ++ (x, y) :: L.drop A := by simp
  rw [e7] at o7
  obtain ⟨a7, k7, rfl⟩ := row_form o7
  have l6 : (L.take A ++ [(x, y)]).length = A + 1 := by rw [List.length_append, lA]; rfl
  have l7 : (L.take A ++ (x, y) :: L.drop A).length = L.length + 1 := by simp; omega
  refine ⟨a5, k5, W5, a6, k6, W6, a7, k7, W7, ?_, ?_, ?_, b5, b6, b7, ?_⟩
  · intro ty; have := r5 ty; rwa [lA] at this
  · intro ty; have := r6 ty; rwa [lA, l6] at this
  · intro ty; have := r7 ty; rwa [l6, l7] at this
  · rw [l7] at o7 ⊢; exact o7
theorem rput_ok {W : World} {v : Value} {l : List Pr} (h : Seg W v l) (hs : SrtP l) (ht : TxtP l) (hn : l.length < 900) (x y : ByteArray) (K B : Nat) (hx : x.size ≤ 16) (hy : y.size ≤ 32) :
    Calls Try.prog 34 #[rb v K B, .string x, .string y] W fun e' w' => ∃ v', e' = .returned (.tuple #[rb v' K B, .int .i64 (putB x y l K B).2]) ∧ Below W.heap.size W w' ∧ Seg w' v' (putB x y l K B).1 := by
  obtain ⟨a, cap, rfl, hcap, _⟩ := h.form
  obtain ⟨W1, hW1, b1, f1, f2, s1⟩ := rbox2 W (.slice a l.length cap) K B
  have HSW := Lib.hid h
  have HS := Lib.hid (h.below b1)
  have HB := Lib.hid b1
  have HW1 := Lib.hid hW1
  have HF1 := Lib.hid f1
  have HF2 := Lib.hid f2
  have HL := Lib.hid (And.intro hs (And.intro ht hn))
  have HS1 := Lib.hid s1
  have c0 := f1.cell 0
  have c1 := f1.cell 1
  have c2 := f1.cell 2
  simp only [List.getElem?_toArray, List.getElem?_cons_zero, List.getElem?_cons_succ] at c0 c1 c2
  have HWO := Lib.hid (rwithout_any (h.below b1) hs ht (by omega) x K B)
  obtain ⟨L2, hL2⟩ : ∃ L2, dropP x l = L2 := ⟨_, rfl⟩
  rw [hL2] at HWO
  have HL2 := Lib.hid hL2
  generalize hPost : (fun (e' : Ending) (w' : World) => ∃ v', e' = .returned (.tuple #[rb v' K B, .int .i64 (putB x y l K B).2]) ∧ Below W.heap.size W w' ∧ Seg w' v' (putB x y l K B).1) = Post
  have HPost := Lib.hid hPost
  have k16 : ¬ (16 : Int) < (x.size : Int) := by omega
  have k32 : ¬ (32 : Int) < (y.size : Int) := by omega
  have HXY := Lib.hid (And.intro hx hy)
  clear hPost h b1 f1 f2 hW1 hx hy hL2 hs ht hn s1
  unfold rb at HWO ⊢
  go_enter Try.func34, Try.ntmps34
  go_upto_region 1 with fail
  rw [← HW1.out]
  go_upto_region 4 with (go_at_call 50; refine HWO.out.mono ?_; rintro e2 w2 ⟨v2, rfl, hb2, ho2⟩; obtain ⟨a2, k2, rfl⟩ := row_form ho2; have H2 := Lib.hid (And.intro hb2 ho2); clear hb2 ho2)
  obtain ⟨W3, hW3⟩ : ∃ W3, W3 = w2.alloc (.cells #[.slice a2 L2.length k2, .int .u64 (K : Int), .int .u64 (B : Int)] 31) := ⟨_, rfl⟩
  have b3 : Below w2.heap.size w2 W3 := by rw [hW3]; exact Below.new (Below.refl _ _) _
  have f3 : Fresh W3 w2.heap.size #[.slice a2 L2.length k2, .int .u64 (K : Int), .int .u64 (B : Int)] 31 := by rw [hW3]; exact Fresh.new _ _ _ _ rfl
  have hS3 : Seg W3 (.slice a2 L2.length k2) L2 := (Seg.of_row H2.out.2).below b3
  have hG2 : SrtP L2 ∧ TxtP L2 ∧ L2.length < 900 := by
    have := drop_len x l
    rw [← HL2.out]
    exact ⟨drop_srt HL.out.1, drop_txt HL.out.2.1, by have := HL.out.2.2; omega⟩
  have HAT := Lib.hid (rat_any hS3 hG2.1 hG2.2.1 (by omega) x K B)
  have hA : atK x (keys L2) ≤ L2.length := by rw [← keys_len]; exact atK_le _ _
  obtain ⟨A, hAe⟩ : ∃ A, atK x (keys L2) = A := ⟨_, rfl⟩
  rw [hAe] at HAT hA
  have HAE := Lib.hid hAe
  have HA := Lib.hid hA
  have HG2 := Lib.hid hG2
  have HS3 := Lib.hid hS3
  have HF3 := Lib.hid f3
  have HB3 := Lib.hid (Below.step H2.out.1 b3)
  have x0 := f3.cell 0
  have x1 := f3.cell 1
  have x2 := f3.cell 2
  simp only [List.getElem?_toArray, List.getElem?_cons_zero, List.getElem?_cons_succ] at x0 x1 x2
  have hk2 := row_cap H2.out.2
  have HK2 := Lib.hid hk2
  rw [← hW3]
  clear hW3 b3 f3 hS3 hG2 hAe hA c0 c1 c2
  unfold rb at HAT
  have j0 : (0 : Int) ≤ (A : Int) := by omega
  have j1 : (A : Int) ≤ (k2 : Int) := by have := HA.out; have := HK2.out; omega
  have j2 : A ≤ k2 := by have := HA.out; have := HK2.out; omega
  have j3 : (A : Int) ≤ (L2.length : Int) := by have := HA.out; omega
  have j4 : A ≤ L2.length := HA.out
  go_upto_region 5 with (go_at_call 41; refine HAT.out.mono ?_; rintro e4 w4 ⟨rfl, hb4⟩; have H4 := Lib.hid hb4; have x0 := (hb4.cell (cell_lt x0)).trans x0; clear hb4)
  obtain ⟨a5, k5, W5, a6, k6, W6, a7, k7, W7, r5, r6, r7, b5, b6, b7, o7⟩ := ins_steps (HS3.out.below H4.out) HA.out (by have := HG2.out.2.2; omega) x y
  have ca : (w4.alloc (.cells #[] 49)).cell? ⟨w2.heap.size, 0, none⟩ = some (.slice a2 L2.length k2) := ((Below.new (Below.refl w4.heap.size w4) _).cell (p := ⟨w2.heap.size, 0, none⟩) (cell_lt x0)).trans x0
  have c6 := (b6.cell (cell_lt x0)).trans x0
  have f7 := (HF3.out.below H4.out).below b7
  have c7 := f7.cell 0
  have z7 := f7.thawed 0
  simp only [List.getElem?_toArray, List.getElem?_cons_zero, List.getElem?_cons_succ] at c7
  have H7 := Lib.hid (And.intro b7 (And.intro o7 f7))
  clear b5 b6 b7 o7 f7
  go_wp2_with (first
    | (at_builtin; refine Lib.wpList_append_run _ rfl _ _ _ _ rfl _ _ rfl rfl _ _ (r5 _) ?_; clear r5 ca)
    | (at_builtin; refine Lib.wpList_append_run _ rfl _ _ _ _ rfl _ _ rfl rfl _ _ (r6 _) ?_; clear r6)
    | (at_builtin; refine Lib.wpList_append_run _ rfl _ _ _ _ rfl _ _ rfl rfl _ _ (r7 _) ?_; clear r7))
  all_goals
    obtain ⟨W8, hW8⟩ : ∃ W8, W8 = W7.setCell ⟨w2.heap.size, 0, none⟩ (.slice a7 (L2.length + 1) k7) := ⟨_, rfl⟩
    rw [← hW8]
    have hT8 : Turned [w2.heap.size] W7 W8 := by rw [hW8]; exact (Turned.refl _ _).setCell (.inl (by simp)) _ _
    have hs2 : W1.heap.size ≤ w2.heap.size := H2.out.1.size
    have h17 : Below W1.heap.size W1 W7 := Below.step HB3.out (Below.step H4.out H7.out.1)
    have h18 : Below W1.heap.size W1 W8 := Turned.below (S := [w2.heap.size]) h17 hT8 (by simp; omega) h17.size
    obtain ⟨L7, hL7⟩ : ∃ L7, L2.take A ++ (x, y) :: L2.drop A = L7 := ⟨_, rfl⟩
    have hput : putP x y l = L7 := by
      rw [← hL7, ← HAE.out, ← HL2.out]
      rfl
    have o7 := H7.out.2.1
    rw [hL7] at o7
    have hl7 : L7.length = L2.length + 1 := by rw [← hL7]; simp; have := HA.out; omega
    have hw24 : w2.heap.size < w4.heap.size := Nat.lt_of_lt_of_le HF3.out.lt H4.out.size
    have HSE : Hid (Seg W8 (.slice a7 (L2.length + 1) k7) L7) := Seg.of_row (B := w4.heap.size) (row_keep o7 fun k hk => hT8.block k (o7.lt k hk).2 (fun e => by have := (o7.lt k hk).1; simp at e; omega))
    have f8 : Fresh W8 w2.heap.size #[.slice a7 (L2.length + 1) k7, .int .u64 (K : Int), .int .u64 (B : Int)] 31 := by rw [hW8]; exact H7.out.2.2.set 0 _
    have H8 : Hid (Below W.heap.size W W8 ∧ Fresh W8 w2.heap.size #[.slice a7 (L2.length + 1) k7, .int .u64 (K : Int), .int .u64 (B : Int)] 31 ∧ True ∧ Fresh W8 W.heap.size #[.slice a l.length cap, .int .u64 (K : Int), .int .u64 (B : Int)] 31 ∧ Fresh W8 (W.heap.size + 1) #[.slice none 0 0, .int .u64 0, .int .u64 0] 31) := ⟨Below.step HB.out h18, f8, trivial, HF1.out.below h18, HF2.out.below h18⟩
    have HS0 : Hid (Seg W (.slice a l.length cap) l) := HSW.out
    have hg7 : TxtP L7 := by rw [← hput]; exact put_txt HL.out.2.1 HXY.out.1 HXY.out.2
    have HG7 := Lib.hid (And.intro hg7 hl7)
    have HPUT := Lib.hid hput
    have g0 := fun d os => cell_regrown (f8.cell 0) d os
    have g1 := fun d os => cell_regrown (f8.cell 1) d os
    have g2 := fun d os => cell_regrown (f8.cell 2) d os
    have g3 := fun d os => cell_regrown (H8.out.2.2.2.1.cell 1) d os
    have g4 := fun d os => cell_regrown (H8.out.2.2.2.1.cell 2) d os
    have HKE : Hid (∀ d os, Calls Try.prog 36 #[.agg #[.slice a7 (L2.length + 1) k7, .int .u64 (K : Int), .int .u64 (B : Int)]] (Sort.grow (redrawn W8 d) os) fun e' w' => e' = .returned (.int .u64 (L7.length : Nat)) ∧ Below (Sort.grow (redrawn W8 d) os).heap.size (Sort.grow (redrawn W8 d) os) w') := fun d os => rkeys_any (HSE.out.below (below_regrown W8 d os)) (by rw [hl7]; have := HG2.out.2.2; omega) K B
    have HBY : Hid (∀ d os, Calls Try.prog 37 #[.agg #[.slice a7 (L2.length + 1) k7, .int .u64 (K : Int), .int .u64 (B : Int)]] (Sort.grow (redrawn W8 d) os) fun e' w' => e' = .returned (.int .u64 (lenP L7 : Nat)) ∧ Below (Sort.grow (redrawn W8 d) os).heap.size (Sort.grow (redrawn W8 d) os) w') := fun d os => rbytes_any (HSE.out.below (below_regrown W8 d os)) hg7 (by rw [hl7]; have := HG2.out.2.2; omega) K B
    clear hW8 hT8 hs2 h17 h18 hL7 o7 hw24 f8 hg7 x0 x1 x2 c6 c7 z7 hput hl7
    by_cases hc1 : K < L7.length
    · have u1 : decide (K < L7.length) = true := decide_eq_true hc1
      have u2 : (K : Int) < (L7.length : Int) := by omega
      have hpb : putB x y l K B = (l, 10) := by
        unfold putB
        rw [if_pos HXY.out, HPUT.out, if_neg (fun h => by omega)]
      · refine wp_region_quiet_below (by kernel_rfl) (by kernel_rfl) ?_
        repeat (any_goals (first | go_big_quiet_step (first
          | (go_at_call 36; with_reducible exact Calls.regrown_of (HKE.out _ _))) | quiet_step (fail)))
        refine wpQuiet_nil ?_
        intro w9 hw9
        have H9 : Hid (Below W8.heap.size W8 w9) := by obtain ⟨p, rfl⟩ := hw9; exact below_regrown _ _ _
        clear hw9 g0 g1 g2 g3 g4 HKE HBY
        have f9 := (H8.out.2.2.2.1).below H9.out
        have r9 := (H8.out.2.2.2.2).below H9.out
        have e0 := f9.cell 0
        have e1 := f9.cell 1
        have e2 := f9.cell 2
        have t0 := r9.cell 0
        have t1 := r9.cell 1
        have t2 := r9.cell 2
        have s0 := r9.thawed 0
        have s1 := r9.thawed 1
        have s2 := r9.thawed 2
        simp only [List.getElem?_toArray, List.getElem?_cons_zero, List.getElem?_cons_succ] at e0 e1 e2 t0 t1 t2
        go_wp2_with fail
        obtain ⟨Wz, hWz⟩ : ∃ Wz, Wz = stored w9 (W.heap.size + 1) (.slice a l.length cap) K B := ⟨_, rfl⟩
        have hFz := stored_box r9 rfl (.slice a l.length cap) K B
        have hTz := stored_turned w9 (W.heap.size + 1) (.slice a l.length cap) K B
        rw [← hWz] at hFz hTz
        unfold stored at hWz
        rw [← hWz]
        have q0 := hFz.cell 0
        have q1 := hFz.cell 1
        have q2 := hFz.cell 2
        simp only [List.getElem?_toArray, List.getElem?_cons_zero, List.getElem?_cons_succ] at q0 q1 q2
        refine bodyPost_ret (v := .tuple #[rb (.slice a l.length cap) K B, .int .i64 10]) (by simp [results, Try.results34, go_sem, rb, q0, q1, q2]) rfl ?_
        rw [← HPost.out, hpb]
        have hb : Below W.heap.size W Wz := Turned.below (S := [W.heap.size + 1]) (Below.step H8.out.1 H9.out) hTz (by simp) (Below.step H8.out.1 H9.out).size
        refine ⟨_, rfl, hb, ?_⟩
        exact HS0.out.below hb
    · have u1 : decide (K < L7.length) = false := decide_eq_false hc1
      have u2 : ¬ (K : Int) < (L7.length : Int) := by omega
      by_cases hc2 : B < lenP L7
      · have u3 : decide (B < lenP L7) = true := decide_eq_true hc2
        have u4 : (B : Int) < (lenP L7 : Int) := by omega
        have hpb : putB x y l K B = (l, 10) := by
          unfold putB
          rw [if_pos HXY.out, HPUT.out, if_neg (fun h => by omega)]
        refine wp_region_quiet_below (by kernel_rfl) (by kernel_rfl) ?_
        repeat (any_goals (first | go_big_quiet_step (first
          | (go_at_call 36; with_reducible exact Calls.regrown_of (HKE.out _ _))
          | (go_at_call 37; with_reducible exact Calls.regrown_of (HBY.out _ _))) | quiet_step (fail)))
        refine wpQuiet_nil ?_
        intro w9 hw9
        have H9 : Hid (Below W8.heap.size W8 w9) := by obtain ⟨p, rfl⟩ := hw9; exact below_regrown _ _ _
        clear hw9 g0 g1 g2 g3 g4 HKE HBY
        have f9 := (H8.out.2.2.2.1).below H9.out
        have r9 := (H8.out.2.2.2.2).below H9.out
        have e0 := f9.cell 0
        have e1 := f9.cell 1
        have e2 := f9.cell 2
        have t0 := r9.cell 0
        have t1 := r9.cell 1
        have t2 := r9.cell 2
        have s0 := r9.thawed 0
        have s1 := r9.thawed 1
        have s2 := r9.thawed 2
        simp only [List.getElem?_toArray, List.getElem?_cons_zero, List.getElem?_cons_succ] at e0 e1 e2 t0 t1 t2
        go_wp2_with fail
        obtain ⟨Wz, hWz⟩ : ∃ Wz, Wz = stored w9 (W.heap.size + 1) (.slice a l.length cap) K B := ⟨_, rfl⟩
        have hFz := stored_box r9 rfl (.slice a l.length cap) K B
        have hTz := stored_turned w9 (W.heap.size + 1) (.slice a l.length cap) K B
        rw [← hWz] at hFz hTz
        unfold stored at hWz
        rw [← hWz]
        have q0 := hFz.cell 0
        have q1 := hFz.cell 1
        have q2 := hFz.cell 2
        simp only [List.getElem?_toArray, List.getElem?_cons_zero, List.getElem?_cons_succ] at q0 q1 q2
        refine bodyPost_ret (v := .tuple #[rb (.slice a l.length cap) K B, .int .i64 10]) (by simp [results, Try.results34, go_sem, rb, q0, q1, q2]) rfl ?_
        rw [← HPost.out, hpb]
        have hb : Below W.heap.size W Wz := Turned.below (S := [W.heap.size + 1]) (Below.step H8.out.1 H9.out) hTz (by simp) (Below.step H8.out.1 H9.out).size
        refine ⟨_, rfl, hb, ?_⟩
        exact HS0.out.below hb
      · have u3 : decide (B < lenP L7) = false := decide_eq_false hc2
        have u4 : ¬ (B : Int) < (lenP L7 : Int) := by omega
        have hpb : putB x y l K B = (L7, 0) := by
          unfold putB
          rw [if_pos HXY.out, HPUT.out, if_pos ⟨by omega, by omega⟩]
        refine wp_region_quiet_below (by kernel_rfl) (by kernel_rfl) ?_
        repeat (any_goals (first | go_big_quiet_step (first
          | (go_at_call 36; with_reducible exact Calls.regrown_of (HKE.out _ _))
          | (go_at_call 37; with_reducible exact Calls.regrown_of (HBY.out _ _))) | quiet_step (fail)))
        refine wpQuiet_nil ?_
        intro w9 hw9
        have H9 : Hid (Below W8.heap.size W8 w9) := by obtain ⟨p, rfl⟩ := hw9; exact below_regrown _ _ _
        clear hw9 g0 g1 g2 g3 g4 HKE HBY
        have f9 := (H8.out.2.1).below H9.out
        have r9 := (H8.out.2.2.2.2).below H9.out
        have e0 := f9.cell 0
        have e1 := f9.cell 1
        have e2 := f9.cell 2
        have t0 := r9.cell 0
        have t1 := r9.cell 1
        have t2 := r9.cell 2
        have s0 := r9.thawed 0
        have s1 := r9.thawed 1
        have s2 := r9.thawed 2
        simp only [List.getElem?_toArray, List.getElem?_cons_zero, List.getElem?_cons_succ] at e0 e1 e2 t0 t1 t2
        go_wp2_with fail
        obtain ⟨Wz, hWz⟩ : ∃ Wz, Wz = stored w9 (W.heap.size + 1) (.slice a7 (L2.length + 1) k7) K B := ⟨_, rfl⟩
        have hFz := stored_box r9 rfl (.slice a7 (L2.length + 1) k7) K B
        have hTz := stored_turned w9 (W.heap.size + 1) (.slice a7 (L2.length + 1) k7) K B
        rw [← hWz] at hFz hTz
        unfold stored at hWz
        rw [← hWz]
        have q0 := hFz.cell 0
        have q1 := hFz.cell 1
        have q2 := hFz.cell 2
        simp only [List.getElem?_toArray, List.getElem?_cons_zero, List.getElem?_cons_succ] at q0 q1 q2
        refine bodyPost_ret (v := .tuple #[rb (.slice a7 (L2.length + 1) k7) K B, .int .i64 0]) (by simp [results, Try.results34, go_sem, rb, q0, q1, q2]) rfl ?_
        rw [← HPost.out, hpb]
        have hb : Below W.heap.size W Wz := Turned.below (S := [W.heap.size + 1]) (Below.step H8.out.1 H9.out) hTz (by simp) (Below.step H8.out.1 H9.out).size
        refine ⟨_, rfl, hb, ?_⟩
        exact ((HSE.out.below H9.out).same fun g hg => hTz.block g (((HSE.out.below H9.out)).lt hg).1 (fun e => by
          simp at e
          subst e
          obtain ⟨cur, hc⟩ := ((HSE.out.below H9.out).lt hg).2
          have := fresh_ty hc r9
          exact absurd this (by decide)))
end Go.Proofs.Ytcpmnkihhenbgaa
