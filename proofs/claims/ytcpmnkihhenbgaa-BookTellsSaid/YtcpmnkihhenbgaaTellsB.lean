/- BookTells, over its opened arguments: under way. -/
import Derived.Test.YtcpmnkihhenbgaaApG
namespace Go.Proofs.Ytcpmnkihhenbgaa
open Go.RowKit Go.Shelf
set_option maxRecDepth 1000000
set_option maxHeartbeats 4000000

theorem tells_in (q : Lm) (ao : Option Addr) (len cap : Nat) (key : ByteArray) (lim : Int) (w : World) (hdd : IsDeeds w ao len) (hl80 : len ≤ 80) (hk : key.size ≤ 100) :
    Calls Try.prog 3 #[q.v, .slice ao len cap, .string key, .int .i64 lim] w fun e w' => e = .returned (.bool true) ∧ Below w.heap.size w w' := by
  obtain ⟨W1, hW1⟩ : ∃ W1, W1 = w.alloc (.cells #[.int .u64 (q.k : Int), .int .u64 (q.b : Int)] 24) := ⟨_, rfl⟩
  have B1 : Below w.heap.size w W1 := by rw [hW1]; exact Below.new (Below.refl _ _) _
  have f0 : Fresh W1 w.heap.size #[.int .u64 (q.k : Int), .int .u64 (q.b : Int)] 24 := by rw [hW1]; exact Fresh.new _ _ _ _ rfl
  have HF0 := Lib.hid f0
  have HB := Lib.hid B1
  have HDD := Lib.hid hdd
  have HW1 := Lib.hid hW1
  have hl63 := hdd.1
  have g0 := f0.cell 0
  have g1 := f0.cell 1
  simp only [List.getElem?_toArray, List.getElem?_cons_zero, List.getElem?_cons_succ] at g0 g1
  have k1 : ¬ (80 : Int) < (len : Int) := by omega
  have k2 : ¬ (100 : Int) < (key.size : Int) := by omega
  clear hW1 B1 f0 hdd hk
  unfold Lm.v
  go_enter Try.func3, Try.ntmps3
  go_upto_region 1 with fail
  rw [← HW1.out]
  go_upto_region 5 with (first
    | (go_at_call 10; refine (new_here q.k q.b _ _ (Below.refl _ _)).mono ?_; rintro e3 w3 ⟨p, q0, mp, rfl, h3⟩; have H3 := Lib.hid h3; have g0 := (h3.low.cell (cell_lt g0)).trans g0; have g1 := (h3.low.cell (cell_lt g1)).trans g1; clear h3))
  obtain ⟨W4, hW4⟩ : ∃ W4, W4 = w3.alloc (.cells #[.slice none 0 0, .int .u64 (q.k : Int), .int .u64 (q.b : Int)] 31) := ⟨_, rfl⟩
  rw [← hW4]
  have H4 : Hid (Pairt W1 W4 p q0 q0 mp w3.heap.size [] (.slice none 0 0) q.k q.b) := by
    have b4 : Below w3.heap.size w3 W4 := by rw [hW4]; exact Below.new (Below.refl _ _) _
    exact ⟨H3.out.below b4, Seg.nil _, by rw [hW4]; exact Fresh.new _ _ _ _ rfl⟩
  have HZ : Hid (W1.heap.size ≤ w3.heap.size) := H3.out.low.size
  obtain ⟨z, hz⟩ : ∃ z, w3.heap.size = z := ⟨_, rfl⟩
  rw [hz] at H4 HZ ⊢
  clear hW4 hz g0 g1
  go_wp2_with fail
  go_loopw [11] (fun iv wr => ∃ i : Nat, i ≤ len ∧ iv = .int .i64 i ∧ ∃ e l v, Pairt W1 wr p q0 e mp z l v q.k q.b ∧ l.length ≤ i) (fun iv _ => len - (intOf iv).toNat)
  case atStart => exact ⟨0, Nat.zero_le _, rfl, q0, [], _, H4.out, Nat.le_refl _⟩
  case round =>
    obtain ⟨i, hi, rfl, e, l, v, hH, hl⟩ := hrel
    obtain ⟨av, cv, rfl, _, _⟩ := hH.seg.form
    have HH := Lib.hid hH
    have HL := Lib.hid hl
    by_cases hlt : i < len
    · have jl : (i : Int) < (len : Int) := by omega
      have j0 : (0 : Int) ≤ (i : Int) := by omega
      have j80 : (i : Int) < 80 := by omega
      have jd : decide (i < len) = true := decide_eq_true hlt
      obtain ⟨blk, off, dd, rfl, hbl, hd⟩ := deed_at HDD.out hlt
      have hc : ∀ W, Below W1.heap.size W1 W → W.cell? ⟨blk, off + i * 5, none⟩ = some (.int .i64 dd.what) ∧ W.cell? ⟨blk, off + i * 5 + 1, none⟩ = some (.string dd.key) ∧ W.cell? ⟨blk, off + i * 5 + 2, none⟩ = some (.string dd.value) ∧ W.cell? ⟨blk, off + i * 5 + 3, none⟩ = some (.string dd.old) ∧ W.cell? ⟨blk, off + i * 5 + 4, none⟩ = some (.int .i64 dd.n) := fun W hb => by
        have hlow := Below.step HB.out hb
        exact ⟨(hlow.cell (p := ⟨blk, _, none⟩) hbl).trans hd.1, (hlow.cell (p := ⟨blk, _, none⟩) hbl).trans hd.2.1, (hlow.cell (p := ⟨blk, _, none⟩) hbl).trans hd.2.2.1, (hlow.cell (p := ⟨blk, _, none⟩) hbl).trans hd.2.2.2.1, (hlow.cell (p := ⟨blk, _, none⟩) hbl).trans hd.2.2.2.2⟩
      have HC := Lib.hid hc
      clear hH hl hd hc hbl hi
      obtain ⟨d0, d1, d2, d3, d4⟩ := HC.out _ HH.out.bk.low
      cases hfd : dd.fit
      · have HFD := Lib.hid hfd
        clear hfd
        go_wp2_with (first
          | (go_at_call 11; refine (fitD_any dd _).mono ?_; rw [HFD.out]; rintro e5 w5 ⟨rfl, hb5⟩; have H5 := Lib.hid (Below.step HH.out.bk.low hb5); clear hb5)
          | (go_at_call 9; refine (awake_any _).mono ?_; rintro e6 w6 ⟨rfl, hb6⟩; have H6 := Lib.hid (Below.step HB.out (Below.step H5.out hb6)); clear hb6))
        go_ret
        exact ⟨rfl, H6.out⟩
      · have HFD := Lib.hid hfd
        clear hfd
        go_upto_region 10 with (first
          | (go_at_call 11; refine (fitD_any dd _).mono ?_; rw [HFD.out]; rintro e5 w5 ⟨rfl, hb5⟩; have H5 := Lib.hid (HH.out.below hb5); clear hb5))
        have H5d : Hid (Pairt W1 w5.drew p q0 e mp z l (.slice av l.length cv) q.k q.b) := H5.out.below (Below.refl _ _).drew
        have HD : Hid (∀ W', Below w5.drew.heap.size w5.drew W' → Calls Try.prog 12 #[.pointer (some ⟨p, 0, none⟩), rb (.slice av l.length cv) q.k q.b, dd.v] W' (DoesB W1 W' p q0 e mp q.k q.b (actS dd l q.k q.b).1)) := fun W' hb => does_any (H5d.out.below hb).bk (H5d.out.below hb).seg (by have := HL.out; omega) dd
        obtain ⟨L2, hL2⟩ : ∃ L2, (actS dd l q.k q.b).1 = L2 := ⟨_, rfl⟩
        rw [hL2] at HD
        have HL2 : Hid (L2.length ≤ i + 1) := by
          show _ ≤ _
          have := act_len dd l q.k q.b
          have := HL.out
          rw [hL2] at *
          omega
        unfold rb Dd.v at HD
        have KS : Hid (∀ W', Fresh W' z #[.slice av l.length cv, .int .u64 (q.k : Int), .int .u64 (q.b : Int)] 31 → Below W1.heap.size W1 W' → W'.cell? ⟨z, 0, none⟩ = some (.slice av l.length cv) ∧ W'.cell? ⟨z, 1, none⟩ = some (.int .u64 (q.k : Int)) ∧ W'.cell? ⟨z, 2, none⟩ = some (.int .u64 (q.b : Int)) ∧ W'.cell? ⟨blk, off + i * 5, none⟩ = some (.int .i64 dd.what) ∧ W'.cell? ⟨blk, off + i * 5 + 1, none⟩ = some (.string dd.key) ∧ W'.cell? ⟨blk, off + i * 5 + 2, none⟩ = some (.string dd.value) ∧ W'.cell? ⟨blk, off + i * 5 + 3, none⟩ = some (.string dd.old) ∧ W'.cell? ⟨blk, off + i * 5 + 4, none⟩ = some (.int .i64 dd.n)) := fun W' hf hb => ⟨hf.cell 0, hf.cell 1, hf.cell 2, HC.out W' hb⟩
        clear d0 d1 d2 d3 d4 hL2
        refine wp_region_held_drew (S := fun W' => W'.cell? ⟨z, 0, none⟩ = some (.slice av l.length cv) ∧ W'.cell? ⟨z, 1, none⟩ = some (.int .u64 (q.k : Int)) ∧ W'.cell? ⟨z, 2, none⟩ = some (.int .u64 (q.b : Int)) ∧ W'.cell? ⟨blk, off + i * 5, none⟩ = some (.int .i64 dd.what) ∧ W'.cell? ⟨blk, off + i * 5 + 1, none⟩ = some (.string dd.key) ∧ W'.cell? ⟨blk, off + i * 5 + 2, none⟩ = some (.string dd.value) ∧ W'.cell? ⟨blk, off + i * 5 + 3, none⟩ = some (.string dd.old) ∧ W'.cell? ⟨blk, off + i * 5 + 4, none⟩ = some (.int .i64 dd.n)) (by kernel_rfl) ?_ (fun hHeld => ?_)
        · (try dsimp only)
          exact KS.out _ H5d.out.box H5d.out.bk.low
        refine wpAnyH_take (i := 0) (oi := ?_) (v := ?_) ?_ (by kernel_rfl) (by kernel_rfl) (by kernel_rfl) ?_ (Or.inl ⟨?_, ?_⟩) (by assumption) ?_
        rotate_left 2
        · simp only [List.getElem?_toArray, List.getElem?_cons_succ, List.getElem?_cons_zero] <;> rfl
        · exact fun _ _ _ h => h
        · rfl
        · (intro w hSw; (try dsimp only at hSw); go_simp; try (with_reducible rfl))
        try simp only [Act.put, List.setIfInBounds_toArray, List.set_cons_zero, List.set_cons_succ]
        refine wpAnyH_take (i := 1) (oi := ?_) (v := ?_) ?_ (by kernel_rfl) (by kernel_rfl) (by kernel_rfl) ?_ (Or.inl ⟨?_, ?_⟩) (by assumption) ?_
        rotate_left 2
        · simp only [List.getElem?_toArray, List.getElem?_cons_succ, List.getElem?_cons_zero] <;> rfl
        · exact fun _ _ _ h => h
        · rfl
        · (intro w hSw; (try dsimp only at hSw); go_simp; try (with_reducible rfl))
        try simp only [Act.put, List.setIfInBounds_toArray, List.set_cons_zero, List.set_cons_succ]
        refine wpAnyH_take (i := 2) (oi := ?_) (v := ?_) ?_ (by kernel_rfl) (by kernel_rfl) (by kernel_rfl) ?_ (Or.inl ⟨?_, ?_⟩) (by assumption) ?_
        rotate_left 2
        · simp only [List.getElem?_toArray, List.getElem?_cons_succ, List.getElem?_cons_zero] <;> rfl
        · exact fun _ _ _ h => h
        · rfl
        · (intro w hSw; (try dsimp only at hSw); go_simp; try (with_reducible rfl))
        try simp only [Act.put, List.setIfInBounds_toArray, List.set_cons_zero, List.set_cons_succ]
        refine wpAnyH_take (i := 3) (oi := ?_) (v := ?_) ?_ (by kernel_rfl) (by kernel_rfl) (by kernel_rfl) ?_ (Or.inl ⟨?_, ?_⟩) (by assumption) ?_
        rotate_left 2
        · simp only [List.getElem?_toArray, List.getElem?_cons_succ, List.getElem?_cons_zero] <;> rfl
        · exact fun _ _ _ h => h
        · rfl
        · (intro w hSw; (try dsimp only at hSw); go_simp; try (with_reducible rfl))
        try simp only [Act.put, List.setIfInBounds_toArray, List.set_cons_zero, List.set_cons_succ]
        refine wpAnyH_take (i := 4) (oi := ?_) (v := ?_) ?_ (by kernel_rfl) (by kernel_rfl) (by kernel_rfl) ?_ (Or.inl ⟨?_, ?_⟩) (by assumption) ?_
        rotate_left 2
        · simp only [List.getElem?_toArray, List.getElem?_cons_succ, List.getElem?_cons_zero] <;> rfl
        · exact fun _ _ _ h => h
        · rfl
        · (intro w hSw; (try dsimp only at hSw); go_simp; try (with_reducible rfl))
        try simp only [Act.put, List.setIfInBounds_toArray, List.set_cons_zero, List.set_cons_succ]
        refine wpAnyH_take (i := 5) (oi := ?_) (v := ?_) ?_ (by kernel_rfl) (by kernel_rfl) (by kernel_rfl) ?_ (Or.inl ⟨?_, ?_⟩) (by assumption) ?_
        rotate_left 2
        · simp only [List.getElem?_toArray, List.getElem?_cons_succ, List.getElem?_cons_zero] <;> rfl
        · exact fun _ _ _ h => h
        · rfl
        · (intro w hSw; (try dsimp only at hSw); go_simp; try (with_reducible rfl))
        try simp only [Act.put, List.setIfInBounds_toArray, List.set_cons_zero, List.set_cons_succ]
        refine wpAnyH_ready (rs := [6, 10]) (by kernel_rfl) (by simp) ?_
        refine AllReadyH.cons (o := _) (by simp only [List.getElem?_toArray, List.getElem?_cons_succ, List.getElem?_cons_zero] <;> rfl) (fun K hK => ?_) ?_
        · go_simp
          refine (HD.out _ (Below.refl _ _)).mono ?_
          rintro e6 w6 ⟨v6, e2, rfl, hH6, hT6, hS6⟩
          obtain ⟨a6, k6, rfl, _, _⟩ := hS6.form
          unfold rb
          have X6 := Lib.hid (hT6.other H5d.out.box (H5d.out.bk.bk.out H5d.out.box (by decide) (by decide)))
          have H6 := Lib.hid (And.intro hH6 hS6)
          clear hH6 hT6 hS6
          go_wp2_with fail
          refine hK.out _ _ ?_ (fun hHeld => ?_)
          · (try dsimp only)
            exact KS.out _ X6.out H6.out.1.low
          clear hK K
          try simp only [Act.put, List.setIfInBounds_toArray, List.set_cons_zero, List.set_cons_succ]
          refine wpAnyH_take (i := 7) (oi := ?_) (v := ?_) ?_ (by kernel_rfl) (by kernel_rfl) (by kernel_rfl) ?_ (Or.inl ⟨?_, ?_⟩) (by assumption) ?_
          rotate_left 2
          · simp only [List.getElem?_toArray, List.getElem?_cons_succ, List.getElem?_cons_zero] <;> rfl
          · exact fun _ _ _ h => h
          · rfl
          · (intro w hSw; (try dsimp only at hSw); go_simp; try (with_reducible rfl))
          try simp only [Act.put, List.setIfInBounds_toArray, List.set_cons_zero, List.set_cons_succ]
          refine wpAnyH_take (i := 8) (oi := ?_) (v := ?_) ?_ (by kernel_rfl) (by kernel_rfl) (by kernel_rfl) ?_ (Or.inl ⟨?_, ?_⟩) (by assumption) ?_
          rotate_left 2
          · simp only [List.getElem?_toArray, List.getElem?_cons_succ, List.getElem?_cons_zero] <;> rfl
          · exact fun _ _ _ h => h
          · rfl
          · (intro w hSw; (try dsimp only at hSw); go_simp; try (with_reducible rfl))
          try simp only [Act.put, List.setIfInBounds_toArray, List.set_cons_zero, List.set_cons_succ]
          refine wpAnyH_take (i := 9) (oi := ?_) (v := ?_) ?_ (by kernel_rfl) (by kernel_rfl) (by kernel_rfl) ?_ (Or.inl ⟨?_, ?_⟩) (by assumption) ?_
          rotate_left 2
          · simp only [List.getElem?_toArray, List.getElem?_cons_succ, List.getElem?_cons_zero] <;> rfl
          · exact fun _ _ _ h => h
          · rfl
          · (intro w hSw; (try dsimp only at hSw); go_simp; try (with_reducible rfl))
          try simp only [Act.put, List.setIfInBounds_toArray, List.set_cons_zero, List.set_cons_succ]
          refine wpAnyH_ready (rs := [10]) (by kernel_rfl) (by simp) ?_
          refine AllReadyH.cons (o := _) (by simp only [List.getElem?_toArray, List.getElem?_cons_succ, List.getElem?_cons_zero] <;> rfl) (fun K hK => ?_) ?_
          · go_simp
            refine hK.out _ _ ?_ (fun hHeld => ?_)
            · (try dsimp only)
              exact KS.out _ (X6.out.alloc _) (Below.new H6.out.1.low _)
            clear hK K
            try simp only [Act.put, List.setIfInBounds_toArray, List.set_cons_zero, List.set_cons_succ]
            refine wpAnyH_ready (rs := [11]) (by kernel_rfl) (by simp) ?_
            refine AllReadyH.cons (o := _) (by simp only [List.getElem?_toArray, List.getElem?_cons_succ, List.getElem?_cons_zero] <;> rfl) (fun K hK => ?_) ?_
            · go_simp
              refine hK.out _ _ ?_ (fun hHeld => ?_)
              · (try dsimp only)
                exact KS.out _ (X6.out.alloc _) (Below.new H6.out.1.low _)
              clear hK K
              try simp only [Act.put, List.setIfInBounds_toArray, List.set_cons_zero, List.set_cons_succ]
              refine wpAnyH_take (i := 12) (oi := ?_) (v := ?_) ?_ (by kernel_rfl) (by kernel_rfl) (by kernel_rfl) ?_ (Or.inl ⟨?_, ?_⟩) (by assumption) ?_
              rotate_left 2
              · simp only [List.getElem?_toArray, List.getElem?_cons_succ, List.getElem?_cons_zero] <;> rfl
              · exact fun _ _ _ h => h
              · rfl
              · (intro w hSw; (try dsimp only at hSw); go_simp; try (with_reducible rfl))
              try simp only [Act.put, List.setIfInBounds_toArray, List.set_cons_zero, List.set_cons_succ]
              refine wpAnyH_done (by kernel_rfl) ?_ _
              obtain ⟨Wn, hWn⟩ : ∃ Wn, Wn = w6.alloc (.cells #[.slice a6 L2.length k6, .int .u64 (q.k : Int), .int .u64 (q.b : Int)] 31) := ⟨_, rfl⟩
              have PN : Pairt W1 Wn p q0 e2 mp w6.heap.size L2 (.slice a6 L2.length k6) q.k q.b := by rw [hWn]; exact ⟨H6.out.1.below (Below.new (Below.refl _ _) _), H6.out.2.below (Below.new (Below.refl _ _) _), Fresh.new _ _ _ _ rfl⟩
              have XN : Fresh Wn z #[.slice av l.length cv, .int .u64 (q.k : Int), .int .u64 (q.b : Int)] 31 := by rw [hWn]; exact X6.out.alloc _
              rw [← hWn]
              obtain ⟨nb, hnb⟩ : ∃ nb, w6.heap.size = nb := ⟨_, rfl⟩
              rw [hnb] at PN ⊢
              clear hWn hnb
              have HPN := Lib.hid (And.intro PN XN)
              have n0 := PN.box.cell 0
              have n1 := PN.box.cell 1
              have n2 := PN.box.cell 2
              have y0 := XN.cell 0
              have y1 := XN.cell 1
              have y2 := XN.cell 2
              have s0' := XN.thawed 0
              have s1' := XN.thawed 1
              have s2' := XN.thawed 2
              simp only [List.getElem?_toArray, List.getElem?_cons_zero, List.getElem?_cons_succ] at n0 n1 n2 y0 y1 y2
              clear PN XN
              go_upto_region 12 with fail
              obtain ⟨Wm, hWm⟩ : ∃ Wm, Wm = stored Wn z (.slice a6 L2.length k6) q.k q.b := ⟨_, rfl⟩
              have PM : Pairt W1 Wm p q0 e2 mp z L2 (.slice a6 L2.length k6) q.k q.b := by rw [hWm]; exact Pairt.stored HPN.out.1.bk HPN.out.1.seg HPN.out.2 rfl HZ.out
              unfold stored at hWm
              rw [← hWm]
              have HPM := Lib.hid PM
              have g0 := fun d os => cell_regrown (PM.box.cell 0) d os
              have g1 := fun d os => cell_regrown (PM.box.cell 1) d os
              have g2 := fun d os => cell_regrown (PM.box.cell 2) d os
              have g3 := fun d os => cell_regrown (HC.out Wm PM.bk.low).2.1 d os
              have HLK : Hid (∀ (x : ByteArray) d os, Calls Try.prog 13 #[.pointer (some ⟨p, 0, none⟩), .agg #[.slice a6 L2.length k6, .int .u64 (q.k : Int), .int .u64 (q.b : Int)], .string x] (Sort.grow (redrawn Wm d) os) fun e' w' => e' = .returned (.bool true) ∧ Below (Sort.grow (redrawn Wm d) os).heap.size (Sort.grow (redrawn Wm d) os) w') := fun x d os => looks_any (HPM.out.below (below_regrown Wm d os)).bk (HPM.out.below (below_regrown Wm d os)).seg (by have := HL2.out; omega) x
              clear hWm PM n0 n1 n2 y0 y1 y2 s0' s1' s2'
              refine wp_region_quiet_below (by kernel_rfl) (by kernel_rfl) ?_
              repeat (any_goals (first | go_big_quiet_step ((go_at_call 13; with_reducible exact Calls.regrown_of (HLK.out _ _ _))) | quiet_step (fail)))
              refine wpQuiet_nil ?_
              intro w9 hw9
              have H9 : Hid (Below Wm.heap.size Wm w9) := by obtain ⟨p, rfl⟩ := hw9; exact below_regrown _ _ _
              clear hw9 g0 g1 g2 g3 HLK
              go_wp2_with fail
              go_roundw
              case rel => exact ⟨i + 1, by omega, by simp, e2, L2, _, HPM.out.below H9.out, HL2.out⟩
              case measure => simp [intOf]; omega
            exact AllReadyH.nil
          exact AllReadyH.nil
        refine AllReadyH.cons (o := _) (by simp only [List.getElem?_toArray, List.getElem?_cons_succ, List.getElem?_cons_zero] <;> rfl) (fun K hK => ?_) ?_
        · go_simp
          refine hK.out _ _ ?_ (fun hHeld => ?_)
          · (try dsimp only)
            exact KS.out _ (H5d.out.box.alloc _) (Below.new H5d.out.bk.low _)
          clear hK K
          try simp only [Act.put, List.setIfInBounds_toArray, List.set_cons_zero, List.set_cons_succ]
          refine wpAnyH_ready (rs := [6]) (by kernel_rfl) (by simp) ?_
          refine AllReadyH.cons (o := _) (by simp only [List.getElem?_toArray, List.getElem?_cons_succ, List.getElem?_cons_zero] <;> rfl) (fun K hK => ?_) ?_
          · go_simp
            refine (HD.out _ (Below.new (Below.refl _ _) _)).mono ?_
            rintro e6 w6 ⟨v6, e2, rfl, hH6, hT6, hS6⟩
            obtain ⟨a6, k6, rfl, _, _⟩ := hS6.form
            unfold rb
            have X6 := Lib.hid (hT6.other (H5d.out.below (W' := w5.drew.alloc (.cells #[.slice none 0 0, .int .u64 0, .int .u64 0] 31)) (Below.new (Below.refl _ _) _)).box ((H5d.out.below (W' := w5.drew.alloc (.cells #[.slice none 0 0, .int .u64 0, .int .u64 0] 31)) (Below.new (Below.refl _ _) _)).bk.bk.out (H5d.out.below (W' := w5.drew.alloc (.cells #[.slice none 0 0, .int .u64 0, .int .u64 0] 31)) (Below.new (Below.refl _ _) _)).box (by decide) (by decide)))
            have R6 := Lib.hid (hT6.other (Fresh.new w5.drew w5.heap.size _ _ rfl) ((H5d.out.below (W' := w5.drew.alloc (.cells #[.slice none 0 0, .int .u64 0, .int .u64 0] 31)) (Below.new (Below.refl _ _) _)).bk.bk.out (Fresh.new w5.drew w5.heap.size _ _ rfl) (by decide) (by decide)))
            have t0 := R6.out.cell 0
            have t1 := R6.out.cell 1
            have t2 := R6.out.cell 2
            have s0 := R6.out.thawed 0
            have s1 := R6.out.thawed 1
            have s2 := R6.out.thawed 2
            simp only [List.getElem?_toArray, List.getElem?_cons_zero, List.getElem?_cons_succ] at t0 t1 t2
            have H6 := Lib.hid (And.intro hH6 hS6)
            clear hH6 hT6 hS6
            go_wp2_with fail
            refine hK.out _ _ ?_ (fun hHeld => ?_)
            · (try dsimp only)
              exact KS.out _ X6.out H6.out.1.low
            clear hK K
            try simp only [Act.put, List.setIfInBounds_toArray, List.set_cons_zero, List.set_cons_succ]
            refine wpAnyH_take (i := 7) (oi := ?_) (v := ?_) ?_ (by kernel_rfl) (by kernel_rfl) (by kernel_rfl) ?_ (Or.inl ⟨?_, ?_⟩) (by assumption) ?_
            rotate_left 2
            · simp only [List.getElem?_toArray, List.getElem?_cons_succ, List.getElem?_cons_zero] <;> rfl
            · exact fun _ _ _ h => h
            · rfl
            · (intro w hSw; (try dsimp only at hSw); go_simp; try (with_reducible rfl))
            try simp only [Act.put, List.setIfInBounds_toArray, List.set_cons_zero, List.set_cons_succ]
            refine wpAnyH_take (i := 8) (oi := ?_) (v := ?_) ?_ (by kernel_rfl) (by kernel_rfl) (by kernel_rfl) ?_ (Or.inl ⟨?_, ?_⟩) (by assumption) ?_
            rotate_left 2
            · simp only [List.getElem?_toArray, List.getElem?_cons_succ, List.getElem?_cons_zero] <;> rfl
            · exact fun _ _ _ h => h
            · rfl
            · (intro w hSw; (try dsimp only at hSw); go_simp; try (with_reducible rfl))
            try simp only [Act.put, List.setIfInBounds_toArray, List.set_cons_zero, List.set_cons_succ]
            refine wpAnyH_take (i := 9) (oi := ?_) (v := ?_) ?_ (by kernel_rfl) (by kernel_rfl) (by kernel_rfl) ?_ (Or.inl ⟨?_, ?_⟩) (by assumption) ?_
            rotate_left 2
            · simp only [List.getElem?_toArray, List.getElem?_cons_succ, List.getElem?_cons_zero] <;> rfl
            · exact fun _ _ _ h => h
            · rfl
            · (intro w hSw; (try dsimp only at hSw); go_simp; try (with_reducible rfl))
            try simp only [Act.put, List.setIfInBounds_toArray, List.set_cons_zero, List.set_cons_succ]
            refine wpAnyH_ready (rs := [11]) (by kernel_rfl) (by simp) ?_
            refine AllReadyH.cons (o := _) (by simp only [List.getElem?_toArray, List.getElem?_cons_succ, List.getElem?_cons_zero] <;> rfl) (fun K hK => ?_) ?_
            · go_simp
              refine hK.out _ _ ?_ (fun hHeld => ?_)
              · (try dsimp only)
                exact KS.out _ (stored_other X6.out (Nat.ne_of_lt H5.out.box.lt)) (Pairt.stored H6.out.1 H6.out.2 R6.out rfl H5.out.bk.low.size).bk.low
              clear hK K
              try simp only [Act.put, List.setIfInBounds_toArray, List.set_cons_zero, List.set_cons_succ]
              refine wpAnyH_take (i := 12) (oi := ?_) (v := ?_) ?_ (by kernel_rfl) (by kernel_rfl) (by kernel_rfl) ?_ (Or.inl ⟨?_, ?_⟩) (by assumption) ?_
              rotate_left 2
              · simp only [List.getElem?_toArray, List.getElem?_cons_succ, List.getElem?_cons_zero] <;> rfl
              · exact fun _ _ _ h => h
              · rfl
              · (intro w hSw; (try dsimp only at hSw); go_simp; try (with_reducible rfl))
              try simp only [Act.put, List.setIfInBounds_toArray, List.set_cons_zero, List.set_cons_succ]
              refine wpAnyH_done (by kernel_rfl) ?_ _
              obtain ⟨Wn, hWn⟩ : ∃ Wn, Wn = stored w6 w5.heap.size (.slice a6 L2.length k6) q.k q.b := ⟨_, rfl⟩
              have PN : Pairt W1 Wn p q0 e2 mp w5.heap.size L2 (.slice a6 L2.length k6) q.k q.b := by rw [hWn]; exact Pairt.stored H6.out.1 H6.out.2 R6.out rfl H5.out.bk.low.size
              have XN : Fresh Wn z #[.slice av l.length cv, .int .u64 (q.k : Int), .int .u64 (q.b : Int)] 31 := by rw [hWn]; exact stored_other X6.out (Nat.ne_of_lt H5.out.box.lt)
              unfold stored at hWn
              change Exit.then _ _ _ _ (((w6.setCell ⟨w5.heap.size, 0, none⟩ _).setCell ⟨w5.heap.size, 1, none⟩ _).setCell ⟨w5.heap.size, 2, none⟩ _)
              rw [← hWn]
              obtain ⟨nb, hnb⟩ : ∃ nb, w5.heap.size = nb := ⟨_, rfl⟩
              rw [hnb] at PN ⊢
              clear hWn hnb
              have HPN := Lib.hid (And.intro PN XN)
              have n0 := PN.box.cell 0
              have n1 := PN.box.cell 1
              have n2 := PN.box.cell 2
              have y0 := XN.cell 0
              have y1 := XN.cell 1
              have y2 := XN.cell 2
              have s0' := XN.thawed 0
              have s1' := XN.thawed 1
              have s2' := XN.thawed 2
              simp only [List.getElem?_toArray, List.getElem?_cons_zero, List.getElem?_cons_succ] at n0 n1 n2 y0 y1 y2
              clear PN XN
              go_upto_region 12 with fail
              obtain ⟨Wm, hWm⟩ : ∃ Wm, Wm = stored Wn z (.slice a6 L2.length k6) q.k q.b := ⟨_, rfl⟩
              have PM : Pairt W1 Wm p q0 e2 mp z L2 (.slice a6 L2.length k6) q.k q.b := by rw [hWm]; exact Pairt.stored HPN.out.1.bk HPN.out.1.seg HPN.out.2 rfl HZ.out
              unfold stored at hWm
              rw [← hWm]
              have HPM := Lib.hid PM
              have g0 := fun d os => cell_regrown (PM.box.cell 0) d os
              have g1 := fun d os => cell_regrown (PM.box.cell 1) d os
              have g2 := fun d os => cell_regrown (PM.box.cell 2) d os
              have g3 := fun d os => cell_regrown (HC.out Wm PM.bk.low).2.1 d os
              have HLK : Hid (∀ (x : ByteArray) d os, Calls Try.prog 13 #[.pointer (some ⟨p, 0, none⟩), .agg #[.slice a6 L2.length k6, .int .u64 (q.k : Int), .int .u64 (q.b : Int)], .string x] (Sort.grow (redrawn Wm d) os) fun e' w' => e' = .returned (.bool true) ∧ Below (Sort.grow (redrawn Wm d) os).heap.size (Sort.grow (redrawn Wm d) os) w') := fun x d os => looks_any (HPM.out.below (below_regrown Wm d os)).bk (HPM.out.below (below_regrown Wm d os)).seg (by have := HL2.out; omega) x
              clear hWm PM n0 n1 n2 y0 y1 y2 s0' s1' s2'
              refine wp_region_quiet_below (by kernel_rfl) (by kernel_rfl) ?_
              repeat (any_goals (first | go_big_quiet_step ((go_at_call 13; with_reducible exact Calls.regrown_of (HLK.out _ _ _))) | quiet_step (fail)))
              refine wpQuiet_nil ?_
              intro w9 hw9
              have H9 : Hid (Below Wm.heap.size Wm w9) := by obtain ⟨p, rfl⟩ := hw9; exact below_regrown _ _ _
              clear hw9 g0 g1 g2 g3 HLK
              go_wp2_with fail
              go_roundw
              case rel => exact ⟨i + 1, by omega, by simp, e2, L2, _, HPM.out.below H9.out, HL2.out⟩
              case measure => simp [intOf]; omega
            exact AllReadyH.nil
          exact AllReadyH.nil
        exact AllReadyH.nil
    · obtain rfl : len = i := by omega
      have jd : decide (len < len) = false := by simp
      have jn : ¬ (len : Int) < (len : Int) := by omega
      have HL8 : Hid (l.length ≤ 80) := by show _ ≤ _; omega
      obtain ⟨l2, hl2⟩ : ∃ l2, (scanB key lim l).1 = l2 := ⟨_, rfl⟩
      obtain ⟨s2, hs2⟩ : ∃ s2, (scanB key lim l).2 = s2 := ⟨_, rfl⟩
      have HL2 : Hid (l2.length ≤ 80) := by
        show _ ≤ _
        have h := HL8.out
        rw [← hl2]
        unfold scanB
        split
        · split
          · rw [List.length_take, List.length_drop]; omega
          · simp
        · simp
      have HS : Hid (∀ W', Below wr.heap.size wr W' → Calls Try.prog 14 #[.pointer (some ⟨p, 0, none⟩), .string key, .int .i64 lim] W' fun e' w' => ∃ v, e' = .returned (.tuple #[v, .int .i64 s2]) ∧ Below W'.heap.size W' w' ∧ w'.ownsRow W'.heap.size 49 2 v l2.length (flatP l2)) := fun W' hb => by
        have h := scan_any (HH.out.below hb).bk.bk (by have := HL8.out; omega) key lim
        rw [hl2, hs2] at h
        exact h
      have HRS : Hid (∀ W', Below wr.heap.size wr W' → Calls Try.prog 15 #[.agg #[.slice av l.length cv, .int .u64 (q.k : Int), .int .u64 (q.b : Int)], .string key, .int .i64 lim] W' fun e' w' => ∃ v', e' = .returned (.tuple #[v', .int .i64 s2]) ∧ Below W'.heap.size W' w' ∧ Seg w' v' l2) := fun W' hb => by
        have h := rscan_any (HH.out.below hb).seg HH.out.bk.bk.good.1 HH.out.bk.bk.good.2 (by have := HL8.out; omega) key lim q.k q.b
        rw [hl2, hs2] at h
        exact h
      have HLK : Hid (∀ W', Below wr.heap.size wr W' → Calls Try.prog 13 #[.pointer (some ⟨p, 0, none⟩), .agg #[.slice av l.length cv, .int .u64 (q.k : Int), .int .u64 (q.b : Int)], .string key] W' fun e' w' => e' = .returned (.bool true) ∧ Below W'.heap.size W' w') := fun W' hb => looks_any (HH.out.below hb).bk (HH.out.below hb).seg (by have := HL8.out; omega) key
      clear hH hl hi hl2 hs2
      go_upto_region 15 with (go_at_call 14; refine (HS.out _ (Below.refl _ _)).mono ?_; rintro e5 w5 ⟨v5, rfl, hb5, ho5⟩; have H5 := Lib.hid (And.intro hb5 ho5); clear hb5 ho5)
      go_upto_region 16 with (go_at_call 14; refine (HS.out _ H5.out.1).mono ?_; rintro e6 w6 ⟨v6, rfl, hb6, ho6⟩; have H6 := Lib.hid (And.intro hb6 ho6); clear hb6 ho6)
      have B6 : Hid (Below wr.heap.size wr w6) := Below.step H5.out.1 H6.out.1
      have z0 := (HH.out.box.below B6.out).cell 0
      have z1 := (HH.out.box.below B6.out).cell 1
      have z2 := (HH.out.box.below B6.out).cell 2
      simp only [List.getElem?_toArray, List.getElem?_cons_zero, List.getElem?_cons_succ] at z0 z1 z2
      go_upto_region 17 with (go_at_call 15; refine (HRS.out _ B6.out).mono ?_; rintro e7 w7 ⟨v7, rfl, hb7, hs7⟩; have H7 := Lib.hid (And.intro hb7 hs7); clear hb7 hs7)
      obtain ⟨a5, k5, hv5⟩ := own_slice (Own.wide H5.out.2) rfl
      obtain ⟨a6, k6, hv6⟩ := own_slice (Own.wide H6.out.2) rfl
      obtain ⟨a7, k7, hv7, _⟩ := H7.out.2.form
      subst hv5 hv6 hv7
      clear z0 z1 z2
      have B7 : Hid (Below wr.heap.size wr w7) := Below.step B6.out H7.out.1
      have O5 : Hid (∀ W', Below w7.heap.size w7 W' → Own W' (.slice a5 l2.length k5) l2) := fun W' hb => (Own.wide H5.out.2).same fun g hg => (Below.step (Below.step H6.out.1 H7.out.1) hb).block g ((Own.wide H5.out.2).lt hg)
      have O6 : Hid (∀ W', Below w7.heap.size w7 W' → Own W' (.slice a6 l2.length k6) l2) := fun W' hb => (Own.wide H6.out.2).same fun g hg => (Below.step H7.out.1 hb).block g ((Own.wide H6.out.2).lt hg)
      have HSM : Hid (∀ W', Below w7.heap.size w7 W' → Calls Try.prog 16 #[.slice a5 l2.length k5, .slice a7 l2.length k7] W' fun e' w' => e' = .returned (.bool true) ∧ Below W'.heap.size W' w') := fun W' hb => by
        have h := same_any (Seg.of_row (O5.out W' hb)).holds (H7.out.2.below hb).holds (by have := HL2.out; omega) (by have := HL2.out; omega)
        rw [show sameP l2 l2 = true from by simp [sameP]] at h
        exact h
      have HAP : Hid (∀ W', Below w7.heap.size w7 W' → Calls Try.prog 17 #[.slice (some ⟨W'.heap.size, 0, none⟩) 2 2] (W'.alloc (.cells #[.slice a5 l2.length k5, .slice a6 l2.length k6] 29)) fun e' w' => e' = .returned (.bool true) ∧ Below wr.heap.size wr w') := fun W' hb => by
        have hb2 : Below w7.heap.size w7 (W'.alloc (.cells #[.slice a5 l2.length k5, .slice a6 l2.length k6] 29)) := Below.new hb _
        have hge : ∀ (x : Value) B (W : World), W.ownsRow B 49 2 x l2.length (flatP l2) → ∀ g, x.ownBlock = some g → B ≤ g := fun x B W hr g hg => by
          rcases hr.2 with ⟨rfl, _⟩ | ⟨g', cap, cur, rfl, h, _⟩
          · cases hg
          · cases hg; exact h
        have h := apartPairs_any (W := W'.alloc (.cells #[.slice a5 l2.length k5, .slice a6 l2.length k6] 29)) (L := W'.heap.size) (cap := 2) (cu := #[.slice a5 l2.length k5, .slice a6 l2.length k6]) (vs := [.slice a5 l2.length k5, .slice a6 l2.length k6]) (fun k v hk => by rw [List.getElem?_toArray]; exact hk) (c := fun _ => l2)
          ⟨Fresh.new _ _ _ _ rfl, fun k v hk => by
            rcases (show k = 0 ∨ k = 1 ∨ 2 ≤ k from by omega) with rfl | rfl | h2
            · cases hk; exact O5.out _ hb2
            · cases hk; exact O6.out _ hb2
            · rw [List.getElem?_eq_none (by simpa using h2)] at hk; cases hk⟩
          (fun j k u v g hj hk hne hu hv => by
            have hjk : (j = 0 ∧ k = 1) ∨ (j = 1 ∧ k = 0) := by
              have h1 := (List.getElem?_eq_some_iff.1 hj).1
              have h2 := (List.getElem?_eq_some_iff.1 hk).1
              simp at h1 h2
              omega
            have key : ∀ g, (Value.slice a5 l2.length k5).ownBlock = some g → (Value.slice a6 l2.length k6).ownBlock = some g → False := fun g h5 h6 => by
              have := (Own.wide H5.out.2).lt h5
              have := hge _ _ _ H6.out.2 g h6
              omega
            rcases hjk with ⟨rfl, rfl⟩ | ⟨rfl, rfl⟩
            · cases hj; cases hk; exact key g hu hv
            · cases hj; cases hk; exact key g hv hu) (by simp) (by simp) (fun _ => by have := HL2.out; omega)
        refine h.mono ?_
        rintro e' w' ⟨rfl, ht⟩
        refine ⟨rfl, Turned.below (Below.step B7.out hb2) ht (fun g hg => ?_) (Below.step B7.out hb2).size⟩
        obtain ⟨x, hx, hxg⟩ := List.mem_filterMap.1 hg
        simp at hx
        rcases hx with rfl | rfl
        · exact hge _ _ _ H5.out.2 g hxg
        · exact Nat.le_trans H5.out.1.size (hge _ _ _ H6.out.2 g hxg)
      have HZB : Hid (∀ W', Below wr.heap.size wr W' → W'.cell? ⟨z, 0, none⟩ = some (.slice av l.length cv) ∧ W'.cell? ⟨z, 1, none⟩ = some (.int .u64 (q.k : Int)) ∧ W'.cell? ⟨z, 2, none⟩ = some (.int .u64 (q.b : Int))) := fun W' hb => ⟨(HH.out.box.below hb).cell 0, (HH.out.box.below hb).cell 1, (HH.out.box.below hb).cell 2⟩
      go_wp2_with (first
        | (go_at_call 16; refine (HSM.out _ (Below.refl _ _)).mono ?_; rintro e8 w8 ⟨rfl, hb8⟩; have H8 := Lib.hid hb8; clear hb8)
        | (go_at_call 17; refine (HAP.out _ H8.out).mono ?_; rintro e9 w9 ⟨rfl, hb9⟩; have H9 := Lib.hid hb9; obtain ⟨y0, y1, y2⟩ := HZB.out _ hb9; clear hb9)
        | (go_at_call 13; refine (HLK.out _ H9.out).mono ?_; rintro e10 w10 ⟨rfl, hb10⟩; have H10 := Lib.hid (Below.step H9.out hb10); clear hb10)
        | (go_at_call 9; refine (awake_any _).mono ?_; rintro e11 w11 ⟨rfl, hb11⟩; have H11 := Lib.hid (Below.step HB.out (Below.step HH.out.bk.low (Below.step H10.out hb11))); clear hb11))
      go_ret
      exact ⟨rfl, H11.out⟩
end Go.Proofs.Ytcpmnkihhenbgaa
