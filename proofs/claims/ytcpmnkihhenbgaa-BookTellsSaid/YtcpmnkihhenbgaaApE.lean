/- Lists that lie apart: flatPairs. -/
import Derived.Test.YtcpmnkihhenbgaaApD
import Derived.Lib.QuietBelow
namespace Go.Proofs.Ytcpmnkihhenbgaa
open Go.RowKit Go.Shelf
set_option maxRecDepth 1000000
set_option maxHeartbeats 4000000

theorem flat_any (W0 : World) (L : Nat) (cu : Array Value) (vs : List Value) (hcu : ∀ (k : Nat) (v : Value), vs[k]? = some v → cu[k]? = some v) (c : Nat → List Pr) (hl : Lay W0 L cu vs c) (hd : Dis vs) (hn : vs.length ≤ 200) (hc : ∀ k, (c k).length ≤ 5000) (cap : Nat) :
    Calls Try.prog 64 #[.slice (some ⟨L, 0, none⟩) vs.length cap] W0 fun e w' => e = .returned (.bool true) ∧ Turned (blks vs) W0 w' := by
  have HMP : Hid (∀ k i : Nat, k < 1000 → i < 1000000 → ∀ w, Calls Try.prog 85 #[.int .i64 (k : Int), .int .i64 (i : Int)] w fun e w' => e = .returned (.agg #[.string (mt k i), .string ⟨#[]⟩]) ∧ Below w.heap.size w w') := fun k i hk hi w => markPair_any k i hk hi w
  obtain ⟨N, hN⟩ : ∃ N, vs.length = N := ⟨_, rfl⟩
  have HN := Lib.hid hN
  have HL := Lib.hid hl
  have HCU := Lib.hid hcu
  have HDI := Lib.hid hd
  have HC := Lib.hid hc
  rw [hN] at hn ⊢
  clear hl hd hc hN hcu
  go_enter Try.func64, Try.ntmps64
  go_wp2_with fail
  go_loopw [3] (fun kv wr => ∃ k : Nat, k ≤ N ∧ kv = .int .i64 k ∧ Lay wr L cu vs (cM c k 0) ∧ Turned (blks vs) W0 wr) (fun kv _ => N - (intOf kv).toNat)
  case atStart => exact ⟨0, Nat.zero_le _, rfl, by rw [cM_zero]; exact HL.out, Turned.refl _ _⟩
  case round =>
    obtain ⟨k, hk, rfl, hL, hT⟩ := hrel
    have HLk := Lib.hid (And.intro hL hT)
    by_cases hlt : k < N
    · have jl : (k : Int) < (N : Int) := by omega
      have j0 : (0 : Int) ≤ (k : Int) := by omega
      have j2 : (k : Int) < 200 := by omega
      have jd : decide (k < N) = true := decide_eq_true hlt
      obtain ⟨v, hv⟩ : ∃ v, vs[k]? = some v := ⟨_, List.getElem?_eq_getElem (by rw [HN.out]; exact hlt)⟩
      have HV := Lib.hid hv
      obtain ⟨ao, kap, hvf⟩ : ∃ ao kap, v = .slice ao (c k).length kap := by
        have h0 := hL.row k v hv
        have hcl := cM_len c k 0 (Nat.zero_le _)
        rcases h0.form with ⟨h1, h2⟩ | ⟨g, kap, cur, h1, _⟩
        · rw [h2] at hcl
          exact ⟨none, 0, by rw [← hcl]; exact h1⟩
        · exact ⟨some ⟨g, 0, none⟩, kap, by rw [← hcl]; exact h1⟩
      rw [hvf] at HV
      clear hL hT hv hvf hk v
      obtain ⟨n, hcn⟩ : ∃ n, (c k).length = n := ⟨_, rfl⟩
      have hn5 : n ≤ 5000 := by rw [← hcn]; exact HC.out k
      have HCN := Lib.hid hcn
      rw [hcn] at HV
      clear hcn
      go_wp2_with fail
      obtain ⟨wo, rfl⟩ : ∃ wo, wr = wo := ⟨_, rfl⟩
      go_loopw [4] (fun iv wq => ∃ i : Nat, i ≤ n ∧ iv = .int .i64 i ∧ Lay wq L cu vs (cM c k i) ∧ Turned (blks vs) W0 wq) (fun iv _ => n - (intOf iv).toNat)
      case atStart => exact ⟨0, Nat.zero_le _, rfl, HLk.out.1, HLk.out.2⟩
      case round =>
        obtain ⟨i, hi, rfl, hL, hT⟩ := hrel
        obtain ⟨wq, hwq⟩ : ∃ wq, wq = wr := ⟨_, rfl⟩
        rw [← hwq] at hL hT ⊢
        clear hwq
        have HLi := Lib.hid (And.intro hL hT)
        have cK : wq.cell? ⟨L, k, none⟩ = some (.slice ao n kap) := by rw [hL.blk.cell]; exact HCU.out _ _ HV.out
        clear hL hT
        by_cases hlt2 : i < n
        · have il : (i : Int) < (n : Int) := by omega
          have i0 : (0 : Int) ≤ (i : Int) := by omega
          have id : decide (i < n) = true := decide_eq_true hlt2
          have i5 : (i : Int) < 5000 := by omega
          have hci : i < (cM c k i k).length := by rw [cM_len c k i (by rw [HCN.out]; exact hi), HCN.out]; exact hlt2
          obtain ⟨x, hx⟩ : ∃ x, (cM c k i k)[i]? = some x := ⟨_, List.getElem?_eq_getElem hci⟩
          obtain ⟨g, cp, hsl, _⟩ := (HLi.out.1.row k _ HV.out).cells hx
          simp only [Value.slice.injEq] at hsl
          obtain ⟨rfl, _, _⟩ := hsl
          have HX := Lib.hid hx
          have HCI := Lib.hid hci
          clear hx hci hi
          go_upto_region 7 with fail
          have KS : Hid (∀ W', Fresh W' L cu 29 → W'.cell? ⟨L, k, none⟩ = some (.slice (some ⟨g, 0, none⟩) n kap)) := fun W' hb => by rw [hb.cell]; exact HCU.out _ _ HV.out
          have HLg : Hid (L ≠ g) := fun e => (HLi.out.1.row k _ HV.out).not HLi.out.1.blk (by decide) (by rw [← e]; rfl)
          clear cK
          refine wp_region_held_drew (S := fun W' => W'.cell? ⟨L, k, none⟩ = some (.slice (some ⟨g, 0, none⟩) n kap)) (by kernel_rfl) ?_ (fun hHeld => ?_)
          · (try dsimp only)
            exact KS.out _ HLi.out.1.blk
          refine wpAnyH_take (i := 0) (oi := ?_) (v := ?_) ?_ (by kernel_rfl) (by kernel_rfl) (by kernel_rfl) ?_ (Or.inl ⟨?_, ?_⟩) (by assumption) ?_
          rotate_left 2
          · simp only [List.getElem?_toArray, List.getElem?_cons_succ, List.getElem?_cons_zero] <;> rfl
          · exact fun _ _ _ h => h
          · rfl
          · (intro w hSw; (try dsimp only at hSw); go_simp; try (with_reducible rfl))
          try simp only [Act.put, List.setIfInBounds_toArray, List.set_cons_zero, List.set_cons_succ]
          refine wpAnyH_take (i := 1) (oi := ?_) (v := ?_) ?_ (by kernel_rfl) (by kernel_rfl) (by kernel_rfl) ?_ (Or.inl ⟨?_, ?_⟩) (by assumption) ?_
          rotate_left 2
          · simp only [List.getElem?_toArray, List.getElem?_cons_succ, List.getElem?_cons_zero] <;> rfl
          · exact fun _ _ _ h => h
          · rfl
          · (intro w hSw; (try dsimp only at hSw); go_simp; try (with_reducible rfl))
          try simp only [Act.put, List.setIfInBounds_toArray, List.set_cons_zero, List.set_cons_succ]
          refine wpAnyH_take (i := 2) (oi := ?_) (v := ?_) ?_ (by kernel_rfl) (by kernel_rfl) (by kernel_rfl) ?_ (Or.inl ⟨?_, ?_⟩) (by assumption) ?_
          rotate_left 2
          · simp only [List.getElem?_toArray, List.getElem?_cons_succ, List.getElem?_cons_zero] <;> rfl
          · exact fun _ _ _ h => h
          · rfl
          · (intro w hSw; (try dsimp only at hSw); go_simp; try (with_reducible rfl))
          try simp only [Act.put, List.setIfInBounds_toArray, List.set_cons_zero, List.set_cons_succ]
          refine wpAnyH_take (i := 3) (oi := ?_) (v := ?_) ?_ (by kernel_rfl) (by kernel_rfl) (by kernel_rfl) ?_ (Or.inl ⟨?_, ?_⟩) (by assumption) ?_
          rotate_left 2
          · simp only [List.getElem?_toArray, List.getElem?_cons_succ, List.getElem?_cons_zero] <;> rfl
          · exact fun _ _ _ h => h
          · rfl
          · (intro w hSw; (try dsimp only at hSw); go_simp; try (with_reducible rfl))
          try simp only [Act.put, List.setIfInBounds_toArray, List.set_cons_zero, List.set_cons_succ]
          refine wpAnyH_take (i := 4) (oi := ?_) (v := ?_) ?_ (by kernel_rfl) (by kernel_rfl) (by kernel_rfl) ?_ (Or.inl ⟨?_, ?_⟩) (by assumption) ?_
          rotate_left 2
          · simp only [List.getElem?_toArray, List.getElem?_cons_succ, List.getElem?_cons_zero] <;> rfl
          · exact fun _ _ _ h => h
          · rfl
          · (intro w hSw; (try dsimp only at hSw); go_simp; try (with_reducible rfl))
          try simp only [Act.put, List.setIfInBounds_toArray, List.set_cons_zero, List.set_cons_succ]
          refine wpAnyH_take (i := 5) (oi := ?_) (v := ?_) ?_ (by kernel_rfl) (by kernel_rfl) (by kernel_rfl) ?_ (Or.inl ⟨?_, ?_⟩) (by assumption) ?_
          rotate_left 2
          · simp only [List.getElem?_toArray, List.getElem?_cons_succ, List.getElem?_cons_zero] <;> rfl
          · exact fun _ _ _ h => h
          · rfl
          · (intro w hSw; (try dsimp only at hSw); go_simp; try (with_reducible rfl))
          try simp only [Act.put, List.setIfInBounds_toArray, List.set_cons_zero, List.set_cons_succ]
          refine wpAnyH_take (i := 6) (oi := ?_) (v := ?_) ?_ (by kernel_rfl) (by kernel_rfl) (by kernel_rfl) ?_ (Or.inl ⟨?_, ?_⟩) (by assumption) ?_
          rotate_left 2
          · simp only [List.getElem?_toArray, List.getElem?_cons_succ, List.getElem?_cons_zero] <;> rfl
          · exact fun _ _ _ h => h
          · rfl
          · (intro w hSw; (try dsimp only at hSw); go_simp; try (with_reducible rfl))
          try simp only [Act.put, List.setIfInBounds_toArray, List.set_cons_zero, List.set_cons_succ]
          refine wpAnyH_ready (rs := [7]) (by kernel_rfl) (by simp) ?_
          refine AllReadyH.cons (o := _) (by simp only [List.getElem?_toArray, List.getElem?_cons_succ, List.getElem?_cons_zero] <;> rfl) (fun K hK => ?_) ?_
          · go_simp
            refine (HMP.out k i (by omega) (by omega) _).mono ?_
            rintro e6 w6 ⟨rfl, hb6⟩
            have H6 := Lib.hid (show Below wq.heap.size wq w6 from Below.step (Below.refl _ _).drew hb6)
            clear hb6
            obtain ⟨g', cp', hsl', c0, c1, s0, s1, _⟩ := ((HLi.out.1.below H6.out).row k _ HV.out).cells HX.out
            simp only [Value.slice.injEq, Option.some.injEq, Addr.mk.injEq] at hsl'
            obtain ⟨⟨rfl, -, -⟩, -, -⟩ := hsl'
            go_wp2_with fail
            refine hK.out _ _ ?_ (fun hHeld => ?_)
            · (try dsimp only)
              exact KS.out _ (HLi.out.1.blk.below H6.out)
            clear hK K
            try simp only [Act.put, List.setIfInBounds_toArray, List.set_cons_zero, List.set_cons_succ]
            refine wpAnyH_take (i := 8) (oi := ?_) (v := ?_) ?_ (by kernel_rfl) (by kernel_rfl) (by kernel_rfl) ?_ (Or.inl ⟨?_, ?_⟩) (by assumption) ?_
            rotate_left 2
            · simp only [List.getElem?_toArray, List.getElem?_cons_succ, List.getElem?_cons_zero] <;> rfl
            · exact fun _ _ _ h => h
            · rfl
            · (intro w hSw; (try dsimp only at hSw); go_simp; try (with_reducible rfl))
            try simp only [Act.put, List.setIfInBounds_toArray, List.set_cons_zero, List.set_cons_succ]
            refine wpAnyH_ready (rs := [9]) (by kernel_rfl) (by simp) ?_
            refine AllReadyH.cons (o := _) (by simp only [List.getElem?_toArray, List.getElem?_cons_succ, List.getElem?_cons_zero] <;> rfl) (fun K hK => ?_) ?_
            · go_simp
              refine hK.out _ _ ?_ (fun hHeld => ?_)
              · (try dsimp only)
                exact KS.out _ (((HLi.out.1.blk.below H6.out).other HLg.out _ _).other HLg.out _ _)
              clear hK K
              try simp only [Act.put, List.setIfInBounds_toArray, List.set_cons_zero, List.set_cons_succ]
              refine wpAnyH_done (by kernel_rfl) ?_ _
              go_wp2_with fail
              go_roundw
              case rel =>
                refine ⟨i + 1, by omega, by simp, ?_, ?_⟩
                · have h := (HLi.out.1.below H6.out).set HDI.out HV.out HCI.out (mk k i)
                  rw [cM_set c k i (by rw [HCN.out]; exact hlt2)] at h
                  exact h
                · exact ((HLi.out.2.trans (Turned.of_below H6.out)).setCell (.inl (mem_blks HV.out rfl)) _ _).setCell (.inl (mem_blks HV.out rfl)) _ _
              case measure => simp [intOf]; omega
            exact AllReadyH.nil
          exact AllReadyH.nil
        · obtain rfl : i = n := by omega
          have id : decide (i < i) = false := by simp
          go_wp2_with fail
          go_roundw
          case rel => exact ⟨k + 1, by omega, by simp, by rw [← cM_next, HCN.out]; exact HLi.out.1, HLi.out.2⟩
          case measure => simp [intOf]; omega
    · obtain rfl : N = k := by omega
      have jd : decide (N < N) = false := by simp
      have jn : ¬ (N : Int) < (N : Int) := by omega
      have hBo : ∀ W', Fresh W' wr.heap.size (List.replicate N (Value.slice none 0 0)).toArray 29 → Below wr.heap.size wr W' → Both W0 W' L wr.heap.size wr.heap.size cu vs (List.replicate N (Value.slice none 0 0)) 0 (dM c) (R2 fun j => (c j).length) := by
        intro W' hf hb
        have hN := HN.out
        subst hN
        exact Both.start hL hT hf hb
      obtain ⟨Wg, hmk, hfg, hbg⟩ := make_pp N hn wr
      have HB := Lib.hid (hBo Wg hfg hbg)
      obtain ⟨G, hG⟩ : ∃ G, wr.heap.size = G := ⟨_, rfl⟩
      rw [hG] at HB hmk
      clear hL hT HLk hBo hfg hbg hk
      have cM := 0
      go_wp2_with fail
      clear hmk hG
      obtain ⟨wo, rfl⟩ : ∃ wo, wr = wo := ⟨_, rfl⟩
      go_loopw [6] (fun kv wk => ∃ (k : Nat) (ws : List Value), k ≤ N ∧ kv = .int .i64 k ∧ Both W0 wk L G G cu vs ws k (dM c) (R2 fun j => (c j).length)) (fun kv _ => N - (intOf kv).toNat)
      case atStart => exact ⟨0, _, Nat.zero_le _, rfl, HB.out⟩
      case round =>
        obtain ⟨k, ws, hk, rfl, hB⟩ := hrel
        obtain ⟨wk, hwk⟩ : ∃ wk, wk = wr := ⟨_, rfl⟩
        rw [← hwk] at hB ⊢
        clear hwk
        have HBk := Lib.hid hB
        by_cases hlt : k < N
        · have jl : (k : Int) < (N : Int) := by omega
          have j0 : (0 : Int) ≤ (k : Int) := by omega
          have j2 : (k : Int) < 200 := by omega
          have jd : decide (k < N) = true := decide_eq_true hlt
          obtain ⟨v, hv⟩ : ∃ v, vs[k]? = some v := ⟨_, List.getElem?_eq_getElem (by rw [HN.out]; exact hlt)⟩
          obtain ⟨n, hcn⟩ : ∃ n, (c k).length = n := ⟨_, rfl⟩
          have hn5 : n ≤ 5000 := by rw [← hcn]; exact HC.out k
          have ho : Own wk v (Mk k n) := by rw [← hcn]; exact hB.lay.row k v hv
          obtain ⟨ao, kap, rfl⟩ := own_slice ho (Mk_len k n)
          have HV := Lib.hid hv
          have HO := Lib.hid ho
          have HCN := Lib.hid hcn
          have cK : wk.cell? ⟨L, k, none⟩ = some (.slice ao n kap) := by rw [hB.lay.blk.cell]; exact HCU.out _ _ hv
          have HVB : Hid (∀ b, (Value.slice ao n kap).ownBlock = some b → b < wk.heap.size) := fun b hb => ho.lt hb
          have HLq : Hid (∀ W', Turned (Value.slice ao n kap).ownBlock.toList wk W' → Fresh W' L cu 29) := fun W' hT => hT.other hB.lay.blk (by rw [Option.mem_toList]; exact ho.not hB.lay.blk (by decide))
          have HGq : Hid (∀ W', Turned (Value.slice ao n kap).ownBlock.toList wk W' → Fresh W' G ws.toArray 29) := fun W' hT => hT.other hB.gs.blk (by rw [Option.mem_toList]; exact ho.not hB.gs.blk (by decide))
          have HWL : Hid (ws.length = N) := by show _ = _; rw [hB.gs.len]; exact HN.out
          clear hB hv ho hcn hk
          go_wp2_with fail
          clear cK
          go_loopw [7, 8] (fun uv iv wq => ∃ (i : Nat) (r : List Pr), i ≤ 64 ∧ iv = .int .i64 i ∧ Inn wk wq (.slice ao n kap) uv (Mk k n) r ∧ Mk k n ++ r = Mk k (n + i)) (fun _ iv _ => 64 - (intOf iv).toNat)
          case atStart => exact ⟨0, [], Nat.zero_le _, rfl, Inn.start HO.out, by simp⟩
          case round =>
            obtain ⟨i, r, hi, rfl, hI, hr⟩ := hrel
            obtain ⟨u, hu⟩ : ∃ u, u = u7 := ⟨_, rfl⟩
            rw [← hu] at hI ⊢
            clear hu
            obtain ⟨wq, hwq⟩ : ∃ wq, wq = wr := ⟨_, rfl⟩
            rw [← hwq] at hI ⊢
            clear hwq
            have HI := Lib.hid (And.intro hI hr)
            have cK : wq.cell? ⟨L, k, none⟩ = some (.slice ao n kap) := by rw [(HLq.out _ hI.trd).cell]; exact HCU.out _ _ HV.out
            by_cases hlt2 : i < 64
            · have il : (i : Int) < 64 := by omega
              have id : decide (i < 64) = true := decide_eq_true hlt2
              have hw : (n : Int) + (i : Int) = ((n + i : Nat) : Int) := by omega
              obtain ⟨ni, hni⟩ : ∃ ni, n + i = ni := ⟨_, rfl⟩
              have hni6 : ni < 1000000 := by omega
              rw [hni] at hw
              have HNI := Lib.hid hni
              clear hI hr hi hni
              go_wp2_with (first
                | (go_at_call 85; refine (HMP.out k ni (by omega) (by omega) _).mono ?_; rintro e6 w6 ⟨rfl, hb6⟩
                   have H6 : Hid (Below wq.heap.size wq (w6.alloc (.cells #[.string (mt k ni), .string ⟨#[]⟩] 49))) := Below.new hb6 _
                   obtain ⟨v7, W7, r7, o7, d7⟩ := app_own (W := w6.alloc (.cells #[.string (mt k ni), .string ⟨#[]⟩] 49)) (u := .slice (some ⟨w6.heap.size, 0, none⟩) 1 1) (l2 := [mk k ni]) (HI.out.1.own.same fun g hg => H6.out.block g (HI.out.1.own.lt hg)) (one_seg w6 _ _) (by rw [HI.out.2, Mk_len]; simp; omega)
                   have H7 := Lib.hid (And.intro o7 d7)
                   clear hb6 o7 d7)
                | (at_builtin; refine Lib.wpList_append_run _ rfl _ _ _ _ rfl _ _ rfl rfl _ _ (r7 _) ?_; clear r7))
              go_roundw
              case rel => exact ⟨i + 1, r ++ [mk k ni], by omega, by simp, HI.out.1.step HVB.out H6.out H7.out.1 H7.out.2, by rw [← List.append_assoc, HI.out.2, ← HNI.out, ← Mk_succ]; rfl⟩
              case measure => simp [intOf]; omega
            · obtain rfl : i = 64 := by omega
              have g0 : wq.cell? ⟨G, k, none⟩ = ws[k]? := by rw [(HGq.out _ hI.trd).cell, List.getElem?_toArray]
              have g1 := (HGq.out _ hI.trd).thawed k
              rw [List.getElem?_eq_getElem (show k < ws.length by rw [HWL.out]; exact hlt)] at g0
              obtain ⟨au, ku, rfl⟩ := own_slice (n := n + 64) hI.own (by rw [hr, Mk_len])
              clear hI hr cK hi
              go_wp2_with fail
              go_roundw
              case rel => exact ⟨k + 1, ws.set k _, by omega, by simp, HBk.out.next HDI.out HV.out (r := r) (by show Inn _ _ _ _ (Mk k (c k).length) _; rw [HCN.out]; exact HI.out.1) (by show Mk k (c k).length ++ r = Mk k ((c k).length + 64); rw [HCN.out]; exact HI.out.2)⟩
              case measure => simp [intOf]; omega
        · obtain rfl : N = k := by omega
          have jd : decide (N < N) = false := by simp
          clear hB hk hlt
          go_wp2_with fail
          obtain ⟨w3, hw3⟩ : ∃ w3, w3 = wk := ⟨_, rfl⟩
          rw [← hw3] at HBk ⊢
          clear hw3
          go_loopw [9] (fun kv wr => ∃ k : Nat, k ≤ N ∧ kv = .int .i64 k ∧ Below w3.heap.size w3 wr) (fun kv _ => N - (intOf kv).toNat)
          case atStart => exact ⟨0, Nat.zero_le _, rfl, Below.refl _ _⟩
          case round =>
            obtain ⟨k, hk, rfl, hb⟩ := hrel
            obtain ⟨wa, hwa⟩ : ∃ wa, wa = wr := ⟨_, rfl⟩
            rw [← hwa] at hb ⊢
            clear hwa
            have HBA := Lib.hid hb
            by_cases hlt : k < N
            · have jl : (k : Int) < (N : Int) := by omega
              have j0 : (0 : Int) ≤ (k : Int) := by omega
              have j2 : (k : Int) < 200 := by omega
              have jd : decide (k < N) = true := decide_eq_true hlt
              obtain ⟨v, hv⟩ : ∃ v, vs[k]? = some v := ⟨_, List.getElem?_eq_getElem (by rw [HN.out]; exact hlt)⟩
              obtain ⟨u, hu⟩ : ∃ u, ws[k]? = some u := ⟨_, List.getElem?_eq_getElem (by rw [HBk.out.gs.len, HN.out]; exact hlt)⟩
              obtain ⟨n, hcn⟩ : ∃ n, (c k).length = n := ⟨_, rfl⟩
              have hn5 : n ≤ 5000 := by rw [← hcn]; exact HC.out k
              have hov : Own w3 v (Mk k n) := by rw [← hcn]; exact HBk.out.lay.row k v hv
              have hou : Own w3 u (Mk k (n + 64)) := by
                obtain ⟨r, h1, h2⟩ := HBk.out.gs.row k u hlt hu
                have h3 : Mk k (c k).length ++ r = Mk k ((c k).length + 64) := h1
                have h4 : Own w3 u (Mk k (c k).length ++ r) := h2
                rw [h3, hcn] at h4
                exact h4
              obtain ⟨ao, kap, rfl⟩ := own_slice hov (Mk_len k n)
              obtain ⟨au, kau, rfl⟩ := own_slice hou (Mk_len k (n + 64))
              have HVC : Hid (∀ W', Below w3.heap.size w3 W' → W'.cell? ⟨L, k, none⟩ = some (.slice ao n kap) ∧ W'.cell? ⟨G, k, none⟩ = some (.slice au (n + 64) kau)) := fun W' hb => ⟨by rw [(HBk.out.lay.blk.below hb).cell]; exact HCU.out _ _ hv, by rw [(HBk.out.gs.blk.below hb).cell, List.getElem?_toArray]; exact hu⟩
              have HOV : Hid (∀ W', Below w3.heap.size w3 W' → Own W' (.slice ao n kap) (Mk k n) ∧ Own W' (.slice au (n + 64) kau) (Mk k (n + 64))) := fun W' hb => ⟨hov.same fun g hg => hb.block g (hov.lt hg), hou.same fun g hg => hb.block g (hou.lt hg)⟩
              obtain ⟨m, hm⟩ : ∃ m, n + 64 = m := ⟨_, rfl⟩
              have hnm : n ≤ m := by omega
              have hm5 : m ≤ 6000 := by omega
              rw [hm] at HVC HOV
              clear hv hu hov hou hcn hk hb hm
              go_wp2_with fail
              go_loopw [10] (fun iv wr => ∃ i : Nat, i ≤ m ∧ iv = .int .i64 i ∧ Below w3.heap.size w3 wr) (fun iv _ => m - (intOf iv).toNat)
              case atStart => exact ⟨0, Nat.zero_le _, rfl, HBA.out⟩
              case round =>
                obtain ⟨i, hi, rfl, hb⟩ := hrel
                obtain ⟨wq, hwq⟩ : ∃ wq, wq = wr := ⟨_, rfl⟩
                rw [← hwq] at hb ⊢
                clear hwq
                have HBQ := Lib.hid hb
                obtain ⟨c0, c1⟩ := HVC.out wq hb
                by_cases hlt2 : i < m
                · have il : (i : Int) < (m : Int) := by omega
                  have i0 : (0 : Int) ≤ (i : Int) := by omega
                  have id : decide (i < m) = true := decide_eq_true hlt2
                  have hx : (Mk k m)[i]? = some (mk k i) := Mk_at k m i hlt2
                  obtain ⟨gu, rfl, p0, p1⟩ := own_at (HOV.out wq hb).2 hx
                  have HMK : Hid (∀ d os, Calls Try.prog 85 #[.int .i64 (k : Int), .int .i64 (i : Int)] (Sort.grow (redrawn wq d) os) fun e w' => e = .returned (.agg #[.string (mt k i), .string ⟨#[]⟩]) ∧ Below (Sort.grow (redrawn wq d) os).heap.size (Sort.grow (redrawn wq d) os) w') := fun d os => HMP.out k i (by omega) (by omega) _
                  have g0 := fun d os => cell_regrown c0 d os
                  have g1 := fun d os => cell_regrown c1 d os
                  have g2 := fun d os => cell_regrown p0 d os
                  have g3 := fun d os => cell_regrown p1 d os
                  dsimp only [mk] at g2 g3
                  by_cases hin : i < n
                  · have il3 : (i : Int) < (n : Int) := by omega
                    have id3 : decide (i < n) = true := decide_eq_true hin
                    obtain ⟨gv, rfl, s0, s1⟩ := own_at (HOV.out wq hb).1 (Mk_at k n i hin)
                    have g4 := fun d os => cell_regrown s0 d os
                    have g5 := fun d os => cell_regrown s1 d os
                    dsimp only [mk] at g4 g5
                    clear hx hb hi s0 s1 p0 p1
                    go_upto_region 24 with fail
                    clear c0 c1
                    refine wp_region_quiet_below (by kernel_rfl) (by kernel_rfl) ?_
                    repeat (any_goals (first | go_big_quiet_step ((go_at_call 85; with_reducible exact Calls.regrown_of (HMK.out _ _))) | quiet_step (fail)))
                    refine wpQuiet_nil ?_
                    intro w9 hw9
                    have H9 : Hid (Below wq.heap.size wq w9) := by obtain ⟨p, rfl⟩ := hw9; exact below_regrown _ _ _
                    clear hw9 g0 g1 g2 g3 g4 g5 HMK
                    go_wp2_with fail
                    go_roundw
                    case rel => exact ⟨i + 1, by omega, by simp, Below.step HBQ.out H9.out⟩
                    case measure => simp [intOf]; omega
                  · have il3 : ¬ (i : Int) < (n : Int) := by omega
                    have id3 : decide (i < n) = false := decide_eq_false hin
                    clear hx hb hi p0 p1
                    go_upto_region 24 with fail
                    clear c0 c1
                    refine wp_region_quiet_below (by kernel_rfl) (by kernel_rfl) ?_
                    repeat (any_goals (first | go_big_quiet_step ((go_at_call 85; with_reducible exact Calls.regrown_of (HMK.out _ _))) | quiet_step (fail)))
                    refine wpQuiet_nil ?_
                    intro w9 hw9
                    have H9 : Hid (Below wq.heap.size wq w9) := by obtain ⟨p, rfl⟩ := hw9; exact below_regrown _ _ _
                    clear hw9 g0 g1 g2 g3 HMK
                    go_wp2_with fail
                    go_roundw
                    case rel => exact ⟨i + 1, by omega, by simp, Below.step HBQ.out H9.out⟩
                    case measure => simp [intOf]; omega
                · obtain rfl : m = i := by omega
                  have id : decide (m < m) = false := by simp
                  clear hb hi
                  go_wp2_with fail
                  go_roundw
                  case rel => exact ⟨k + 1, by omega, by simp, HBQ.out⟩
                  case measure => simp [intOf]; omega
            · obtain rfl : N = k := by omega
              have jd : decide (N < N) = false := by simp
              have HB4 := Lib.hid ((HBk.out.below hb).again (R' := R4))
              clear hk hlt hb HBA HBk HB
              go_wp2_with fail
              obtain ⟨w4, hw4⟩ : ∃ w4, w4 = wa := ⟨_, rfl⟩
              rw [← hw4] at HB4 ⊢
              clear hw4
              go_loopw [11] (fun kv wk => ∃ (k : Nat) (ws : List Value), k ≤ N ∧ kv = .int .i64 k ∧ Both W0 wk L G G cu vs ws k (dM c) R4) (fun kv _ => N - (intOf kv).toNat)
              case atStart => exact ⟨0, _, Nat.zero_le _, rfl, HB4.out⟩
              case round =>
                obtain ⟨k, ws, hk, rfl, hB⟩ := hrel
                obtain ⟨wk, hwk⟩ : ∃ wk, wk = wr := ⟨_, rfl⟩
                rw [← hwk] at hB ⊢
                clear hwk
                have HBk := Lib.hid hB
                by_cases hlt : k < N
                · have jl : (k : Int) < (N : Int) := by omega
                  have j0 : (0 : Int) ≤ (k : Int) := by omega
                  have j2 : (k : Int) < 200 := by omega
                  have jd : decide (k < N) = true := decide_eq_true hlt
                  obtain ⟨v, hv⟩ : ∃ v, vs[k]? = some v := ⟨_, List.getElem?_eq_getElem (by rw [HN.out]; exact hlt)⟩
                  obtain ⟨n, hcn⟩ : ∃ n, (c k).length = n := ⟨_, rfl⟩
                  have hn5 : n ≤ 5000 := by rw [← hcn]; exact HC.out k
                  have ho : Own wk v (Mk k n) := by rw [← hcn]; exact hB.lay.row k v hv
                  obtain ⟨ao, kap, rfl⟩ := own_slice ho (Mk_len k n)
                  have HV := Lib.hid hv
                  have HO := Lib.hid ho
                  have HCN := Lib.hid hcn
                  have HVB : Hid (∀ b, (Value.slice ao n kap).ownBlock = some b → b < wk.heap.size) := fun b hb => ho.lt hb
                  have HWL : Hid (ws.length = N) := by show _ = _; rw [hB.gs.len]; exact HN.out
                  obtain ⟨kN, hkN⟩ : ∃ kN, k + N = kN := ⟨_, rfl⟩
                  have hw : (k : Int) + (N : Int) = (kN : Int) := by omega
                  have hkN4 : kN < 1000 := by omega
                  obtain ⟨Wm, hmk, hmo, hmb⟩ := make_64 wk
                  obtain ⟨mb, hmb'⟩ : ∃ mb, wk.heap.size = mb := ⟨_, rfl⟩
                  rw [hmb'] at hmk hmo
                  have HMB := Lib.hid hmb'
                  have HM0 : Hid (Own Wm (.slice (some ⟨mb, 0, none⟩) 64 64) (Mi kN 0 z64) ∧ Below wk.heap.size wk Wm) := ⟨hmo, hmb⟩
                  clear hB hv ho hcn hk hkN hmo hmb hmb'
                  go_wp2_with fail
                  clear hmk
                  go_loopw [13] (fun iv wq => ∃ i : Nat, i ≤ 64 ∧ iv = .int .i64 i ∧ Own wq (.slice (some ⟨mb, 0, none⟩) 64 64) (Mi kN i z64) ∧ Below wk.heap.size wk wq) (fun iv _ => 64 - (intOf iv).toNat)
                  case atStart => exact ⟨0, Nat.zero_le _, rfl, HM0.out.1, HM0.out.2⟩
                  case round =>
                    obtain ⟨i, hi, rfl, ho, hb⟩ := hrel
                    obtain ⟨wq, hwq⟩ : ∃ wq, wq = wr := ⟨_, rfl⟩
                    rw [← hwq] at ho hb ⊢
                    clear hwq
                    have HO2 := Lib.hid (And.intro ho hb)
                    by_cases hlt2 : i < 64
                    · have il : (i : Int) < 64 := by omega
                      have i0 : (0 : Int) ≤ (i : Int) := by omega
                      have id : decide (i < 64) = true := decide_eq_true hlt2
                      have hci : i < (Mi kN i z64).length := by rw [Mi_len (by rw [z64_len]; exact hi), z64_len]; exact hlt2
                      obtain ⟨x, hx⟩ : ∃ x, (Mi kN i z64)[i]? = some x := ⟨_, List.getElem?_eq_getElem hci⟩
                      have HX := Lib.hid hx
                      have HCI := Lib.hid hci
                      clear ho hb hx hci hi
                      go_wp2_with (go_at_call 85; refine (HMP.out kN i (by omega) (by omega) _).mono ?_; rintro e6 w6 ⟨rfl, hb6⟩; have H6 := Lib.hid (show Below wq.heap.size wq w6 from hb6); clear hb6; obtain ⟨g', cp', hsl', c0, c1, s0, s1, _⟩ := (HO2.out.1.same (W' := w6) fun g hg => H6.out.block g (HO2.out.1.lt hg)).cells HX.out; simp only [Value.slice.injEq, Option.some.injEq, Addr.mk.injEq] at hsl'; obtain ⟨⟨rfl, -, -⟩, -, -⟩ := hsl')
                      go_roundw
                      case rel =>
                        refine ⟨i + 1, by omega, by simp, ?_, ?_⟩
                        · have h := (HO2.out.1.same (W' := w6) fun g hg => H6.out.block g (HO2.out.1.lt hg)).set HCI.out (mk kN i)
                          rw [Mi_set (by rw [z64_len]; exact hlt2)] at h
                          exact h
                        · exact ((Below.step HO2.out.2 H6.out).setCell (Nat.le_of_eq HMB.out) _).setCell (Nat.le_of_eq HMB.out) _
                      case measure => simp [intOf]; omega
                    · obtain rfl : i = 64 := by omega
                      have hbo : ∀ g, (Value.slice ao n kap).ownBlock = some g → g < wk.heap.size := fun g hg => HO.out.lt hg
                      obtain ⟨v7, W7, r7, o7, d7⟩ := app_own (W := wq) (HO.out.same fun g hg => hb.block g (hbo g hg)) (u := .slice (some ⟨mb, 0, none⟩) 64 64) (l2 := Mi kN 64 z64) (Seg.of_row ho) (by rw [Mk_len, Mi_len (by rw [z64_len]; exact Nat.le_refl _), z64_len]; omega)
                      have hI := (Inn.start HO.out).step (r2 := Mi kN 64 z64) HVB.out hb (by rw [List.append_nil]; exact o7) (by rw [List.append_nil]; exact d7)
                      rw [List.nil_append] at hI
                      have cK : wq.cell? ⟨L, k, none⟩ = some (.slice ao n kap) := by rw [(HBk.out.lay.blk.below hb).cell]; exact HCU.out _ _ HV.out
                      have hfG : Fresh W7 G ws.toArray 29 := hI.trd.other HBk.out.gs.blk (by rw [Option.mem_toList]; exact HO.out.not HBk.out.gs.blk (by decide))
                      have g0 : W7.cell? ⟨G, k, none⟩ = ws[k]? := by rw [hfG.cell, List.getElem?_toArray]
                      have g1 := hfG.thawed k
                      rw [List.getElem?_eq_getElem (show k < ws.length by rw [HWL.out]; exact hlt)] at g0
                      obtain ⟨au, ku, rfl⟩ := own_slice (n := n + 64) hI.own (by rw [List.length_append, Mk_len, Mi_len (by rw [z64_len]; exact Nat.le_refl _), z64_len])
                      have HI := Lib.hid hI
                      clear ho hb hi hbo o7 d7 hI hfG
                      go_wp2_with (at_builtin; refine Lib.wpList_append_run _ rfl _ _ _ _ rfl _ _ rfl rfl _ _ (r7 _) ?_; clear r7 cK)
                      go_roundw
                      case rel => exact ⟨k + 1, ws.set k _, by omega, by simp, HBk.out.next HDI.out HV.out (r := Mi kN 64 z64) (by show Inn _ _ _ _ (Mk k (c k).length) _; rw [HCN.out]; exact HI.out) trivial⟩
                      case measure => simp [intOf]; omega
                · obtain rfl : N = k := by omega
                  have jd : decide (N < N) = false := by simp
                  clear hB hk hlt HB4
                  go_wp2_with fail
                  obtain ⟨w5, hw5⟩ : ∃ w5, w5 = wk := ⟨_, rfl⟩
                  rw [← hw5] at HBk ⊢
                  clear hw5
                  go_loopw [14] (fun kv wr => ∃ k : Nat, k ≤ N ∧ kv = .int .i64 k ∧ Below w5.heap.size w5 wr) (fun kv _ => N - (intOf kv).toNat)
                  case atStart => exact ⟨0, Nat.zero_le _, rfl, Below.refl _ _⟩
                  case round =>
                    obtain ⟨k, hk, rfl, hb⟩ := hrel
                    obtain ⟨wa, hwa⟩ : ∃ wa, wa = wr := ⟨_, rfl⟩
                    rw [← hwa] at hb ⊢
                    clear hwa
                    have HBA := Lib.hid hb
                    by_cases hlt : k < N
                    · have jl : (k : Int) < (N : Int) := by omega
                      have j0 : (0 : Int) ≤ (k : Int) := by omega
                      have j2 : (k : Int) < 200 := by omega
                      have jd : decide (k < N) = true := decide_eq_true hlt
                      obtain ⟨v, hv⟩ : ∃ v, vs[k]? = some v := ⟨_, List.getElem?_eq_getElem (by rw [HN.out]; exact hlt)⟩
                      obtain ⟨u, hu⟩ : ∃ u, ws[k]? = some u := ⟨_, List.getElem?_eq_getElem (by rw [HBk.out.gs.len, HN.out]; exact hlt)⟩
                      obtain ⟨n, hcn⟩ : ∃ n, (c k).length = n := ⟨_, rfl⟩
                      have hn5 : n ≤ 5000 := by rw [← hcn]; exact HC.out k
                      have hov : Own w5 v (Mk k n) := by rw [← hcn]; exact HBk.out.lay.row k v hv
                      obtain ⟨r, hou⟩ : ∃ r, Own w5 u (Mk k n ++ r) := by
                        obtain ⟨r, _, h2⟩ := HBk.out.gs.row k u hlt hu
                        have h4 : Own w5 u (Mk k (c k).length ++ r) := h2
                        rw [hcn] at h4
                        exact ⟨r, h4⟩
                      obtain ⟨ao, kap, rfl⟩ := own_slice hov (Mk_len k n)
                      obtain ⟨m, hm⟩ : ∃ m, (Mk k n ++ r).length = m := ⟨_, rfl⟩
                      have hnm : n ≤ m := by rw [← hm, List.length_append, Mk_len]; omega
                      have hnmI : (n : Int) ≤ (m : Int) := by omega
                      obtain ⟨au, kau, rfl⟩ := own_slice hou hm
                      have HVC : Hid (∀ W', Below w5.heap.size w5 W' → W'.cell? ⟨L, k, none⟩ = some (.slice ao n kap) ∧ W'.cell? ⟨G, k, none⟩ = some (.slice au m kau)) := fun W' hb => ⟨by rw [(HBk.out.lay.blk.below hb).cell]; exact HCU.out _ _ hv, by rw [(HBk.out.gs.blk.below hb).cell, List.getElem?_toArray]; exact hu⟩
                      have HOV : Hid (∀ W', Below w5.heap.size w5 W' → Own W' (.slice ao n kap) (Mk k n) ∧ Own W' (.slice au m kau) (Mk k n ++ r)) := fun W' hb => ⟨hov.same fun g hg => hb.block g (hov.lt hg), hou.same fun g hg => hb.block g (hou.lt hg)⟩
                      clear hv hu hov hou hcn hk hb hm
                      go_wp2_with fail
                      go_loopw [15] (fun iv wr => ∃ i : Nat, i ≤ n ∧ iv = .int .i64 i ∧ Below w5.heap.size w5 wr) (fun iv _ => n - (intOf iv).toNat)
                      case atStart => exact ⟨0, Nat.zero_le _, rfl, HBA.out⟩
                      case round =>
                        obtain ⟨i, hi, rfl, hb⟩ := hrel
                        obtain ⟨wq, hwq⟩ : ∃ wq, wq = wr := ⟨_, rfl⟩
                        rw [← hwq] at hb ⊢
                        clear hwq
                        have HBQ := Lib.hid hb
                        obtain ⟨c0, c1⟩ := HVC.out wq hb
                        by_cases hlt2 : i < n
                        · have il : (i : Int) < (n : Int) := by omega
                          have ilm : (i : Int) < (m : Int) := by omega
                          have i0 : (0 : Int) ≤ (i : Int) := by omega
                          have id : decide (i < n) = true := decide_eq_true hlt2
                          have hx : (Mk k n)[i]? = some (mk k i) := Mk_at k n i hlt2
                          obtain ⟨gu, rfl, p0, p1⟩ := own_at (HOV.out wq hb).2 (i := i) (x := mk k i) (by rw [List.getElem?_append_left (by rw [Mk_len]; exact hlt2)]; exact hx)
                          obtain ⟨gv, rfl, s0, s1⟩ := own_at (HOV.out wq hb).1 hx
                          have HMK : Hid (∀ d os, Calls Try.prog 85 #[.int .i64 (k : Int), .int .i64 (i : Int)] (Sort.grow (redrawn wq d) os) fun e w' => e = .returned (.agg #[.string (mt k i), .string ⟨#[]⟩]) ∧ Below (Sort.grow (redrawn wq d) os).heap.size (Sort.grow (redrawn wq d) os) w') := fun d os => HMP.out k i (by omega) (by omega) _
                          have g0 := fun d os => cell_regrown c0 d os
                          have g1 := fun d os => cell_regrown c1 d os
                          have g2 := fun d os => cell_regrown p0 d os
                          have g3 := fun d os => cell_regrown p1 d os
                          have g4 := fun d os => cell_regrown s0 d os
                          have g5 := fun d os => cell_regrown s1 d os
                          dsimp only [mk] at g2 g3 g4 g5
                          clear hx hb hi s0 s1 p0 p1
                          go_upto_region 41 with fail
                          clear c0 c1
                          refine wp_region_quiet_below (by kernel_rfl) (by kernel_rfl) ?_
                          repeat (any_goals (first | go_big_quiet_step ((go_at_call 85; with_reducible exact Calls.regrown_of (HMK.out _ _))) | quiet_step (fail)))
                          refine wpQuiet_nil ?_
                          intro w9 hw9
                          have H9 : Hid (Below wq.heap.size wq w9) := by obtain ⟨p, rfl⟩ := hw9; exact below_regrown _ _ _
                          clear hw9 g0 g1 g2 g3 g4 g5 HMK
                          go_wp2_with fail
                          go_roundw
                          case rel => exact ⟨i + 1, by omega, by simp, Below.step HBQ.out H9.out⟩
                          case measure => simp [intOf]; omega
                        · obtain rfl : n = i := by omega
                          have id : decide (n < n) = false := by simp
                          clear hb hi
                          go_wp2_with fail
                          go_roundw
                          case rel => exact ⟨k + 1, by omega, by simp, HBQ.out⟩
                          case measure => simp [intOf]; omega
                    · obtain rfl : N = k := by omega
                      have jd : decide (N < N) = false := by simp
                      have HT := Lib.hid (HBk.out.trd.trans (Turned.of_below hb))
                      clear hk hlt hb
                      go_wp2_with fail
                      go_ret
                      exact ⟨rfl, HT.out⟩
end Go.Proofs.Ytcpmnkihhenbgaa
