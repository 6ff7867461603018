/- The walk of PathShares. -/
import Derived.Test.YthfbkmpljobagaaSame
import Derived.Deep.RegionHeld3
import Derived.Deep.AppendLies
namespace Go.Proofs.Ythfbkmpljobagaa
open Go.RowKit
set_option maxRecDepth 100000

theorem mem_at {a : ByteArray} {r : List ByteArray} {k : Nat} (h : k < r.length + 1) : (a :: r).getD k ByteArray.empty ∈ a :: r := getD_mem' _ _ (by simpa using h)

/-- append onto a row of the call's own, at a step of a region that draws its order: what was there stays, new cells of others too. -/
theorem step_app {w0 w : World} {ops : Array Oper} {o : Oper} {a : Act} {K : Act → World → Prop} {Q : Exit → Act → World → Prop} {E : Prop} (hgd : o.guard = none) (s x : Operand)
    (ho : o.op = .call { callee := .builtin .append, args := #[s, x], argTypes := #[25, 25] })
    (i : TypeInfo) (hi : Try.prog.info? 9 = some i) (hz : i.zero = some (.string ⟨#[]⟩)) (hsize : i.size = 1) (hby : i.bytes = 16)
    (v : Value) (n : Nat) (xs : List Value) (hs : a.eval s = v) (hown : w.ownsRow w0.heap.size 9 1 v n xs) (hbel : Below w0.heap.size w0 w)
    (ad : Addr) (m c : Nat) (news : List Value) (hx : a.eval x = .slice (some ad) m c) (hl : news.length = m) (hnews : ∀ j u, news[j]? = some u → w.cell? (ad.add j) = some u) (h1 : ∀ u ∈ news, u.oneCell' = true)
    (hnm : n + m ≤ 1000000)
    (h : ∀ v' w', w'.ownsRow w0.heap.size 9 1 v' (n + m) (xs ++ news) → Below w0.heap.size w0 w' → (∀ p u, w.cell? ⟨p, 0, none⟩ = some u → v.ownBlock ≠ some p → w'.cell? ⟨p, 0, none⟩ = some u ∧ v'.ownBlock ≠ some p) → K (a.put o.dst v') w') :
    if Region.wanted o (yielded ops a.tmps) = true then Oper.wp Try.prog o a w K Q else E := by
  have hw : Region.wanted o (yielded ops a.tmps) = true := by simp [Region.wanted, hgd]
  rw [if_pos hw]
  obtain ⟨v', w', hr, h2, h3, h4, h5⟩ := run_append_own_at (P := Try.prog) w w0.heap.size 25 o.type 9 i (.string ⟨#[]⟩) 1 16 Try.underlying25 hi hz hsize hby rfl (by omega) v n xs hown ad m c news (by omega) hnews h1 (by unfold maxLen; omega) (by omega) hbel.size
  unfold Oper.wp execOp
  simp only [ho, resolve, invoke, builtin, Sem.run_bind, Sem.run_pure, Result.andThen_ok, List.map_toArray, List.map_cons, List.map_nil, hs, hx, hr]
  refine h v' w' h2 (hbel.grown h3 hbel.size (fun k hk => (hown.lt k hk).1)) fun p u hp hne => ⟨h3.cell hp (fun e => hne e.symm), ?_⟩
  rcases h5 with h5 | h5
  · rw [h5]; exact hne
  · rw [h5]
    intro e
    have := World.block_lt_of_cell? w _ hp
    simp at e this
    omega

theorem own0 {w0 : World} (w : World) (p : Nat) (hp : w.heap.size = p) (hb : w0.heap.size ≤ w.heap.size) : (w.alloc (.cells #[] 9)).ownsRow w0.heap.size 9 1 (.slice (some ⟨p, 0, none⟩) 0 0) 0 [] := by
  subst hp
  have := World.ownsRow_lit (base := w0.heap.size) (e := 9) (size := 1) w #[] 0 hb (Nat.zero_le _) rfl
  simpa using this
theorem news1 {w : World} {p : Nat} {u0 : Value} (h : w.cell? ⟨p, 0, none⟩ = some u0) : ∀ j u, [u0][j]? = some u → w.cell? ((⟨p, 0, none⟩ : Addr).add j) = some u := by
  intro j u hj
  match j, hj with
  | 0, hj => simp at hj; subst hj; simpa [Addr.add] using h
theorem cell_two (w : World) (A : Obj) (v : Value) (T : TypeId) : ((w.alloc A).alloc (.cells #[v] T)).drew.cell? ⟨w.heap.size + 1, 0, none⟩ = some v := by
  have h := World.cell?_alloc_new (w.alloc A) #[v] T 0
  rw [World.size_alloc] at h
  exact h
theorem cell_one (w : World) (B : Obj) (v : Value) (T : TypeId) : ((w.alloc (.cells #[v] T)).alloc B).drew.cell? ⟨w.heap.size, 0, none⟩ = some v := by
  have h := World.cell?_alloc_new w #[v] T 0
  exact (World.cell?_alloc_past _ _ _ (by simp)).trans h
theorem own_strs {w : World} {B n : Nat} {v : Value} {ys : List ByteArray} {xs : List Value} (h : w.ownsRow B 9 1 v n xs) (hx : xs = strVals ys) (hn : 0 < n) (hz : ∀ s ∈ ys, s.size ≤ maxLen) :
    ∃ g cap, v = .slice (some ⟨g, 0, none⟩) n cap ∧ IsStrs w (some ⟨g, 0, none⟩) n cap ys := by
  subst hx
  obtain ⟨h1, h2⟩ := id h
  rcases h2 with ⟨_, h2⟩ | ⟨g, cap, cur, rfl, _, _, hc1, hc2, _⟩
  · omega
  · have hl : ys.length = n := by simpa [strVals] using h1
    refine ⟨g, cap, rfl, .inr ⟨_, rfl, hc1, hc2, hl, fun i hi => ?_, hz⟩⟩
    rw [Addr.add_lit, Nat.zero_add, h.cellAt i (by omega)]
    simp [strVals, List.getElem?_map, List.getElem?_eq_getElem hi, List.getD_eq_getElem?_getD]
theorem own_far {w : World} {B e n : Nat} {v : Value} {xs : List Value} (h : w.ownsRow B e 1 v n xs) : v.ownBlock ≠ some w.heap.size := by
  intro hk
  have := (h.lt _ hk).2
  omega
theorem strs_cells {w : World} {b off : Nat} {zs : List ByteArray} (h : ∀ i, i < zs.length → w.cell? ⟨b, off + i, none⟩ = some (.string (zs.getD i ByteArray.empty))) :
    ∀ j u, (strVals zs)[j]? = some u → w.cell? ((⟨b, off, none⟩ : Addr).add j) = some u := by
  intro j u hu
  have hj : j < zs.length := by
    have := (List.getElem?_eq_some_iff.1 hu).1
    simpa [strVals] using this
  rw [Addr.add_lit, h j hj]
  simp [strVals, List.getElem?_map, List.getElem?_eq_getElem hj] at hu
  rw [← hu, List.getD_eq_getElem?_getD, List.getElem?_eq_getElem hj]
  rfl

set_option maxHeartbeats 4000000 in
theorem shares_main (a : ByteArray) (r : List ByteArray) (b off cap : Nat) (turn : Int) (w : World) (hb : b < w.heap.size) (hcap : r.length + 1 ≤ cap) (hcapM : cap ≤ maxLen) (h60 : r.length + 1 ≤ 60)
    (hz : ∀ s ∈ a :: r, s.size ≤ maxLen) (hx : -9223372036854775808 ≤ turn ∧ turn ≤ 9223372036854775807)
    (hc : ∀ i, i < r.length + 1 → w.cell? ⟨b, off + i, none⟩ = some (.string ((a :: r).getD i ByteArray.empty))) :
    Calls Try.prog 7 #[.slice (some ⟨b, off, none⟩) (r.length + 1) cap, .int .i64 turn] w fun e w' => e = .returned (.bool true) ∧ Below w.heap.size w w' := by
  unfold maxLen at hcapM
  have HZ := Lib.hid hz
  have HX := Lib.hid hx
  have HC := Lib.hid hc
  clear hz hx hc
  have IS : Hid (∀ W, Below w.heap.size w W → IsStrs W (some ⟨b, off, none⟩) (r.length + 1) cap (a :: r)) := by
    intro W hW
    refine .inr ⟨_, rfl, hcap, by unfold maxLen; omega, rfl, fun i hi => ?_, HZ.out⟩
    rw [Addr.add_lit, hW.cell (p := ⟨b, off + i, none⟩) hb]; exact HC.out i hi
  have d0 : (((r.length : Int) + 1) == 0) = false := by simp; omega
  have d1 : decide ((60 : Int) < (r.length : Int) + 1) = false := by simp; omega
  have d2 : decide ((r.length : Int) + 1 ≤ 60) = true := by simp; omega
  have n1 : Hid (r.length + 1 ≤ 1000000) := by show _ ≤ _; omega
  go_enter Try.func7, Try.ntmps7
  go_wp2_with fail
  refine (awake_any _).mono ?_
  rintro e w1 ⟨rfl, hb1⟩
  go_wp2_with fail
  go_loopw [5] (fun i wr => ∃ k : Nat, k ≤ r.length + 1 ∧ i = .int .i64 k ∧ SameW wr w1 ∧ Hid (∀ j, j < k → ((a :: r).getD j ByteArray.empty).size ≤ 2000)) (fun i _ => r.length + 1 - (intOf i).toNat)
  case atStart => exact ⟨0, by omega, rfl, rfl, fun j hj => by omega⟩
  case round =>
    obtain ⟨k, hk, rfl, HW, HS⟩ := hrel
    obtain rfl : wr = w1 := HW
    by_cases hlt : k < r.length + 1
    · have g1 : wr.cell? ⟨b, off + k, none⟩ = some (.string ((a :: r).getD k ByteArray.empty)) := by rw [hb1.cell (p := ⟨b, off + k, none⟩) hb]; exact HC.out k hlt
      have hsz : ((a :: r).getD k ByteArray.empty).size ≤ maxLen := HZ.out _ (mem_at hlt)
      generalize hx : (a :: r).getD k ByteArray.empty = x at *
      have HX := Lib.hid hx
      clear hx
      unfold maxLen at hsz
      by_cases hsm : x.size ≤ 2000
      · go_wp2_with fail
        go_roundw
        case rel => exact ⟨k + 1, by omega, by go_num, rfl, short_succ HS (by rw [HX.out]; exact hsm)⟩
        case measure => simp [intOf]; omega
      · go_wp2_with fail
        go_ret
        exact ⟨rfl, hb1⟩
    · obtain rfl : k = r.length + 1 := by omega
      clear hk hlt
      go_wp2_with fail
      refine (all_list _ _ _ _ _ (IS.out _ hb1) n1.out).mono ?_
      rintro e w2 ⟨rfl, hb2⟩
      have hA : allOf (a :: r) ≤ a.size := allOf_le a r
      have hza : a.size ≤ 2000 := HS.out 0 (by omega)
      obtain ⟨n, hn⟩ : ∃ n, n = allOf (a :: r) := ⟨_, rfl⟩
      rw [← hn] at hA
      rw [← hn]
      have HN := Lib.hid hn
      clear hn
      have hB2 : Below w.heap.size w w2 := Below.step hb1 hb2
      have c0 : w2.cell? ⟨b, off, none⟩ = some (.string a) := by
        rw [hB2.cell (p := ⟨b, off, none⟩) hb]; exact HC.out 0 (by omega)
      have e1 : decide ((n : Int) < 0) = false := by simp
      have e2 : decide (a.size < n) = false := by simp; omega
      go_wp2_with fail
      go_loopw [7, 8] (fun m i wr => ∃ k : Nat, k ≤ r.length + 1 ∧ i = .int .i64 k ∧ m = .bool (moreB a n (a :: r) k) ∧ Below w.heap.size w wr) (fun _ i _ => r.length + 1 - (intOf i).toNat)
      case atStart => exact ⟨0, by omega, rfl, by rw [moreB_zero], hB2⟩
      case round =>
        obtain ⟨k, hk, rfl, rfl, hB⟩ := hrel
        clear c0 hb1 hb2 hB2 e1 e2

        by_cases hlt : k < r.length + 1
        · have g0 : wr.cell? ⟨b, off, none⟩ = some (.string a) := by rw [hB.cell (p := ⟨b, off, none⟩) hb]; exact HC.out 0 (by omega)
          have g1 : wr.cell? ⟨b, off + k, none⟩ = some (.string ((a :: r).getD k ByteArray.empty)) := by rw [hB.cell (p := ⟨b, off + k, none⟩) hb]; exact HC.out k hlt
          have hsz : Hid (((a :: r).getD k ByteArray.empty).size ≤ maxLen) := HZ.out _ (mem_at hlt)
          have HM := Lib.hid (moreB_succ a n (a :: r) k (by simpa using hlt))
          have B1 : Hid ((((lcp ((a :: r).getD k ByteArray.empty).data.toList (a.extract 0 n).data.toList : Nat) : Int) == ((a.extract 0 n).size : Int)) = true) := by
            show _ = _
            rw [begins_shares _ _ _ hA, HN.out]
            exact (le_allOf a r _).1 (Nat.le_refl _) _ (mem_at hlt)
          have B2 : ∀ _ : n + 1 ≤ a.size, (((lcp ((a :: r).getD k ByteArray.empty).data.toList (a.extract 0 (n + 1)).data.toList : Nat) : Int) == ((a.extract 0 (n + 1)).size : Int)) = sharesB a (n + 1) ((a :: r).getD k ByteArray.empty) := fun h => begins_shares _ _ _ h
          have HB2 := Lib.hid B2
          have ML := Lib.hid (fun h => moreB_lt (a := a) (n := n) (zs := a :: r) (k := k) h)
          clear B2
          generalize (a :: r).getD k ByteArray.empty = x at *
          obtain ⟨m, hm⟩ : ∃ m, m = moreB a n (a :: r) k := ⟨_, rfl⟩
          rw [← hm]
          have HM1 := Lib.hid hm
          clear hm
          have zp : Hid ((a.extract 0 n).size ≤ maxLen) := by show _ ≤ _; simp; unfold maxLen; omega
          have zq : Hid ((a.extract 0 (n + 1)).size ≤ maxLen) := by show _ ≤ _; simp; unfold maxLen; omega
          have q0 := fun d os => cell_regrown g0 d os
          have q1 := fun d os => cell_regrown g1 d os
          go_wp2_with fail
          refine wp_region_quiet_below (by kernel_rfl) (by kernel_rfl) ?_
          repeat (any_goals (first | go_big_quiet_step ((go_at_call 17; exact Calls.regrown_of ((begins_any _ _ _ hsz.out zp.out).mono fun e w' h => ⟨by rw [h.1, B1.out], h.2⟩))) | quiet_step (fail)))
          refine wpQuiet_nil ?_
          intro w3 hw3
          have hb3 : Below wr.heap.size wr w3 := by obtain ⟨p, rfl⟩ := hw3; exact below_regrown _ _ _
          clear hw3 q0 q1
          go_wp2_with fail
          have hB3 : Below w.heap.size w w3 := Below.step hB hb3
          have g0' : w3.cell? ⟨b, off, none⟩ = some (.string a) := by rw [hB3.cell (p := ⟨b, off, none⟩) hb]; exact HC.out 0 (by omega)
          have g1' : w3.cell? ⟨b, off + k, none⟩ = some (.string x) := by rw [hb3.cell (p := ⟨b, off + k, none⟩) (World.block_lt_of_cell? wr _ g1)]; exact g1
          clear g0 g1 hb3 B1 zp
          have q0 := fun d os => cell_regrown g0' d os
          have q1 := fun d os => cell_regrown g1' d os
          obtain ⟨t, ht⟩ : ∃ t, t = sharesB a (n + 1) x := ⟨_, rfl⟩
          have HT := Lib.hid ht
          clear ht
          cases m with
          | false =>
            refine wp_region_quiet_below (by kernel_rfl) (by kernel_rfl) ?_
            repeat (any_goals (first | go_big_quiet_step (fail) | quiet_step (fail)))
            refine wpQuiet_nil ?_
            intro w4 hw4
            have hb4 : Below w3.heap.size w3 w4 := by obtain ⟨p, rfl⟩ := hw4; exact below_regrown _ _ _
            clear hw4 q0 q1 g0' g1'
            go_wp2_with fail
            go_roundw
            case rel => exact ⟨k + 1, by omega, by go_num, by rw [HM.out, ← HM1.out]; rfl, Below.step hB3 hb4⟩
            case measure => simp [intOf]; omega
          | true =>
            have hna : n < a.size := ML.out HM1.out.symm
            refine wp_region_quiet_below (by kernel_rfl) (by kernel_rfl) ?_
            repeat (any_goals (first | go_big_quiet_step ((go_at_call 17; exact Calls.regrown_of ((begins_any _ _ _ hsz.out zq.out).mono fun e w' h => ⟨by rw [h.1, HB2.out (by omega), ← HT.out], h.2⟩))) | quiet_step (fail)))
            refine wpQuiet_nil ?_
            intro w4 hw4
            have hb4 : Below w3.heap.size w3 w4 := by obtain ⟨p, rfl⟩ := hw4; exact below_regrown _ _ _
            clear hw4 q0 q1 g0' g1'
            go_wp2_with fail
            go_roundw
            case rel => exact ⟨k + 1, by omega, by go_num, by rw [HM.out, ← HM1.out, ← HT.out]; simp, Below.step hB3 hb4⟩
            case measure => simp [intOf]; omega
        · obtain rfl : k = r.length + 1 := by omega
          have HE := Lib.hid (moreB_end a r)
          have hmf : moreB a n (a :: r) (r.length + 1) = false := by rw [HN.out]; exact HE.out
          rw [hmf]
          clear hmf HE hk hlt
          go_wp2_with fail
          refine (pick_any turn _ _ HX.out (by omega) (by omega)).mono ?_
          rintro e w3 ⟨rfl, rfl⟩
          obtain ⟨k, hk⟩ : ∃ k : Nat, turn % ((r.length : Int) + 1) = k := ⟨(turn % ((r.length : Int) + 1)).toNat, by have := Int.emod_nonneg turn (show (r.length : Int) + 1 ≠ 0 by omega); omega⟩
          have hk2 : k < r.length + 1 := by have := Int.emod_lt_of_pos turn (show 0 < (r.length : Int) + 1 by omega); omega
          rw [hk]
          clear hk
          go_wp2_with fail
          obtain ⟨i0, hi, hz0, hz1, hz2⟩ := info_parts infoS
          obtain ⟨x, hx⟩ : ∃ x, x = (a :: r).getD k ByteArray.empty := ⟨_, rfl⟩
          have g1 : w3.cell? ⟨b, off + k, none⟩ = some (.string x) := by rw [hB.cell (p := ⟨b, off + k, none⟩) hb, hx]; exact HC.out k hk2
          have hbw : b < w3.heap.size := Nat.lt_of_lt_of_le hb hB.size
          have k0 : (0 : Int) ≤ (k : Int) := Int.natCast_nonneg _
          have k1 : (k : Int) < (r.length : Int) + 1 := by omega
          have hkc : ¬ cap = k := by omega
          have hkc' : ¬ k = cap := by omega
          have k2 : (k : Int) ≤ (r.length : Int) + 1 := by omega
          have k3 : (k : Int) ≤ (cap : Int) := by omega
          have k4 : (r.length : Int) + 1 ≤ (cap : Int) := by omega
          -- what the appended parts' cells hold, in every later world
          have P1 : Hid (∀ W, Below w3.heap.size w3 W → ∀ j u, (strVals ((a :: r).drop k))[j]? = some u → W.cell? ((⟨b, off + k, none⟩ : Addr).add j) = some u) := by
            intro W hW
            refine strs_cells fun i hi => ?_
            rw [List.length_drop, List.length_cons] at hi
            rw [hW.cell (p := ⟨b, off + k + i, none⟩) hbw, hB.cell (p := ⟨b, off + k + i, none⟩) hb, show off + k + i = off + (k + i) from by omega, HC.out (k + i) (by omega)]
            simp [List.getD_eq_getElem?_getD, List.getElem?_drop]
          have P2 : Hid (∀ W, Below w3.heap.size w3 W → ∀ j u, (strVals ((a :: r).take k))[j]? = some u → W.cell? ((⟨b, off, none⟩ : Addr).add j) = some u) := by
            intro W hW
            refine strs_cells fun i hi => ?_
            rw [List.length_take, List.length_cons] at hi
            rw [hW.cell (p := ⟨b, off + i, none⟩) hbw, hB.cell (p := ⟨b, off + i, none⟩) hb, HC.out i (by omega)]
            rw [List.getD_eq_getElem?_getD, List.getD_eq_getElem?_getD, List.getElem?_take_of_lt (by omega)]
          have L1 : Hid ((strVals ((a :: r).drop k)).length = r.length + 1 - k) := by show _ = _; simp [strVals]
          have L2 : Hid ((strVals ((a :: r).take k)).length = k) := by show _ = _; simp [strVals]; omega
          have HXx := Lib.hid hx
          clear hx
          have bel0 := Below.refl w3.heap.size w3
          go_region_held3 (fun w' => w'.cell? ⟨b, off + k, none⟩ = some (.string x)) (first | go_keep | (rw [(by assumption : Below w3.heap.size w3 _).cell (p := ⟨b, off + k, none⟩) hbw]; exact g1))
            (first
              | (refine step_app (w0 := w3) (by rfl) (.tmp 91) (.tmp 94) (by rfl) i0 hi hz0 hz1 hz2 (.slice (some ⟨w3.heap.size, 0, none⟩) 0 0) 0 [] (by rfl) ?_ ?_ ⟨b, off + k, none⟩ (r.length + 1 - k) (cap - k) (strVals ((a :: r).drop k)) (by rfl) (by exact L1.out) ?_ (strVals_one _) (by omega) ?_
                 · first | exact own0 _ _ (by simp) (by simp) | exact (own0 _ _ (by simp) (by simp)).alloc _
                 · first | exact (Below.alloc bel0 (by simp) _).drew | exact (Below.alloc (Below.alloc bel0 (by simp) _) (by simp) _).drew
                 · first | exact P1.out _ (Below.alloc bel0 (by simp) _).drew | exact P1.out _ (Below.alloc (Below.alloc bel0 (by simp) _) (by simp) _).drew
                 intro v1 w4 hown1 hbel1 hcarry1)
              | (refine step_app (w0 := w3) (by rfl) (.tmp 91) (.tmp 94) (by rfl) i0 hi hz0 hz1 hz2 (.slice (some ⟨w3.heap.size + 1, 0, none⟩) 0 0) 0 [] (by rfl) ?_ ?_ ⟨b, off + k, none⟩ (r.length + 1 - k) (cap - k) (strVals ((a :: r).drop k)) (by rfl) (by exact L1.out) ?_ (strVals_one _) (by omega) ?_
                 · first | exact own0 _ _ (by simp) (by simp) | exact (own0 _ _ (by simp) (by simp)).alloc _
                 · first | exact (Below.alloc bel0 (by simp) _).drew | exact (Below.alloc (Below.alloc bel0 (by simp) _) (by simp) _).drew
                 · first | exact P1.out _ (Below.alloc bel0 (by simp) _).drew | exact P1.out _ (Below.alloc (Below.alloc bel0 (by simp) _) (by simp) _).drew
                 intro v1 w4 hown1 hbel1 hcarry1)
              | (refine step_app (w0 := w3) (by rfl) (.tmp 95) (.tmp 98) (by rfl) i0 hi hz0 hz1 hz2 v1 (0 + (r.length + 1 - k)) ([] ++ strVals ((a :: r).drop k)) (by rfl) ?_ ?_ ⟨b, off, none⟩ k cap (strVals ((a :: r).take k)) (by rfl) (by exact L2.out) ?_ (strVals_one _) (by omega) ?_
                 · first | exact hown1 | exact hown1.alloc _
                 · first | exact hbel1 | exact Below.alloc hbel1 hbel1.size _
                 · first | exact P2.out _ hbel1 | exact P2.out _ (Below.alloc hbel1 hbel1.size _)
                 intro v2 w5 hown2 hbel2 hcarry2)
              | (refine step_app (w0 := w3) (by rfl) (.tmp 99) (.tmp 104) (by rfl) i0 hi hz0 hz1 hz2 v2 (0 + (r.length + 1 - k) + k) ([] ++ strVals ((a :: r).drop k) ++ strVals ((a :: r).take k)) (by rfl) ?_ ?_ ⟨w5.heap.size, 0, none⟩ 1 1 [.string x] (by rfl) (by rfl) ?_ ?_ (by omega) ?_
                 · first | exact hown2 | exact hown2.alloc _
                 · first | exact hbel2 | exact Below.alloc hbel2 hbel2.size _
                 · exact news1 (by simp [go_sem]; done)
                 · intro u hu
                   simp at hu
                   subst hu
                   rfl
                 intro v3 w6 hown3 hbel3 hcarry3)
              | (refine step_app (w0 := w3) (by rfl) (.tmp 99) (.tmp 104) (by rfl) i0 hi hz0 hz1 hz2 v2 (0 + (r.length + 1 - k) + k) ([] ++ strVals ((a :: r).drop k) ++ strVals ((a :: r).take k)) (by rfl) ?_ ?_ ⟨w4.heap.size, 0, none⟩ 1 1 [.string x] (by rfl) (by rfl) ?_ ?_ (by omega) ?_
                 · first | exact hown2 | exact hown2.alloc _
                 · first | exact hbel2 | exact Below.alloc hbel2 hbel2.size _
                 · exact news1 (hcarry2 _ _ (by simp [go_sem]; done) (own_far hown1)).1
                 · intro u hu
                   simp at hu
                   subst hu
                   rfl
                 intro v3 w6 hown3 hbel3 hcarry3)
              | (refine step_app (w0 := w3) (by rfl) (.tmp 99) (.tmp 104) (by rfl) i0 hi hz0 hz1 hz2 v2 (0 + (r.length + 1 - k) + k) ([] ++ strVals ((a :: r).drop k) ++ strVals ((a :: r).take k)) (by rfl) ?_ ?_ ⟨w3.heap.size + 1, 0, none⟩ 1 1 [.string x] (by rfl) (by rfl) ?_ ?_ (by omega) ?_
                 · first | exact hown2 | exact hown2.alloc _
                 · first | exact hbel2 | exact Below.alloc hbel2 hbel2.size _
                 · exact news1 (hcarry2 _ _ (hcarry1 _ _ (cell_two _ _ _ _) (by simp [Value.ownBlock])).1 (hcarry1 _ _ (cell_two _ _ _ _) (by simp [Value.ownBlock])).2).1
                 · intro u hu
                   simp at hu
                   subst hu
                   rfl
                 intro v3 w6 hown3 hbel3 hcarry3)
              | (refine step_app (w0 := w3) (by rfl) (.tmp 99) (.tmp 104) (by rfl) i0 hi hz0 hz1 hz2 v2 (0 + (r.length + 1 - k) + k) ([] ++ strVals ((a :: r).drop k) ++ strVals ((a :: r).take k)) (by rfl) ?_ ?_ ⟨w3.heap.size, 0, none⟩ 1 1 [.string x] (by rfl) (by rfl) ?_ ?_ (by omega) ?_
                 · first | exact hown2 | exact hown2.alloc _
                 · first | exact hbel2 | exact Below.alloc hbel2 hbel2.size _
                 · exact news1 (hcarry2 _ _ (hcarry1 _ _ (cell_one _ _ _ _) (by simp [Value.ownBlock])).1 (hcarry1 _ _ (cell_one _ _ _ _) (by simp [Value.ownBlock])).2).1
                 · intro u hu
                   simp at hu
                   subst hu
                   rfl
                 intro v3 w6 hown3 hbel3 hcarry3))
          all_goals
            obtain ⟨N, hN⟩ : ∃ N, N = 0 + (r.length + 1 - k) + k + 1 := ⟨_, rfl⟩
            rw [← hN] at hown3
            have N3 : Hid (N ≤ 1000000) := by show _ ≤ _; omega
            have hN0 : 0 < N := by omega
            clear hN
            obtain ⟨g, cap3, rfl, IS3⟩ := own_strs hown3 (ys := (a :: r).drop k ++ (a :: r).take k ++ [x]) (by simp [strVals]) hN0 (by
              intro s hs
              rw [HXx.out] at hs
              exact HZ.out s ((turned_mem (a :: r) k (by simpa using hk2) s).1 hs))
            have I3 := Lib.hid IS3
            have A3 : Hid (allOf ((a :: r).drop k ++ (a :: r).take k ++ [x]) = n) := by
              show _ = _
              rw [HN.out, HXx.out]
              exact allOf_mem (by simp) (turned_mem (a :: r) k (by simpa using hk2))
            have hB6 : Below w.heap.size w w6 := Below.step hB hbel3
            clear hN0 hown1 hbel1 hcarry1 hown2 hbel2 hcarry2 hown3 hbel3 hcarry3 IS3
            go_wp2_with fail
            refine (all_list _ _ _ _ _ I3.out N3.out).mono ?_
            rintro e w7 ⟨rfl, hb7⟩
            rw [A3.out]
            go_wp2_with fail
            go_ret
            exact ⟨rfl, Below.step hB6 hb7⟩

end Go.Proofs.Ythfbkmpljobagaa
