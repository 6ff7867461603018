/- The walk of PurseTells. -/
import Derived.Test.YtpnddccanelcnaaLooks
import Derived.Test.YtpnddccanelcnaaOpenD
import Derived.Test.YtpnddccanelcnaaBoundW
import Derived.Deep.RegionHeld3
namespace Go.Proofs.Ytpnddccanelcnaa
open Go.RowKit
set_option maxRecDepth 100000
set_option maxHeartbeats 8000000

theorem rel_new (lk lb : Int) : Rel ⟨lk, lb, 0, 0, 0, 0, 0, []⟩ ⟨lk, lb, 0, 0, []⟩ := ⟨rfl, rfl, rfl, rfl, rfl, rfl⟩
/-- What stands between two rounds: the purse, the model in its box. -/
structure Pair (w : World) (p a m q : Nat) (N : Int) (s : Pu) (r : Rp) (v : Value) (W : World) : Prop where
  low : Below w.heap.size w W
  ok : s.Ok N
  rel : Rel s r
  len : (r.l.length : Int) ≤ N
  at' : At W p a m s
  box : Fresh W q (rcells r v) TR
  row : Row W 0 v r.l
theorem Pair.below {w W W' : World} {p a m q : Nat} {N : Int} {s : Pu} {r : Rp} {v : Value} (h : Pair w p a m q N s r v W) (hb : Below W.heap.size W W') : Pair w p a m q N s r v W' :=
  ⟨h.low.trans (hb.mono h.low.size), h.ok, h.rel, h.len, h.at'.below hb, h.box.below hb, h.row.below hb⟩
theorem Row.thru {W W5 : World} {B z : Nat} {v : Value} {l : List Tq} {cs : Array Value} (h : Row W B v l) (hf : Fresh W z cs TR) (r : Rp) (u : Value) (e : W5 = Go.Proofs.Ytpnddccanelcnaa.set5 W z r u) : Row W5 B v l := by rw [e]; exact h.set5' hf r u
theorem At.set5 {W : World} {p a m z : Nat} {s : Pu} {cs : Array Value} (h : At W p a m s) (hf : Fresh W z cs TR) (r : Rp) (u : Value) : At (Go.Proofs.Ytpnddccanelcnaa.set5 W z r u) p a m s := by
  have hne := h.ne hf
  exact ⟨set5_other h.hp (Ne.symm hne.1) r _, set5_other h.ha (Ne.symm hne.2.1) r _, by
    obtain ⟨es, cc, hb, hi⟩ := h.hm
    exact ⟨es, cc, (set5_heap W _ r _ m (Ne.symm hne.2.2)).trans hb, hi⟩⟩
theorem purseTells_walk (lk lb : Int) (ao : Option Addr) (len cap : Nat) (w : World) (hk : U lk) (hb : U lb) (hd : IsDeeds w ao len) :
    Calls Try.prog 3 #[lim lk lb, .slice ao len cap] w fun e w' => e = .returned (.bool true) ∧ Below w.heap.size w w' := by
  have HU := Lib.hid (And.intro hk hb)
  have HD := Lib.hid hd
  have hlen := hd.1
  clear hk hb hd
  obtain ⟨W0, hW0⟩ : ∃ W0, W0 = w.alloc (.cells #[.int .u64 lk, .int .u64 lb] 24) := ⟨_, rfl⟩
  have HB0 : Hid (Below w.heap.size w W0) := by show Below _ _ _; rw [hW0]; exact Below.new (Below.refl _ _) _
  have HL0 : Hid (Fresh W0 w.heap.size #[.int .u64 lk, .int .u64 lb] 24) := by show Fresh _ _ _ _; rw [hW0]; exact Fresh.new _ _ _ _ rfl
  have HEQ := Lib.hid hW0
  clear hW0
  by_cases hl : len ≤ 100
  · have hl2 : ¬ (100 : Int) < (len : Int) := by omega
    have hl3 : decide (100 < len) = false := decide_eq_false (by omega)
    have HLN := Lib.hid hl
    clear hl
    have l0 := HL0.out.cell 0
    have l1 := HL0.out.cell 1
    simp only [List.getElem?_toArray, List.getElem?_cons_zero, List.getElem?_cons_succ] at l0 l1
    go_enter Try.func3, Try.ntmps3
    go_upto_region 1 with fail
    rw [← HEQ.out]
    go_wp2_with fail
    refine (new_any lk lb _).mono ?_
    rintro e w2 ⟨p, a, m, hp, ha, hm, rfl, hb2, hat⟩
    have l0 := (HL0.out.below hb2).cell 0
    have l1 := (HL0.out.below hb2).cell 1
    simp only [List.getElem?_toArray, List.getElem?_cons_zero, List.getElem?_cons_succ] at l0 l1
    go_upto_region 5 with fail
    obtain ⟨q, hq⟩ : ∃ q, q = w2.heap.size := ⟨_, rfl⟩
    obtain ⟨W2, hW2⟩ : ∃ W, W = w2.alloc (.cells (rcells ⟨lk, lb, 0, 0, []⟩ (.slice none 0 0)) TR) := ⟨_, rfl⟩
    change Code.wp _ _ _ _ (w2.alloc (.cells (rcells ⟨lk, lb, 0, 0, []⟩ (.slice none 0 0)) TR))
    rw [← hW2, ← hq]
    have P2 : Hid (Pair w p a m q 0 ⟨lk, lb, 0, 0, 0, 0, 0, []⟩ ⟨lk, lb, 0, 0, []⟩ (.slice none 0 0) W2) := by
      show Pair _ _ _ _ _ _ _ _ _ _
      rw [hW2]
      exact ⟨Below.new (Below.step HB0.out hb2) _, ok_new lk lb HU.out.1 HU.out.2, rel_new lk lb, by simp, hat.below (Below.new (Below.refl _ _) _), Fresh.new _ _ _ _ hq.symm, Row.nil _⟩
    have HS : Hid (∀ k ∈ [a, m], w.heap.size ≤ k) := by intro k hk; have := HB0.out.size; simp at hk; rcases hk with rfl | rfl <;> omega
    have HQ : Hid (w.heap.size ≤ q) := by show _ ≤ _; rw [hq]; exact Nat.le_trans HB0.out.size hb2.size
    clear hW2 hq hp ha hm hb2 hat l0 l1
    go_wp2_with fail
    go_loopw [7] (fun iv wr => ∃ (i : Nat) (s : Pu) (r : Rp) (v : Value), i ≤ len ∧ iv = .int .i64 i ∧ Pair w p a m q i s r v wr) (fun iv _ => len - (intOf iv).toNat)
    case atStart => exact ⟨0, _, _, _, by omega, rfl, P2.out⟩
    case round =>
      obtain ⟨i, s, r, v, hi, rfl, hP⟩ := hrel
      have HP := Lib.hid hP
      clear hP P2
      by_cases hlt : i < len
      · have q1 : (i : Int) < (len : Int) := by omega
        have q3 : decide (i < len) = true := decide_eq_true hlt
        have q0 : (0 : Int) ≤ (i : Int) := Int.natCast_nonneg _
        have q4 : (i : Int) < 100 := by have := HLN.out; omega
        have HI := Lib.hid hlt
        obtain ⟨g, off, rfl, hg, hc⟩ : ∃ g off, ao = some ⟨g, off, none⟩ ∧ g < w.heap.size ∧ ∀ i, i < len → ∃ c t k b : Int, U k ∧ U b ∧ w.cell? ⟨g, off + i * 4, none⟩ = some (.int .i64 c) ∧ w.cell? ⟨g, off + i * 4 + 1, none⟩ = some (.int .i64 t) ∧ w.cell? ⟨g, off + i * 4 + 2, none⟩ = some (.int .u64 k) ∧ w.cell? ⟨g, off + i * 4 + 3, none⟩ = some (.int .u64 b) := by
          rcases HD.out.2 with h | h
          · omega
          · exact h
        obtain ⟨c, t, k, b, u1, u2, e0, e1, e2, e3⟩ := hc i hlt
        obtain ⟨va, vn, vc, rfl⟩ := HP.out.row.form
        have HV := HP.out.len
        obtain ⟨r', hr1, hr2, -⟩ := does_any (W := wr) c t k b HP.out.at' HP.out.ok (by omega) HP.out.rel HP.out.row (by omega) u1 u2
        have HDo : Hid (∀ W, At W p a m s → Row W 0 (.slice va vn vc) r.l → Calls Try.prog 11 #[.pointer (some ⟨p, 0, none⟩), rv r (.slice va vn vc), deedV c t k b] W fun e w' => ∃ r', Rel (opS s (c % 6) t k b).1 r' ∧ r'.l.length ≤ r.l.length + 1 ∧ DP W p a m (opS s (c % 6) t k b).1 r' e w') := fun W hA hR => by
          obtain ⟨r'', h1, h2, h3⟩ := does_any (W := W) c t k b hA HP.out.ok (by omega) HP.out.rel hR (by omega) u1 u2
          exact h3.mono fun e w' h => ⟨r'', h1, h2, h⟩
        have HOK := Lib.hid (opS_step s (c % 6) t k b i HP.out.ok u1 u2).1
        have HG : Hid (∀ W, Below w.heap.size w W → W.cell? ⟨g, off + i * 4, none⟩ = some (.int .i64 c) ∧ W.cell? ⟨g, off + i * 4 + 1, none⟩ = some (.int .i64 t) ∧ W.cell? ⟨g, off + i * 4 + 2, none⟩ = some (.int .u64 k) ∧ W.cell? ⟨g, off + i * 4 + 3, none⟩ = some (.int .u64 b)) := fun W hb =>
          ⟨by rw [hb.cell (p := ⟨g, off + i * 4, none⟩) hg]; exact e0, by rw [hb.cell (p := ⟨g, off + i * 4 + 1, none⟩) hg]; exact e1, by rw [hb.cell (p := ⟨g, off + i * 4 + 2, none⟩) hg]; exact e2, by rw [hb.cell (p := ⟨g, off + i * 4 + 3, none⟩) hg]; exact e3⟩
        clear hc u1 u2 e0 e1 e2 e3 hlt hr1 hr2 r' HV
        obtain ⟨s', hs'⟩ : ∃ s', (opS s (c % 6) t k b).1 = s' := ⟨_, rfl⟩
        rw [hs'] at HDo HOK
        clear hs'
        go_upto_region 8 with fail
        have KS : Hid (∀ W, Fresh W q (rcells r (.slice va vn vc)) TR → Below w.heap.size w W → W.cell? ⟨q, 0, none⟩ = some (.int .u64 r.gk) ∧ W.cell? ⟨q, 1, none⟩ = some (.int .u64 r.gb) ∧ W.cell? ⟨q, 2, none⟩ = some (.int .u64 r.hk) ∧ W.cell? ⟨q, 3, none⟩ = some (.int .u64 r.hb) ∧ W.cell? ⟨q, 4, none⟩ = some (.slice va vn vc) ∧ W.cell? ⟨g, off + i * 4, none⟩ = some (.int .i64 c) ∧ W.cell? ⟨g, off + i * 4 + 1, none⟩ = some (.int .i64 t) ∧ W.cell? ⟨g, off + i * 4 + 2, none⟩ = some (.int .u64 k) ∧ W.cell? ⟨g, off + i * 4 + 3, none⟩ = some (.int .u64 b)) :=
          fun W hX hB => ⟨hX.cell 0, hX.cell 1, hX.cell 2, hX.cell 3, hX.cell 4, HG.out W hB⟩
        have HNE := Lib.hid (HP.out.at'.ne HP.out.box).2
        have BD : Hid (Below wr.heap.size wr wr.drew) := (Below.refl _ _).drew
        refine wp_region_held_drew (S := (fun W => W.cell? ⟨q, 0, none⟩ = some (.int .u64 r.gk) ∧ W.cell? ⟨q, 1, none⟩ = some (.int .u64 r.gb) ∧ W.cell? ⟨q, 2, none⟩ = some (.int .u64 r.hk) ∧ W.cell? ⟨q, 3, none⟩ = some (.int .u64 r.hb) ∧ W.cell? ⟨q, 4, none⟩ = some (.slice va vn vc) ∧ W.cell? ⟨g, off + i * 4, none⟩ = some (.int .i64 c) ∧ W.cell? ⟨g, off + i * 4 + 1, none⟩ = some (.int .i64 t) ∧ W.cell? ⟨g, off + i * 4 + 2, none⟩ = some (.int .u64 k) ∧ W.cell? ⟨g, off + i * 4 + 3, none⟩ = some (.int .u64 b))) (by kernel_rfl) ?_ (fun hHeld => ?_)
        · (try dsimp only)
          exact KS.out _ (HP.out.box.below BD.out) (HP.out.low.trans (BD.out.mono HP.out.low.size))
        refine wpAnyH_take (i := 0) (oi := ?_) (v := ?_) ?_ (by kernel_rfl) (by kernel_rfl) (by kernel_rfl) ?_ (Or.inl ⟨?_, ?_⟩) (by assumption) ?_
        rotate_left 2
        · simp only [List.getElem?_toArray, List.getElem?_cons_succ, List.getElem?_cons_zero] <;> rfl
        · exact fun _ _ _ h => h
        · rfl
        · (intro w hSw; (try dsimp only at hSw); go_simp; try (with_reducible rfl))
        try simp only [Act.put, List.setIfInBounds_toArray, List.set_cons_zero, List.set_cons_succ]
        refine wpAnyH_take (i := 1) (oi := ?_) (v := ?_) ?_ (by kernel_rfl) (by kernel_rfl) (by kernel_rfl) ?_ (Or.inl ⟨?_, ?_⟩) (by assumption) ?_
        rotate_left 2
        · simp only [List.getElem?_toArray, List.getElem?_cons_succ, List.getElem?_cons_zero] <;> rfl
        · exact fun _ _ _ h => h
        · rfl
        · (intro w hSw; (try dsimp only at hSw); go_simp; try (with_reducible rfl))
        try simp only [Act.put, List.setIfInBounds_toArray, List.set_cons_zero, List.set_cons_succ]
        refine wpAnyH_take (i := 2) (oi := ?_) (v := ?_) ?_ (by kernel_rfl) (by kernel_rfl) (by kernel_rfl) ?_ (Or.inl ⟨?_, ?_⟩) (by assumption) ?_
        rotate_left 2
        · simp only [List.getElem?_toArray, List.getElem?_cons_succ, List.getElem?_cons_zero] <;> rfl
        · exact fun _ _ _ h => h
        · rfl
        · (intro w hSw; (try dsimp only at hSw); go_simp; try (with_reducible rfl))
        try simp only [Act.put, List.setIfInBounds_toArray, List.set_cons_zero, List.set_cons_succ]
        refine wpAnyH_take (i := 3) (oi := ?_) (v := ?_) ?_ (by kernel_rfl) (by kernel_rfl) (by kernel_rfl) ?_ (Or.inl ⟨?_, ?_⟩) (by assumption) ?_
        rotate_left 2
        · simp only [List.getElem?_toArray, List.getElem?_cons_succ, List.getElem?_cons_zero] <;> rfl
        · exact fun _ _ _ h => h
        · rfl
        · (intro w hSw; (try dsimp only at hSw); go_simp; try (with_reducible rfl))
        try simp only [Act.put, List.setIfInBounds_toArray, List.set_cons_zero, List.set_cons_succ]
        refine wpAnyH_take (i := 4) (oi := ?_) (v := ?_) ?_ (by kernel_rfl) (by kernel_rfl) (by kernel_rfl) ?_ (Or.inl ⟨?_, ?_⟩) (by assumption) ?_
        rotate_left 2
        · simp only [List.getElem?_toArray, List.getElem?_cons_succ, List.getElem?_cons_zero] <;> rfl
        · exact fun _ _ _ h => h
        · rfl
        · (intro w hSw; (try dsimp only at hSw); go_simp; try (with_reducible rfl))
        try simp only [Act.put, List.setIfInBounds_toArray, List.set_cons_zero, List.set_cons_succ]
        refine wpAnyH_take (i := 5) (oi := ?_) (v := ?_) ?_ (by kernel_rfl) (by kernel_rfl) (by kernel_rfl) ?_ (Or.inl ⟨?_, ?_⟩) (by assumption) ?_
        rotate_left 2
        · simp only [List.getElem?_toArray, List.getElem?_cons_succ, List.getElem?_cons_zero] <;> rfl
        · exact fun _ _ _ h => h
        · rfl
        · (intro w hSw; (try dsimp only at hSw); go_simp; try (with_reducible rfl))
        try simp only [Act.put, List.setIfInBounds_toArray, List.set_cons_zero, List.set_cons_succ]
        refine wpAnyH_ready (rs := [6, 10]) (by kernel_rfl) (by simp) ?_
        refine AllReadyH.cons (o := _) (by simp only [List.getElem?_toArray, List.getElem?_cons_succ, List.getElem?_cons_zero] <;> rfl) (fun K hK => ?_) ?_
        · go_simp
          refine (HDo.out _ (HP.out.at'.below BD.out) (HP.out.row.below BD.out)).mono ?_
          rintro e w5 ⟨r', hr1, hr2, v', rfl, ht5, hA5, hR5⟩
          obtain ⟨xa, xn, xc, rfl⟩ := hR5.form
          have X5 := Lib.hid (ht5.other (HP.out.box.below BD.out) (by simp; exact HNE.out))
          have L5 := Lib.hid (ht5.below (HP.out.low.trans (BD.out.mono HP.out.low.size)) HS.out (Nat.le_trans HP.out.low.size BD.out.size))
          go_wp2_with fail
          refine hK.out _ _ ?_ (fun hHeld => ?_)
          · (try dsimp only)
            exact KS.out _ X5.out L5.out
          clear hK K
          try simp only [Act.put, List.setIfInBounds_toArray, List.set_cons_zero, List.set_cons_succ]
          refine wpAnyH_take (i := 7) (oi := ?_) (v := ?_) ?_ (by kernel_rfl) (by kernel_rfl) (by kernel_rfl) ?_ (Or.inl ⟨?_, ?_⟩) (by assumption) ?_
          rotate_left 2
          · simp only [List.getElem?_toArray, List.getElem?_cons_succ, List.getElem?_cons_zero] <;> rfl
          · exact fun _ _ _ h => h
          · rfl
          · (intro w hSw; (try dsimp only at hSw); go_simp; try (with_reducible rfl))
          try simp only [Act.put, List.setIfInBounds_toArray, List.set_cons_zero, List.set_cons_succ]
          refine wpAnyH_take (i := 8) (oi := ?_) (v := ?_) ?_ (by kernel_rfl) (by kernel_rfl) (by kernel_rfl) ?_ (Or.inl ⟨?_, ?_⟩) (by assumption) ?_
          rotate_left 2
          · simp only [List.getElem?_toArray, List.getElem?_cons_succ, List.getElem?_cons_zero] <;> rfl
          · exact fun _ _ _ h => h
          · rfl
          · (intro w hSw; (try dsimp only at hSw); go_simp; try (with_reducible rfl))
          try simp only [Act.put, List.setIfInBounds_toArray, List.set_cons_zero, List.set_cons_succ]
          refine wpAnyH_take (i := 9) (oi := ?_) (v := ?_) ?_ (by kernel_rfl) (by kernel_rfl) (by kernel_rfl) ?_ (Or.inl ⟨?_, ?_⟩) (by assumption) ?_
          rotate_left 2
          · simp only [List.getElem?_toArray, List.getElem?_cons_succ, List.getElem?_cons_zero] <;> rfl
          · exact fun _ _ _ h => h
          · rfl
          · (intro w hSw; (try dsimp only at hSw); go_simp; try (with_reducible rfl))
          try simp only [Act.put, List.setIfInBounds_toArray, List.set_cons_zero, List.set_cons_succ]
          refine wpAnyH_ready (rs := [10]) (by kernel_rfl) (by simp) ?_
          refine AllReadyH.cons (o := _) (by simp only [List.getElem?_toArray, List.getElem?_cons_succ, List.getElem?_cons_zero] <;> rfl) (fun K hK => ?_) ?_
          · go_simp
            refine hK.out _ _ ?_ (fun hHeld => ?_)
            · (try dsimp only)
              exact KS.out _ (X5.out.alloc _) (Below.new L5.out _)
            clear hK K
            try simp only [Act.put, List.setIfInBounds_toArray, List.set_cons_zero, List.set_cons_succ]
            refine wpAnyH_ready (rs := [11]) (by kernel_rfl) (by simp) ?_
            refine AllReadyH.cons (o := _) (by simp only [List.getElem?_toArray, List.getElem?_cons_succ, List.getElem?_cons_zero] <;> rfl) (fun K hK => ?_) ?_
            · go_simp
              refine hK.out _ _ ?_ (fun hHeld => ?_)
              · (try dsimp only)
                exact KS.out _ (X5.out.alloc _) (Below.new L5.out _)
              clear hK K
              try simp only [Act.put, List.setIfInBounds_toArray, List.set_cons_zero, List.set_cons_succ]
              refine wpAnyH_take (i := 12) (oi := ?_) (v := ?_) ?_ (by kernel_rfl) (by kernel_rfl) (by kernel_rfl) ?_ (Or.inl ⟨?_, ?_⟩) (by assumption) ?_
              rotate_left 2
              · simp only [List.getElem?_toArray, List.getElem?_cons_succ, List.getElem?_cons_zero] <;> rfl
              · exact fun _ _ _ h => h
              · rfl
              · (intro w hSw; (try dsimp only at hSw); go_simp; try (with_reducible rfl))
              try simp only [Act.put, List.setIfInBounds_toArray, List.set_cons_zero, List.set_cons_succ]
              refine wpAnyH_done (by kernel_rfl) ?_ _
              obtain ⟨z, hz⟩ : ∃ z, z = w5.heap.size := ⟨_, rfl⟩
              obtain ⟨W6, hW6⟩ : ∃ W, W = w5.alloc (.cells (rcells r' (.slice xa xn xc)) TR) := ⟨_, rfl⟩
              change Exit.then _ _ _ _ (w5.alloc (.cells (rcells r' (.slice xa xn xc)) TR))
              rw [← hW6, ← hz]
              have Z6 : Hid (Fresh W6 z (rcells r' (.slice xa xn xc)) TR) := by show Fresh _ _ _ _; rw [hW6]; exact Fresh.new _ _ _ _ hz.symm
              have X6 : Hid (Fresh W6 q (rcells r (.slice va vn vc)) TR) := by show Fresh _ _ _ _; rw [hW6]; exact X5.out.alloc _
              have A6 : Hid (At W6 p a m s') := by show At _ _ _ _ _; rw [hW6]; exact hA5.below (Below.new (Below.refl _ _) _)
              have R6 : Hid (Row W6 0 (.slice xa xn xc) r'.l) := by show Row _ _ _ _; rw [hW6]; exact hR5.below (Below.new (Below.refl _ _) _)
              have L6 : Hid (Below w.heap.size w W6) := by show Below _ _ _; rw [hW6]; exact Below.new L5.out _
              have hzq : q ≠ z := by rw [hz]; exact Nat.ne_of_lt X5.out.lt
              clear hz hW6
              have HRL := Lib.hid hr1
              have HLE := Lib.hid hr2
              clear hA5 hR5 ht5 hr1 hr2 X5 L5 KS
              have HZQ := Lib.hid hzq
              clear hzq
              obtain ⟨c0, c1, c2, c3, c4⟩ := rcells_at Z6.out
              obtain ⟨d0, d1, d2, d3, d4⟩ := rcells_at X6.out
              have z1 := fun i => X6.out.thawed i
              go_upto_region 10 with fail
              clear c0 c1 c2 c3 c4 d0 d1 d2 d3 d4 z1
              obtain ⟨W7, hW7⟩ : ∃ W, W = set5 W6 q r' (.slice xa xn xc) := ⟨_, rfl⟩
              change Code.wp _ _ _ _ (set5 W6 q r' (.slice xa xn xc))
              rw [← hW7]
              have P7 : Hid (Pair w p a m q (i + 1) s' r' (.slice xa xn xc) W7) := by
                show Pair _ _ _ _ _ _ _ _ _ _
                rw [hW7]
                exact ⟨set5_below L6.out HQ.out r' _, HOK.out, HRL.out, by have := HLE.out; have := HP.out.len; omega, A6.out.set5 X6.out r' _, set5_fresh X6.out r' _, R6.out.set5' X6.out r' _⟩
              clear hW7
              obtain ⟨c0, c1, c2, c3, c4⟩ := rcells_at P7.out.box
              go_wp2_with fail
              refine (looks_any P7.out.at' P7.out.ok P7.out.rel P7.out.row (by have := P7.out.len; omega)).mono ?_
              rintro e w8 ⟨rfl, hb8⟩
              have P8 := Lib.hid (P7.out.below hb8)
              clear hb8 c0 c1 c2 c3 c4
              go_wp2_with fail
              go_roundw
              case rel => exact ⟨i + 1, s', r', .slice xa xn xc, by have := HI.out; omega, by go_num, by rw [show ((i + 1 : Nat) : Int) = (i : Int) + 1 from by omega]; exact P8.out⟩
              case measure => have := HI.out; simp [intOf]; omega
            exact AllReadyH.nil
          exact AllReadyH.nil
        refine AllReadyH.cons (o := _) (by simp only [List.getElem?_toArray, List.getElem?_cons_succ, List.getElem?_cons_zero] <;> rfl) (fun K hK => ?_) ?_
        · go_simp
          refine hK.out _ _ ?_ (fun hHeld => ?_)
          · (try dsimp only)
            exact KS.out _ (HP.out.box.below (Below.new BD.out (.cells #[.int .u64 0, .int .u64 0, .int .u64 0, .int .u64 0, .slice none 0 0] TR))) (HP.out.low.trans ((Below.new BD.out (.cells #[.int .u64 0, .int .u64 0, .int .u64 0, .int .u64 0, .slice none 0 0] TR)).mono HP.out.low.size))
          clear hK K
          try simp only [Act.put, List.setIfInBounds_toArray, List.set_cons_zero, List.set_cons_succ]
          refine wpAnyH_ready (rs := [6]) (by kernel_rfl) (by simp) ?_
          refine AllReadyH.cons (o := _) (by simp only [List.getElem?_toArray, List.getElem?_cons_succ, List.getElem?_cons_zero] <;> rfl) (fun K hK => ?_) ?_
          · go_simp
            refine (HDo.out _ (HP.out.at'.below (Below.new BD.out (.cells #[.int .u64 0, .int .u64 0, .int .u64 0, .int .u64 0, .slice none 0 0] TR))) (HP.out.row.below (Below.new BD.out (.cells #[.int .u64 0, .int .u64 0, .int .u64 0, .int .u64 0, .slice none 0 0] TR)))).mono ?_
            rintro e w5 ⟨r', hr1, hr2, v', rfl, ht5, hA5, hR5⟩
            obtain ⟨xa, xn, xc, rfl⟩ := hR5.form
            have X5 := Lib.hid (ht5.other (HP.out.box.below (Below.new BD.out (.cells #[.int .u64 0, .int .u64 0, .int .u64 0, .int .u64 0, .slice none 0 0] TR))) (by simp; exact HNE.out))
            have L5 := Lib.hid (ht5.below (HP.out.low.trans ((Below.new BD.out (.cells #[.int .u64 0, .int .u64 0, .int .u64 0, .int .u64 0, .slice none 0 0] TR)).mono HP.out.low.size)) HS.out (Nat.le_trans HP.out.low.size (Below.new BD.out (.cells #[.int .u64 0, .int .u64 0, .int .u64 0, .int .u64 0, .slice none 0 0] TR)).size))
            have Z0 := Fresh.new wr.drew wr.heap.size #[.int .u64 0, .int .u64 0, .int .u64 0, .int .u64 0, .slice none 0 0] TR rfl
            have hzn := (At.ne (HP.out.at'.below (Below.new BD.out (.cells #[.int .u64 0, .int .u64 0, .int .u64 0, .int .u64 0, .slice none 0 0] TR))) Z0).2
            have Z5 := Lib.hid (ht5.other Z0 (by simp; exact hzn))
            have d0 := Z5.out.cell 0
            have d1 := Z5.out.cell 1
            have d2 := Z5.out.cell 2
            have d3 := Z5.out.cell 3
            have d4 := Z5.out.cell 4
            simp only [List.getElem?_toArray, List.getElem?_cons_zero, List.getElem?_cons_succ] at d0 d1 d2 d3 d4
            have z1 := fun i => Z5.out.thawed i
            go_wp2_with fail
            refine hK.out _ _ ?_ (fun hHeld => ?_)
            · (try dsimp only)
              exact KS.out _ X5.out L5.out
            clear hK K
            try simp only [Act.put, List.setIfInBounds_toArray, List.set_cons_zero, List.set_cons_succ]
            refine wpAnyH_take (i := 7) (oi := ?_) (v := ?_) ?_ (by kernel_rfl) (by kernel_rfl) (by kernel_rfl) ?_ (Or.inl ⟨?_, ?_⟩) (by assumption) ?_
            rotate_left 2
            · simp only [List.getElem?_toArray, List.getElem?_cons_succ, List.getElem?_cons_zero] <;> rfl
            · exact fun _ _ _ h => h
            · rfl
            · (intro w hSw; (try dsimp only at hSw); go_simp; try (with_reducible rfl))
            try simp only [Act.put, List.setIfInBounds_toArray, List.set_cons_zero, List.set_cons_succ]
            refine wpAnyH_take (i := 8) (oi := ?_) (v := ?_) ?_ (by kernel_rfl) (by kernel_rfl) (by kernel_rfl) ?_ (Or.inl ⟨?_, ?_⟩) (by assumption) ?_
            rotate_left 2
            · simp only [List.getElem?_toArray, List.getElem?_cons_succ, List.getElem?_cons_zero] <;> rfl
            · exact fun _ _ _ h => h
            · rfl
            · (intro w hSw; (try dsimp only at hSw); go_simp; try (with_reducible rfl))
            try simp only [Act.put, List.setIfInBounds_toArray, List.set_cons_zero, List.set_cons_succ]
            refine wpAnyH_take (i := 9) (oi := ?_) (v := ?_) ?_ (by kernel_rfl) (by kernel_rfl) (by kernel_rfl) ?_ (Or.inl ⟨?_, ?_⟩) (by assumption) ?_
            rotate_left 2
            · simp only [List.getElem?_toArray, List.getElem?_cons_succ, List.getElem?_cons_zero] <;> rfl
            · exact fun _ _ _ h => h
            · rfl
            · (intro w hSw; (try dsimp only at hSw); go_simp; try (with_reducible rfl))
            try simp only [Act.put, List.setIfInBounds_toArray, List.set_cons_zero, List.set_cons_succ]
            refine wpAnyH_ready (rs := [11]) (by kernel_rfl) (by simp) ?_
            refine AllReadyH.cons (o := _) (by simp only [List.getElem?_toArray, List.getElem?_cons_succ, List.getElem?_cons_zero] <;> rfl) (fun K hK => ?_) ?_
            · go_simp
              refine hK.out _ _ ?_ (fun hHeld => ?_)
              · (try dsimp only)
                exact KS.out _ (set5_other X5.out (Nat.ne_of_lt HP.out.box.lt) _ _) (set5_below L5.out HP.out.low.size _ _)
              clear hK K
              try simp only [Act.put, List.setIfInBounds_toArray, List.set_cons_zero, List.set_cons_succ]
              refine wpAnyH_take (i := 12) (oi := ?_) (v := ?_) ?_ (by kernel_rfl) (by kernel_rfl) (by kernel_rfl) ?_ (Or.inl ⟨?_, ?_⟩) (by assumption) ?_
              rotate_left 2
              · simp only [List.getElem?_toArray, List.getElem?_cons_succ, List.getElem?_cons_zero] <;> rfl
              · exact fun _ _ _ h => h
              · rfl
              · (intro w hSw; (try dsimp only at hSw); go_simp; try (with_reducible rfl))
              try simp only [Act.put, List.setIfInBounds_toArray, List.set_cons_zero, List.set_cons_succ]
              refine wpAnyH_done (by kernel_rfl) ?_ _
              obtain ⟨z, hz⟩ : ∃ z, z = wr.heap.size := ⟨_, rfl⟩
              obtain ⟨W6, hW6⟩ : ∃ W, W = set5 w5 wr.heap.size r' (.slice xa xn xc) := ⟨_, rfl⟩
              change Exit.then _ _ _ _ (set5 w5 wr.heap.size r' (.slice xa xn xc))
              rw [← hW6, ← hz]
              have hzq : q ≠ z := by rw [hz]; exact Nat.ne_of_lt HP.out.box.lt
              rw [← hz] at Z5 hW6
              have Z6 : Hid (Fresh W6 z (rcells r' (.slice xa xn xc)) TR) := by show Fresh _ _ _ _; rw [hW6]; exact set5_fresh Z5.out r' _
              have X6 : Hid (Fresh W6 q (rcells r (.slice va vn vc)) TR) := by show Fresh _ _ _ _; rw [hW6]; exact set5_other X5.out hzq r' _
              have A6 : Hid (At W6 p a m s') := by show At _ _ _ _ _; rw [hW6]; exact hA5.set5 Z5.out r' _
              have R6 : Hid (Row W6 0 (.slice xa xn xc) r'.l) := hR5.thru Z5.out r' _ hW6
              have L6 : Hid (Below w.heap.size w W6) := by show Below _ _ _; rw [hW6]; exact set5_below L5.out (by rw [hz]; exact HP.out.low.size) r' _
              clear hz hW6 d0 d1 d2 d3 d4 z1 Z5 Z0 hzn
              have HRL := Lib.hid hr1
              have HLE := Lib.hid hr2
              clear hA5 hR5 ht5 hr1 hr2 X5 L5 KS
              have HZQ := Lib.hid hzq
              clear hzq
              obtain ⟨c0, c1, c2, c3, c4⟩ := rcells_at Z6.out
              obtain ⟨d0, d1, d2, d3, d4⟩ := rcells_at X6.out
              have z1 := fun i => X6.out.thawed i
              go_upto_region 10 with fail
              clear c0 c1 c2 c3 c4 d0 d1 d2 d3 d4 z1
              obtain ⟨W7, hW7⟩ : ∃ W, W = set5 W6 q r' (.slice xa xn xc) := ⟨_, rfl⟩
              change Code.wp _ _ _ _ (set5 W6 q r' (.slice xa xn xc))
              rw [← hW7]
              have P7 : Hid (Pair w p a m q (i + 1) s' r' (.slice xa xn xc) W7) := by
                show Pair _ _ _ _ _ _ _ _ _ _
                rw [hW7]
                exact ⟨set5_below L6.out HQ.out r' _, HOK.out, HRL.out, by have := HLE.out; have := HP.out.len; omega, A6.out.set5 X6.out r' _, set5_fresh X6.out r' _, R6.out.set5' X6.out r' _⟩
              clear hW7
              obtain ⟨c0, c1, c2, c3, c4⟩ := rcells_at P7.out.box
              go_wp2_with fail
              refine (looks_any P7.out.at' P7.out.ok P7.out.rel P7.out.row (by have := P7.out.len; omega)).mono ?_
              rintro e w8 ⟨rfl, hb8⟩
              have P8 := Lib.hid (P7.out.below hb8)
              clear hb8 c0 c1 c2 c3 c4
              go_wp2_with fail
              go_roundw
              case rel => exact ⟨i + 1, s', r', .slice xa xn xc, by have := HI.out; omega, by go_num, by rw [show ((i + 1 : Nat) : Int) = (i : Int) + 1 from by omega]; exact P8.out⟩
              case measure => have := HI.out; simp [intOf]; omega
            exact AllReadyH.nil
          exact AllReadyH.nil
        exact AllReadyH.nil
      · obtain rfl : i = len := by omega
        obtain ⟨va, vn, vc, rfl⟩ := HP.out.row.form
        obtain ⟨c0, c1, c2, c3, c4⟩ := rcells_at HP.out.box
        have HLL : Hid (r.l.length ≤ 1000) := by have := HP.out.len; have := HLN.out; show _ ≤ _; omega
        go_wp2_with fail
        refine (looks_any HP.out.at' HP.out.ok HP.out.rel HP.out.row HLL.out).mono ?_
        rintro e w8 ⟨rfl, hb8⟩
        have P8 := Lib.hid (HP.out.below hb8)
        clear hb8 c0 c1 c2 c3 c4
        go_wp2_with fail
        refine (awake_any _).mono ?_
        rintro e w9 ⟨rfl, hb9⟩
        go_wp2_with fail
        go_ret
        exact ⟨rfl, Below.step P8.out.low hb9⟩
  · have hl2 : (100 : Int) < (len : Int) := by omega
    have hl3 : decide (100 < len) = true := decide_eq_true (by omega)
    clear hl
    go_enter Try.func3, Try.ntmps3
    go_upto_region 1 with fail
    rw [← HEQ.out]
    go_wp2_with fail
    refine (awake_any _).mono ?_
    rintro e w9 ⟨rfl, hb9⟩
    go_wp2_with fail
    go_ret
    exact ⟨rfl, Below.step HB0.out hb9⟩

end Go.Proofs.Ytpnddccanelcnaa
