/- The walk of PurseCopies. -/
import Derived.Test.YtpnddccanelcnaaTells
import Derived.Test.YtpnddccanelcnaaFour
namespace Go.Proofs.Ytpnddccanelcnaa
open Go.RowKit
set_option maxRecDepth 100000
set_option maxHeartbeats 8000000

theorem deed_at {w : World} {ao : Option Addr} {len : Nat} (h : IsDeeds w ao len) {i : Nat} (hi : i < len) : ∃ g off, ao = some ⟨g, off, none⟩ ∧ g < w.heap.size ∧ ∃ c t k b : Int, U k ∧ U b ∧ w.cell? ⟨g, off + i * 4, none⟩ = some (.int .i64 c) ∧ w.cell? ⟨g, off + i * 4 + 1, none⟩ = some (.int .i64 t) ∧ w.cell? ⟨g, off + i * 4 + 2, none⟩ = some (.int .u64 k) ∧ w.cell? ⟨g, off + i * 4 + 3, none⟩ = some (.int .u64 b) := by
  rcases h.2 with h | ⟨g, off, h1, h2, h3⟩
  · omega
  · exact ⟨g, off, h1, h2, h3 i hi⟩
theorem dat_below {w W : World} {g off i : Nat} {c t k b : Int} (hg : g < w.heap.size) (e0 : w.cell? ⟨g, off + i * 4, none⟩ = some (.int .i64 c)) (e1 : w.cell? ⟨g, off + i * 4 + 1, none⟩ = some (.int .i64 t)) (e2 : w.cell? ⟨g, off + i * 4 + 2, none⟩ = some (.int .u64 k)) (e3 : w.cell? ⟨g, off + i * 4 + 3, none⟩ = some (.int .u64 b)) (hb : Below w.heap.size w W) :
    W.cell? ⟨g, off + i * 4, none⟩ = some (.int .i64 c) ∧ W.cell? ⟨g, off + i * 4 + 1, none⟩ = some (.int .i64 t) ∧ W.cell? ⟨g, off + i * 4 + 2, none⟩ = some (.int .u64 k) ∧ W.cell? ⟨g, off + i * 4 + 3, none⟩ = some (.int .u64 b) :=
  ⟨by rw [hb.cell (p := ⟨g, off + i * 4, none⟩) hg]; exact e0, by rw [hb.cell (p := ⟨g, off + i * 4 + 1, none⟩) hg]; exact e1, by rw [hb.cell (p := ⟨g, off + i * 4 + 2, none⟩) hg]; exact e2, by rw [hb.cell (p := ⟨g, off + i * 4 + 3, none⟩) hg]; exact e3⟩

/-- One purse and its model: what an operation asks, and what it leaves. -/
structure Side (p a m q : Nat) (N : Int) (s : Pu) (r : Rp) (v : Value) (W : World) : Prop where
  ok : s.Ok N
  rel : Rel s r
  len : (r.l.length : Int) ≤ N
  at' : At W p a m s
  box : Fresh W q (rcells r v) TR
  row : Row W 0 v r.l
theorem Side.below {W W' : World} {p a m q : Nat} {N : Int} {s : Pu} {r : Rp} {v : Value} (h : Side p a m q N s r v W) (hb : Below W.heap.size W W') : Side p a m q N s r v W' :=
  ⟨h.ok, h.rel, h.len, h.at'.below hb, h.box.below hb, h.row.below hb⟩
theorem Side.more {W : World} {p a m q : Nat} {N M : Int} {s : Pu} {r : Rp} {v : Value} (h : Side p a m q N s r v W) (hM : N ≤ M) : Side p a m q M s r v W :=
  ⟨h.ok.more hM, h.rel, by have := h.len; omega, h.at', h.box, h.row⟩
/-- The other side stays. -/
theorem Side.turned {W W' : World} {p a m q p' a' m' : Nat} {N : Int} {s s2 : Pu} {r : Rp} {v : Value} (h : Side p a m q N s r v W) (h2 : At W p' a' m' s2) (hap : Apart ⟨p, a, m⟩ ⟨p', a', m'⟩) (ht : Turned [a', m'] W W') : Side p a m q N s r v W' :=
  ⟨h.ok, h.rel, h.len, AtP.other (x := ⟨p, a, m⟩) (y := ⟨p', a', m'⟩) h.at' ht hap, ht.other h.box (by have := (h2.ne h.box).2; simp; exact this), h.row.turned h2 ht⟩
theorem Side.stored {W : World} {p a m q z : Nat} {N : Int} {s : Pu} {r : Rp} {v : Value} {cs : Array Value} (h : Side p a m q N s r v W) (hf : Fresh W z cs TR) (hz : q ≠ z) (r' : Rp) (u : Value) : Side p a m q N s r v (set5 W z r' u) :=
  ⟨h.ok, h.rel, h.len, h.at'.set5 hf r' u, set5_other h.box hz r' u, h.row.set5' hf r' u⟩

def DoesOf (p a m : Nat) (s s' : Pu) (r : Rp) (v : Value) (c t k b : Int) : Prop := ∀ W, At W p a m s → Row W 0 v r.l → Calls Try.prog 11 #[.pointer (some ⟨p, 0, none⟩), rv r v, deedV c t k b] W fun e w' => ∃ r', Rel s' r' ∧ r'.l.length ≤ r.l.length + 1 ∧ DP W p a m s' r' e w'
theorem does_of {p a m q : Nat} {N : Int} {s : Pu} {r : Rp} {v : Value} {W : World} (h : Side p a m q N s r v W) (hN : N ≤ 900) (c t k b : Int) (u1 : U k) (u2 : U b) : ∃ s', s'.Ok (N + 1) ∧ DoesOf p a m s s' r v c t k b :=
  ⟨(opS s (c % 6) t k b).1, (opS_step s (c % 6) t k b N h.ok u1 u2).1, fun W hA hR => by
    have := h.len
    obtain ⟨r'', h1, h2, h3⟩ := does_any (W := W) c t k b hA h.ok (by omega) h.rel hR (by omega) u1 u2
    exact h3.mono fun e w' h => ⟨r'', h1, h2, h⟩⟩

structure Two (w : World) (p a m q p2 a2 m2 q2 : Nat) (N : Int) (s : Pu) (r : Rp) (v : Value) (s2 : Pu) (r2 : Rp) (v2 : Value) (W : World) : Prop where
  low : Below w.heap.size w W
  one : Side p a m q N s r v W
  two : Side p2 a2 m2 q2 N s2 r2 v2 W
theorem Two.below {w W W' : World} {p a m q p2 a2 m2 q2 : Nat} {N : Int} {s s2 : Pu} {r r2 : Rp} {v v2 : Value} (h : Two w p a m q p2 a2 m2 q2 N s r v s2 r2 v2 W) (hb : Below W.heap.size W W') : Two w p a m q p2 a2 m2 q2 N s r v s2 r2 v2 W' :=
  ⟨h.low.trans (hb.mono h.low.size), h.one.below hb, h.two.below hb⟩
/-- What never changes: who lies where. -/
structure Lie (w : World) (p a m q p2 a2 m2 q2 : Nat) : Prop where
  s1 : ∀ k ∈ [a, m], w.heap.size ≤ k
  s2 : ∀ k ∈ [a2, m2], w.heap.size ≤ k
  q1 : w.heap.size ≤ q
  q2' : w.heap.size ≤ q2
  qq : q ≠ q2
  a12 : Apart ⟨p, a, m⟩ ⟨p2, a2, m2⟩
  a21 : Apart ⟨p2, a2, m2⟩ ⟨p, a, m⟩
/-- An operation on the first side. -/
theorem Two.opOne {w W W5 : World} {p a m q p2 a2 m2 q2 : Nat} {N M : Int} {s s' s2 : Pu} {r r' r2 : Rp} {v v' v2 : Value} (h : Two w p a m q p2 a2 m2 q2 N s r v s2 r2 v2 W) (L : Lie w p a m q p2 a2 m2 q2) (hM : M = N + 1) (ht : Turned [a, m] W W5) (hA : At W5 p a m s') (hR : Row W5 0 v' r'.l) (hok : s'.Ok (N + 1)) (hrel : Rel s' r') (hlen : r'.l.length ≤ r.l.length + 1) :
    Two w p a m q p2 a2 m2 q2 M s' r' v' s2 r2 v2 (set5 W5 q r' v') := by
  subst hM
  have hb5 : Fresh W5 q (rcells r v) TR := ht.other h.one.box (by have := (h.one.at'.ne h.one.box).2; simp; exact this)
  have l5 : Below w.heap.size w W5 := ht.below h.low L.s1 h.low.size
  refine ⟨set5_below l5 L.q1 r' v', ⟨hok, hrel, by have := h.one.len; omega, hA.set5 hb5 r' v', set5_fresh hb5 r' v', hR.set5' hb5 r' v'⟩, ?_⟩
  exact (((h.two.turned h.one.at' L.a21 ht).stored hb5 (Ne.symm L.qq) r' v')).more (by omega)
/-- An operation on the second side, the first having had its turn (M = N) or not (M = N + 1). -/
theorem Two.opTwo {w W W5 : World} {p a m q p2 a2 m2 q2 : Nat} {N M : Int} {s s2' s2 : Pu} {r r2' r2 : Rp} {v v2' v2 : Value} (h : Two w p a m q p2 a2 m2 q2 N s r v s2 r2 v2 W) (L : Lie w p a m q p2 a2 m2 q2) (hM : M = N + 1) (ht : Turned [a2, m2] W W5) (hA : At W5 p2 a2 m2 s2') (hR : Row W5 0 v2' r2'.l) (hok : s2'.Ok (N + 1)) (hrel : Rel s2' r2') (hlen : r2'.l.length ≤ r2.l.length + 1) :
    Two w p a m q p2 a2 m2 q2 M s r v s2' r2' v2' (set5 W5 q2 r2' v2') := by
  subst hM
  have hb5 : Fresh W5 q2 (rcells r2 v2) TR := ht.other h.two.box (by have := (h.two.at'.ne h.two.box).2; simp; exact this)
  have l5 : Below w.heap.size w W5 := ht.below h.low L.s2 h.low.size
  refine ⟨set5_below l5 L.q2' r2' v2', ?_, ⟨hok, hrel, by have := h.two.len; omega, hA.set5 hb5 r2' v2', set5_fresh hb5 r2' v2', hR.set5' hb5 r2' v2'⟩⟩
  exact (((h.one.turned h.two.at' L.a12 ht).stored hb5 L.qq r2' v2')).more (by omega)
theorem Two.more {w W : World} {p a m q p2 a2 m2 q2 : Nat} {N M : Int} {s s2 : Pu} {r r2 : Rp} {v v2 : Value} (h : Two w p a m q p2 a2 m2 q2 N s r v s2 r2 v2 W) (hM : N ≤ M) : Two w p a m q p2 a2 m2 q2 M s r v s2 r2 v2 W :=
  ⟨h.low, h.one.more hM, h.two.more hM⟩

def CP1 (w : World) (p a m q : Nat) (W : World) : Prop := ∃ (s : Pu) (r : Rp) (v : Value), Below w.heap.size w W ∧ Side p a m q 100 s r v W
set_option maxHeartbeats 16000000 in
theorem purseCopies_walk (lk lb : Int) (ao aa ab : Option Addr) (len la lb' cap ca cb : Nat) (w : World) (hk : U lk) (hb : U lb) (hd : IsDeeds w ao len) (hda : IsDeeds w aa la) (hdb : IsDeeds w ab lb') :
    Calls Try.prog 4 #[lim lk lb, .slice ao len cap, .slice aa la ca, .slice ab lb' cb] w fun e w' => e = .returned (.bool true) ∧ Below w.heap.size w w' := by
  have HU := Lib.hid (And.intro hk hb)
  have HD := Lib.hid hd
  have HDA := Lib.hid hda
  have HDB := Lib.hid hdb
  have hlen := hd.1
  have hlen2 := hda.1
  have hlen3 := hdb.1
  clear hk hb hd hda hdb
  obtain ⟨W0, hW0⟩ : ∃ W0, W0 = w.alloc (.cells #[.int .u64 lk, .int .u64 lb] 24) := ⟨_, rfl⟩
  have HB0 : Hid (Below w.heap.size w W0) := by show Below _ _ _; rw [hW0]; exact Below.new (Below.refl _ _) _
  have HL0 : Hid (Fresh W0 w.heap.size #[.int .u64 lk, .int .u64 lb] 24) := by show Fresh _ _ _ _; rw [hW0]; exact Fresh.new _ _ _ _ rfl
  have HEQ := Lib.hid hW0
  clear hW0
  have hgo : ∀ P : Prop, (len ≤ 100 ∧ la ≤ 100 ∧ lb' ≤ 100 → P) → ((len ≤ 100 ∧ la ≤ 100 ∧ ¬ lb' ≤ 100) ∨ (len ≤ 100 ∧ ¬ la ≤ 100) ∨ ¬ len ≤ 100 → P) → P := fun P h1 h2 => by
    by_cases x1 : len ≤ 100
    · by_cases x2 : la ≤ 100
      · by_cases x3 : lb' ≤ 100
        · exact h1 ⟨x1, x2, x3⟩
        · exact h2 (.inl ⟨x1, x2, x3⟩)
      · exact h2 (.inr (.inl ⟨x1, x2⟩))
    · exact h2 (.inr (.inr x1))
  refine hgo _ (fun hl => ?_) (fun hl => ?_)
  · obtain ⟨hl1, hl2, hl3⟩ := hl
    clear hgo
    have n1 : decide (100 < len) = false := decide_eq_false (by omega)
    have n2 : decide (100 < la) = false := decide_eq_false (by omega)
    have n3 : decide (100 < lb') = false := decide_eq_false (by omega)
    have m1 : ¬ (100 : Int) < (len : Int) := by omega
    have m2 : ¬ (100 : Int) < (la : Int) := by omega
    have m3 : ¬ (100 : Int) < (lb' : Int) := by omega
    have HLN := Lib.hid (And.intro hl1 (And.intro hl2 hl3))
    clear hl1 hl2 hl3
    have l0 := HL0.out.cell 0
    have l1 := HL0.out.cell 1
    simp only [List.getElem?_toArray, List.getElem?_cons_zero, List.getElem?_cons_succ] at l0 l1
    go_enter Try.func4, Try.ntmps4
    go_upto_region 1 with fail
    rw [← HEQ.out]
    go_wp2_with fail
    refine (new_any lk lb _).mono ?_
    rintro e w2 ⟨p, a, m, hp, ha, hm, rfl, hb2, hat⟩
    have l0 := (HL0.out.below hb2).cell 0
    have l1 := (HL0.out.below hb2).cell 1
    simp only [List.getElem?_toArray, List.getElem?_cons_zero, List.getElem?_cons_succ] at l0 l1
    go_upto_region 5 with fail
    obtain ⟨q, hq⟩ : ∃ q, q = w2.heap.size := ⟨_, rfl⟩
    obtain ⟨W2, hW2⟩ : ∃ W, W = w2.alloc (.cells (rcells ⟨lk, lb, 0, 0, []⟩ (.slice none 0 0)) TR) := ⟨_, rfl⟩
    change Code.wp _ _ _ _ (w2.alloc (.cells (rcells ⟨lk, lb, 0, 0, []⟩ (.slice none 0 0)) TR))
    rw [← hW2, ← hq]
    have P2 : Hid (Side p a m q 0 ⟨lk, lb, 0, 0, 0, 0, 0, []⟩ ⟨lk, lb, 0, 0, []⟩ (.slice none 0 0) W2) := by
      show Side _ _ _ _ _ _ _ _ _
      rw [hW2]
      exact ⟨ok_new lk lb HU.out.1 HU.out.2, rel_new lk lb, by simp, hat.below (Below.new (Below.refl _ _) _), Fresh.new _ _ _ _ hq.symm, Row.nil _⟩
    have L2 : Hid (Below w.heap.size w W2) := by show Below _ _ _; rw [hW2]; exact Below.new (Below.step HB0.out hb2) _
    have HS : Hid (∀ k ∈ [a, m], w.heap.size ≤ k) := by intro k hk; have := HB0.out.size; simp at hk; rcases hk with rfl | rfl <;> omega
    have HQ : Hid (w.heap.size ≤ q) := by show _ ≤ _; rw [hq]; exact Nat.le_trans HB0.out.size hb2.size
    have HX : Hid ((⟨p, a, m⟩ : Pl).Above w.heap.size) := by have := HB0.out.size; exact ⟨by show _ ≤ p; omega, by show _ ≤ a; omega, by show _ ≤ m; omega⟩
    clear hW2 hq hp ha hm hb2 hat l0 l1
    go_upto_block 0 with fail
    go_cut [] (fun wx => CP1 w p a m q wx)
    case first =>
      as_aux_lemma =>
        go_wp2_with fail
        go_loopw [11] (fun iv wr => ∃ (i : Nat) (s : Pu) (r : Rp) (v : Value), i ≤ len ∧ iv = .int .i64 i ∧ Below w.heap.size w wr ∧ Side p a m q i s r v wr) (fun iv _ => len - (intOf iv).toNat)
        case atStart => exact ⟨0, _, _, _, by omega, rfl, L2.out, P2.out⟩
        case round =>
          obtain ⟨i, s, r, v, hi, rfl, hL, hP⟩ := hrel
          have HP : Hid (Pair w p a m q i s r v wr) := ⟨hL, hP.ok, hP.rel, hP.len, hP.at', hP.box, hP.row⟩
          have HP' := Lib.hid hP
          clear hP hL P2 L2
          by_cases hlt : i < len
          · have q1 : (i : Int) < (len : Int) := by omega
            have q3 : decide (i < len) = true := decide_eq_true hlt
            have q0 : (0 : Int) ≤ (i : Int) := Int.natCast_nonneg _
            have q4 : (i : Int) < 100 := by have := HLN.out.1; omega
            have HI := Lib.hid hlt
            obtain ⟨va, vn, vc, rfl⟩ := HP.out.row.form
            obtain ⟨g, off, rfl, hg, c, t, k, b, u1, u2, e0, e1, e2, e3⟩ := deed_at HD.out hlt
            have HG := Lib.hid (fun W (hb : Below w.heap.size w W) => dat_below hg e0 e1 e2 e3 hb)
            clear e0 e1 e2 e3
            obtain ⟨s', hok', hdo⟩ := does_of HP'.out (by omega) c t k b u1 u2
            have HOK := Lib.hid hok'
            have HDo := Lib.hid hdo
            clear hok' hdo u1 u2 hlt
            go_upto_region 8 with fail
            have BD : Hid (Below wr.heap.size wr wr.drew) := (Below.refl _ _).drew
            have LD : Hid (Below w.heap.size w wr.drew) := HP.out.low.trans (BD.out.mono HP.out.low.size)
            have HNE := Lib.hid (HP.out.at'.ne HP.out.box).2
            obtain ⟨c0, c1, c2, c3, c4⟩ := rcells_at HP.out.box
            refine wp_region_held_drew (S := (fun W => W.cell? ⟨g, off + i * 4, none⟩ = some (.int .i64 c) ∧ W.cell? ⟨g, off + i * 4 + 1, none⟩ = some (.int .i64 t) ∧ W.cell? ⟨g, off + i * 4 + 2, none⟩ = some (.int .u64 k) ∧ W.cell? ⟨g, off + i * 4 + 3, none⟩ = some (.int .u64 b))) (by kernel_rfl) ?_ (fun hHeld => ?_)
            · (try dsimp only)
              exact HG.out _ LD.out
            refine wpAnyH_take (i := 0) (oi := ?_) (v := ?_) ?_ (by kernel_rfl) (by kernel_rfl) (by kernel_rfl) ?_ (Or.inl ⟨?_, ?_⟩) (by assumption) ?_
            rotate_left 2
            · simp only [List.getElem?_toArray, List.getElem?_cons_succ, List.getElem?_cons_zero] <;> rfl
            · exact fun _ _ _ h => h
            · rfl
            · (intro w hSw; (try dsimp only at hSw); go_simp; try (with_reducible rfl))
            try simp only [Act.put, List.setIfInBounds_toArray, List.set_cons_zero, List.set_cons_succ]
            refine wpAnyH_take (i := 2) (oi := ?_) (v := ?_) ?_ (by kernel_rfl) (by kernel_rfl) (by kernel_rfl) ?_ (Or.inl ⟨?_, ?_⟩) (by assumption) ?_
            rotate_left 2
            · simp only [List.getElem?_toArray, List.getElem?_cons_succ, List.getElem?_cons_zero] <;> rfl
            · exact fun _ _ _ h => h
            · rfl
            · (intro w hSw; (try dsimp only at hSw); go_simp; try (with_reducible rfl))
            try simp only [Act.put, List.setIfInBounds_toArray, List.set_cons_zero, List.set_cons_succ]
            refine wpAnyH_take (i := 3) (oi := ?_) (v := ?_) ?_ (by kernel_rfl) (by kernel_rfl) (by kernel_rfl) ?_ (Or.inl ⟨?_, ?_⟩) (by assumption) ?_
            rotate_left 2
            · simp only [List.getElem?_toArray, List.getElem?_cons_succ, List.getElem?_cons_zero] <;> rfl
            · exact fun _ _ _ h => h
            · rfl
            · (intro w hSw; (try dsimp only at hSw); go_simp; try (with_reducible rfl))
            try simp only [Act.put, List.setIfInBounds_toArray, List.set_cons_zero, List.set_cons_succ]
            refine wpAnyH_take (i := 4) (oi := ?_) (v := ?_) ?_ (by kernel_rfl) (by kernel_rfl) (by kernel_rfl) ?_ (Or.inl ⟨?_, ?_⟩) (by assumption) ?_
            rotate_left 2
            · simp only [List.getElem?_toArray, List.getElem?_cons_succ, List.getElem?_cons_zero] <;> rfl
            · exact fun _ _ _ h => h
            · rfl
            · (intro w hSw; (try dsimp only at hSw); go_simp; try (with_reducible rfl))
            try simp only [Act.put, List.setIfInBounds_toArray, List.set_cons_zero, List.set_cons_succ]
            refine wpAnyH_take (i := 5) (oi := ?_) (v := ?_) ?_ (by kernel_rfl) (by kernel_rfl) (by kernel_rfl) ?_ (Or.inl ⟨?_, ?_⟩) (by assumption) ?_
            rotate_left 2
            · simp only [List.getElem?_toArray, List.getElem?_cons_succ, List.getElem?_cons_zero] <;> rfl
            · exact fun _ _ _ h => h
            · rfl
            · (intro w hSw; (try dsimp only at hSw); go_simp; try (with_reducible rfl))
            try simp only [Act.put, List.setIfInBounds_toArray, List.set_cons_zero, List.set_cons_succ]
            refine wpAnyH_ready (rs := [1]) (by kernel_rfl) (by simp) ?_
            refine AllReadyH.cons (o := _) (by simp only [List.getElem?_toArray, List.getElem?_cons_succ, List.getElem?_cons_zero] <;> rfl) (fun K hK => ?_) ?_
            · go_simp
              refine hK.out _ _ ?_ (fun hHeld => ?_)
              · (try dsimp only)
                exact HG.out _ LD.out
              clear hK K
              try simp only [Act.put, List.setIfInBounds_toArray, List.set_cons_zero, List.set_cons_succ]
              refine wpAnyH_ready (rs := [6]) (by kernel_rfl) (by simp) ?_
              refine AllReadyH.cons (o := _) (by simp only [List.getElem?_toArray, List.getElem?_cons_succ, List.getElem?_cons_zero] <;> rfl) (fun K hK => ?_) ?_
              · go_simp
                refine (HDo.out _ (HP.out.at'.below BD.out) (HP.out.row.below BD.out)).mono ?_
                rintro e w5 ⟨r', hr1, hr2, v', rfl, ht5, hA5, hR5⟩
                obtain ⟨xa, xn, xc, rfl⟩ := hR5.form
                have X5 := Lib.hid (ht5.other (HP.out.box.below BD.out) (by simp; exact HNE.out))
                have L5 := Lib.hid (ht5.below LD.out HS.out LD.out.size)
                obtain ⟨d0, d1, d2, d3, d4⟩ := rcells_at X5.out
                have z1 := fun i => X5.out.thawed i
                go_wp2_with fail
                refine hK.out _ _ ?_ (fun hHeld => ?_)
                · (try dsimp only)
                  exact HG.out _ L5.out
                clear hK K
                try simp only [Act.put, List.setIfInBounds_toArray, List.set_cons_zero, List.set_cons_succ]
                refine wpAnyH_take (i := 7) (oi := ?_) (v := ?_) ?_ (by kernel_rfl) (by kernel_rfl) (by kernel_rfl) ?_ (Or.inl ⟨?_, ?_⟩) (by assumption) ?_
                rotate_left 2
                · simp only [List.getElem?_toArray, List.getElem?_cons_succ, List.getElem?_cons_zero] <;> rfl
                · exact fun _ _ _ h => h
                · rfl
                · (intro w hSw; (try dsimp only at hSw); go_simp; try (with_reducible rfl))
                try simp only [Act.put, List.setIfInBounds_toArray, List.set_cons_zero, List.set_cons_succ]
                refine wpAnyH_take (i := 8) (oi := ?_) (v := ?_) ?_ (by kernel_rfl) (by kernel_rfl) (by kernel_rfl) ?_ (Or.inl ⟨?_, ?_⟩) (by assumption) ?_
                rotate_left 2
                · simp only [List.getElem?_toArray, List.getElem?_cons_succ, List.getElem?_cons_zero] <;> rfl
                · exact fun _ _ _ h => h
                · rfl
                · (intro w hSw; (try dsimp only at hSw); go_simp; try (with_reducible rfl))
                try simp only [Act.put, List.setIfInBounds_toArray, List.set_cons_zero, List.set_cons_succ]
                refine wpAnyH_take (i := 9) (oi := ?_) (v := ?_) ?_ (by kernel_rfl) (by kernel_rfl) (by kernel_rfl) ?_ (Or.inl ⟨?_, ?_⟩) (by assumption) ?_
                rotate_left 2
                · simp only [List.getElem?_toArray, List.getElem?_cons_succ, List.getElem?_cons_zero] <;> rfl
                · exact fun _ _ _ h => h
                · rfl
                · (intro w hSw; (try dsimp only at hSw); go_simp; try (with_reducible rfl))
                try simp only [Act.put, List.setIfInBounds_toArray, List.set_cons_zero, List.set_cons_succ]
                refine wpAnyH_ready (rs := [10]) (by kernel_rfl) (by simp) ?_
                refine AllReadyH.cons (o := _) (by simp only [List.getElem?_toArray, List.getElem?_cons_succ, List.getElem?_cons_zero] <;> rfl) (fun K hK => ?_) ?_
                · go_simp
                  refine hK.out _ _ ?_ (fun hHeld => ?_)
                  · (try dsimp only)
                    exact HG.out _ (set5_below L5.out HQ.out _ _)
                  clear hK K
                  try simp only [Act.put, List.setIfInBounds_toArray, List.set_cons_zero, List.set_cons_succ]
                  refine wpAnyH_done (by kernel_rfl) ?_ _
                  clear d0 d1 d2 d3 d4 z1 c0 c1 c2 c3 c4
                  have HT5 : Hid (Turned [a, m] wr w5) := (Turned.of_below BD.out).trans ht5
                  have HA5 := Lib.hid hA5
                  have HR5 := Lib.hid hR5
                  have HRL := Lib.hid hr1
                  have HLE := Lib.hid hr2
                  obtain ⟨W7, hW7⟩ : ∃ W, W = (((((w5.setCell ⟨q, 0, none⟩ (.int .u64 r'.gk)).setCell ⟨q, 1, none⟩ (.int .u64 r'.gb)).setCell ⟨q, 2, none⟩ (.int .u64 r'.hk)).setCell ⟨q, 3, none⟩ (.int .u64 r'.hb)).setCell ⟨q, 4, none⟩ (.slice xa xn xc)) := ⟨_, rfl⟩
                  rw [← hW7]
                  replace hW7 : W7 = set5 w5 q r' (.slice xa xn xc) := hW7
                  have P7 : Hid (Below w.heap.size w W7 ∧ Side p a m q (i + 1) s' r' (.slice xa xn xc) W7) := by
                    rw [hW7]
                    exact ⟨set5_below L5.out HQ.out r' _, HOK.out, HRL.out, by have := HLE.out; have := HP.out.len; omega, HA5.out.set5 X5.out r' _, set5_fresh X5.out r' _, HR5.out.set5' X5.out r' _⟩
                  clear hW7 hA5 hR5 ht5 hr1 hr2
                  go_wp2_with fail
                  go_roundw
                  case rel => exact ⟨i + 1, s', r', .slice xa xn xc, by have := HI.out; omega, by go_num, P7.out.1, by rw [show ((i + 1 : Nat) : Int) = (i : Int) + 1 from by omega]; exact P7.out.2⟩
                  case measure => have := HI.out; simp [intOf]; omega
                exact AllReadyH.nil
              exact AllReadyH.nil
            exact AllReadyH.nil
          · obtain rfl : i = len := by omega
            have hfin := HP'.out.more (M := 100) (by have := HLN.out.1; omega)
            go_wp2_with fail
            go_meet
            exact ⟨s, r, v, HP.out.low, hfin⟩
    case rest =>
      as_aux_lemma =>
        obtain ⟨s, r, v, hL, hP⟩ := hcut
        have HL := Lib.hid hL
        have HP := Lib.hid hP
        obtain ⟨W4, hW4⟩ : ∃ W, W = wc := ⟨_, rfl⟩
        rw [← hW4] at HL HP ⊢
        clear hL hP P2 L2 hW4
        obtain ⟨va, vn, vc, rfl⟩ := HP.out.row.form
        go_wp2_with fail
        refine (copyP (x := ⟨p, a, m⟩) HP.out.at').mono ?_
        rintro e w5 ⟨⟨p2, a2, m2⟩, hY, rfl, hb5, hat5⟩
        have A12 := Lib.hid (Apart.old (AtP.under (x := ⟨p, a, m⟩) HP.out.at') hY)
        have HP5 := Lib.hid (HP.out.below hb5)
        have HL5 := Lib.hid (Below.step HL.out hb5)
        have HA5 := Lib.hid hat5
        have HY : Hid ((⟨p2, a2, m2⟩ : Pl).Above w.heap.size) := ⟨Nat.le_trans HL.out.size hY.1, Nat.le_trans HL.out.size hY.2.1, Nat.le_trans HL.out.size hY.2.2⟩
        clear hY hb5 hat5
        obtain ⟨c0, c1, c2, c3, c4⟩ := rcells_at HP5.out.box
        obtain ⟨q2, hq2⟩ : ∃ q2, q2 = w5.heap.size := ⟨_, rfl⟩
        obtain ⟨W6, hW6⟩ : ∃ W, W = w5.alloc (.cells (rcells r (.slice va vn vc)) TR) := ⟨_, rfl⟩
        go_upto_region 11 with fail
        change Code.wp _ _ _ _ (w5.alloc (.cells (rcells r (.slice va vn vc)) TR))
        rw [← hW6, ← hq2]
        have T6 : Hid (Two w p a m q p2 a2 m2 q2 100 s r (.slice va vn vc) s r (.slice va vn vc) W6) := by
          show Two _ _ _ _ _ _ _ _ _ _ _ _ _ _ _ _ _
          have hbn : Below w5.heap.size w5 W6 := by rw [hW6]; exact Below.new (Below.refl _ _) _
          have h1 := HP5.out.below hbn
          exact ⟨Below.step HL5.out hbn, h1, h1.ok, h1.rel, h1.len, At.below HA5.out hbn, by rw [hW6]; exact Fresh.new _ _ _ _ hq2.symm, h1.row⟩
        have LI : Hid (Lie w p a m q p2 a2 m2 q2) := ⟨HS.out, HY.out.bs, HQ.out, by rw [hq2]; exact HL5.out.size, by rw [hq2]; exact Nat.ne_of_lt HP5.out.box.lt, A12.out.1, A12.out.2⟩
        clear hW6 hq2 c0 c1 c2 c3 c4 HP HP5 HL HL5 HA5
        go_wp2_with fail
        go_loopw [14] (fun jv wr => ∃ (j : Nat) (s : Pu) (r : Rp) (v : Value) (s2 : Pu) (r2 : Rp) (v2 : Value), j ≤ 100 ∧ jv = .int .i64 j ∧ Two w p a m q p2 a2 m2 q2 (100 + 2 * (j : Int)) s r v s2 r2 v2 wr) (fun jv _ => 100 - (intOf jv).toNat)
        case atStart => exact ⟨0, _, _, _, _, _, _, by omega, rfl, T6.out⟩
        case round =>
          obtain ⟨j, s, r, v, s2, r2, v2, hj, rfl, hT⟩ := hrel
          have T := Lib.hid hT
          clear hT T6
          obtain ⟨va, vn, vc, rfl⟩ := T.out.one.row.form
          obtain ⟨ya, yn, yc, rfl⟩ := T.out.two.row.form
          have j0 : (0 : Int) ≤ (j : Int) := Int.natCast_nonneg _
          have hcs : (j < la ∧ j < lb') ∨ (j < la ∧ ¬ j < lb') ∨ (¬ j < la ∧ j < lb') ∨ (¬ j < la ∧ ¬ j < lb') := by omega
          rcases hcs with ⟨hja, hjb⟩ | ⟨hja, hjb⟩ | ⟨hja, hjb⟩ | ⟨hja, hjb⟩
          · as_aux_lemma =>
              have ja1 : (j : Int) < (la : Int) := by omega
              have ja2 : decide (j < la) = true := decide_eq_true hja
              have jb1 : (j : Int) < (lb' : Int) := by omega
              have jb2 : decide (j < lb') = true := decide_eq_true hjb
              have j100 : (j : Int) < 100 := by have := HLN.out.2; omega
              have HJA := Lib.hid hja
              have HJB := Lib.hid hjb
              clear hja hjb
              obtain ⟨g, off, rfl, hg, c, t, k, b, u1, u2, e0, e1, e2, e3⟩ := deed_at HDA.out HJA.out
              have HG := Lib.hid (fun W (hb : Below w.heap.size w W) => dat_below hg e0 e1 e2 e3 hb)
              clear e0 e1 e2 e3
              obtain ⟨s', hok', hdo⟩ := does_of T.out.one (by omega) c t k b u1 u2
              have HOK := Lib.hid hok'
              have HDo := Lib.hid hdo
              clear hok' hdo u1 u2
              go_upto_region 16 with fail
              have BD : Hid (Below wr.heap.size wr wr.drew) := (Below.refl _ _).drew
              have LD : Hid (Below w.heap.size w wr.drew) := T.out.low.trans (BD.out.mono T.out.low.size)
              have HNE := Lib.hid (T.out.one.at'.ne T.out.one.box).2
              obtain ⟨c0, c1, c2, c3, c4⟩ := rcells_at T.out.one.box
              refine wp_region_held_drew (S := (fun W => W.cell? ⟨g, off + j * 4, none⟩ = some (.int .i64 c) ∧ W.cell? ⟨g, off + j * 4 + 1, none⟩ = some (.int .i64 t) ∧ W.cell? ⟨g, off + j * 4 + 2, none⟩ = some (.int .u64 k) ∧ W.cell? ⟨g, off + j * 4 + 3, none⟩ = some (.int .u64 b))) (by kernel_rfl) ?_ (fun hHeld => ?_)
              · (try dsimp only)
                exact HG.out _ LD.out
              refine wpAnyH_take (i := 0) (oi := ?_) (v := ?_) ?_ (by kernel_rfl) (by kernel_rfl) (by kernel_rfl) ?_ (Or.inl ⟨?_, ?_⟩) (by assumption) ?_
              rotate_left 2
              · simp only [List.getElem?_toArray, List.getElem?_cons_succ, List.getElem?_cons_zero] <;> rfl
              · exact fun _ _ _ h => h
              · rfl
              · (intro w hSw; (try dsimp only at hSw); go_simp; try (with_reducible rfl))
              try simp only [Act.put, List.setIfInBounds_toArray, List.set_cons_zero, List.set_cons_succ]
              refine wpAnyH_take (i := 2) (oi := ?_) (v := ?_) ?_ (by kernel_rfl) (by kernel_rfl) (by kernel_rfl) ?_ (Or.inl ⟨?_, ?_⟩) (by assumption) ?_
              rotate_left 2
              · simp only [List.getElem?_toArray, List.getElem?_cons_succ, List.getElem?_cons_zero] <;> rfl
              · exact fun _ _ _ h => h
              · rfl
              · (intro w hSw; (try dsimp only at hSw); go_simp; try (with_reducible rfl))
              try simp only [Act.put, List.setIfInBounds_toArray, List.set_cons_zero, List.set_cons_succ]
              refine wpAnyH_take (i := 3) (oi := ?_) (v := ?_) ?_ (by kernel_rfl) (by kernel_rfl) (by kernel_rfl) ?_ (Or.inl ⟨?_, ?_⟩) (by assumption) ?_
              rotate_left 2
              · simp only [List.getElem?_toArray, List.getElem?_cons_succ, List.getElem?_cons_zero] <;> rfl
              · exact fun _ _ _ h => h
              · rfl
              · (intro w hSw; (try dsimp only at hSw); go_simp; try (with_reducible rfl))
              try simp only [Act.put, List.setIfInBounds_toArray, List.set_cons_zero, List.set_cons_succ]
              refine wpAnyH_take (i := 4) (oi := ?_) (v := ?_) ?_ (by kernel_rfl) (by kernel_rfl) (by kernel_rfl) ?_ (Or.inl ⟨?_, ?_⟩) (by assumption) ?_
              rotate_left 2
              · simp only [List.getElem?_toArray, List.getElem?_cons_succ, List.getElem?_cons_zero] <;> rfl
              · exact fun _ _ _ h => h
              · rfl
              · (intro w hSw; (try dsimp only at hSw); go_simp; try (with_reducible rfl))
              try simp only [Act.put, List.setIfInBounds_toArray, List.set_cons_zero, List.set_cons_succ]
              refine wpAnyH_take (i := 5) (oi := ?_) (v := ?_) ?_ (by kernel_rfl) (by kernel_rfl) (by kernel_rfl) ?_ (Or.inl ⟨?_, ?_⟩) (by assumption) ?_
              rotate_left 2
              · simp only [List.getElem?_toArray, List.getElem?_cons_succ, List.getElem?_cons_zero] <;> rfl
              · exact fun _ _ _ h => h
              · rfl
              · (intro w hSw; (try dsimp only at hSw); go_simp; try (with_reducible rfl))
              try simp only [Act.put, List.setIfInBounds_toArray, List.set_cons_zero, List.set_cons_succ]
              refine wpAnyH_ready (rs := [1]) (by kernel_rfl) (by simp) ?_
              refine AllReadyH.cons (o := _) (by simp only [List.getElem?_toArray, List.getElem?_cons_succ, List.getElem?_cons_zero] <;> rfl) (fun K hK => ?_) ?_
              · go_simp
                refine hK.out _ _ ?_ (fun hHeld => ?_)
                · (try dsimp only)
                  exact HG.out _ LD.out
                clear hK K
                try simp only [Act.put, List.setIfInBounds_toArray, List.set_cons_zero, List.set_cons_succ]
                refine wpAnyH_ready (rs := [6]) (by kernel_rfl) (by simp) ?_
                refine AllReadyH.cons (o := _) (by simp only [List.getElem?_toArray, List.getElem?_cons_succ, List.getElem?_cons_zero] <;> rfl) (fun K hK => ?_) ?_
                · go_simp
                  refine (HDo.out _ (T.out.one.at'.below BD.out) (T.out.one.row.below BD.out)).mono ?_
                  rintro e w5 ⟨ro, hr1, hr2, v', rfl, ht5, hA5, hR5⟩
                  obtain ⟨xp, xm, xd, rfl⟩ := hR5.form
                  have X5 := Lib.hid (ht5.other (T.out.one.box.below BD.out) (by simp; exact HNE.out))
                  have L5 := Lib.hid (ht5.below LD.out HS.out LD.out.size)
                  obtain ⟨d0, d1, d2, d3, d4⟩ := rcells_at X5.out
                  have z1 := fun i => X5.out.thawed i
                  go_wp2_with fail
                  refine hK.out _ _ ?_ (fun hHeld => ?_)
                  · (try dsimp only)
                    exact HG.out _ L5.out
                  clear hK K
                  try simp only [Act.put, List.setIfInBounds_toArray, List.set_cons_zero, List.set_cons_succ]
                  refine wpAnyH_take (i := 7) (oi := ?_) (v := ?_) ?_ (by kernel_rfl) (by kernel_rfl) (by kernel_rfl) ?_ (Or.inl ⟨?_, ?_⟩) (by assumption) ?_
                  rotate_left 2
                  · simp only [List.getElem?_toArray, List.getElem?_cons_succ, List.getElem?_cons_zero] <;> rfl
                  · exact fun _ _ _ h => h
                  · rfl
                  · (intro w hSw; (try dsimp only at hSw); go_simp; try (with_reducible rfl))
                  try simp only [Act.put, List.setIfInBounds_toArray, List.set_cons_zero, List.set_cons_succ]
                  refine wpAnyH_take (i := 8) (oi := ?_) (v := ?_) ?_ (by kernel_rfl) (by kernel_rfl) (by kernel_rfl) ?_ (Or.inl ⟨?_, ?_⟩) (by assumption) ?_
                  rotate_left 2
                  · simp only [List.getElem?_toArray, List.getElem?_cons_succ, List.getElem?_cons_zero] <;> rfl
                  · exact fun _ _ _ h => h
                  · rfl
                  · (intro w hSw; (try dsimp only at hSw); go_simp; try (with_reducible rfl))
                  try simp only [Act.put, List.setIfInBounds_toArray, List.set_cons_zero, List.set_cons_succ]
                  refine wpAnyH_take (i := 9) (oi := ?_) (v := ?_) ?_ (by kernel_rfl) (by kernel_rfl) (by kernel_rfl) ?_ (Or.inl ⟨?_, ?_⟩) (by assumption) ?_
                  rotate_left 2
                  · simp only [List.getElem?_toArray, List.getElem?_cons_succ, List.getElem?_cons_zero] <;> rfl
                  · exact fun _ _ _ h => h
                  · rfl
                  · (intro w hSw; (try dsimp only at hSw); go_simp; try (with_reducible rfl))
                  try simp only [Act.put, List.setIfInBounds_toArray, List.set_cons_zero, List.set_cons_succ]
                  refine wpAnyH_ready (rs := [10]) (by kernel_rfl) (by simp) ?_
                  refine AllReadyH.cons (o := _) (by simp only [List.getElem?_toArray, List.getElem?_cons_succ, List.getElem?_cons_zero] <;> rfl) (fun K hK => ?_) ?_
                  · go_simp
                    refine hK.out _ _ ?_ (fun hHeld => ?_)
                    · (try dsimp only)
                      exact HG.out _ (set5_below L5.out HQ.out _ _)
                    clear hK K
                    try simp only [Act.put, List.setIfInBounds_toArray, List.set_cons_zero, List.set_cons_succ]
                    refine wpAnyH_take (i := 11) (oi := ?_) (v := ?_) ?_ (by kernel_rfl) (by kernel_rfl) (by kernel_rfl) ?_ (Or.inl ⟨?_, ?_⟩) (by assumption) ?_
                    rotate_left 2
                    · simp only [List.getElem?_toArray, List.getElem?_cons_succ, List.getElem?_cons_zero] <;> rfl
                    · exact fun _ _ _ h => h
                    · rfl
                    · (intro w hSw; (try dsimp only at hSw); go_simp; try (with_reducible rfl))
                    try simp only [Act.put, List.setIfInBounds_toArray, List.set_cons_zero, List.set_cons_succ]
                    refine wpAnyH_done (by kernel_rfl) ?_ _
                    clear d0 d1 d2 d3 d4 z1 c0 c1 c2 c3 c4
                    have HT5 : Hid (Turned [a, m] wr w5) := (Turned.of_below BD.out).trans ht5
                    have HA5 := Lib.hid hA5
                    have HR5 := Lib.hid hR5
                    have HRL := Lib.hid hr1
                    have HLE := Lib.hid hr2
                    obtain ⟨W7, hW7⟩ : ∃ W, W = (((((w5.setCell ⟨q, 0, none⟩ (.int .u64 ro.gk)).setCell ⟨q, 1, none⟩ (.int .u64 ro.gb)).setCell ⟨q, 2, none⟩ (.int .u64 ro.hk)).setCell ⟨q, 3, none⟩ (.int .u64 ro.hb)).setCell ⟨q, 4, none⟩ (.slice xp xm xd)) := ⟨_, rfl⟩
                    rw [← hW7]
                    replace hW7 : W7 = set5 w5 q ro (.slice xp xm xd) := hW7
                    have TA : Hid (Two w p a m q p2 a2 m2 q2 (100 + 2 * (j : Int) + 1) s' ro (.slice xp xm xd) s2 r2 (.slice ya yn yc) W7) := by
                      show Two _ _ _ _ _ _ _ _ _ _ _ _ _ _ _ _ _
                      rw [hW7]
                      exact T.out.opOne LI.out rfl HT5.out HA5.out HR5.out HOK.out HRL.out HLE.out
                    clear hW7 hA5 hR5 ht5 hr1 hr2 HG HT5 HA5 HR5 HRL HLE HOK HDo BD LD HNE X5 L5
                    obtain ⟨Wk, hWk⟩ : ∃ W, W = W7 := ⟨_, rfl⟩
                    rw [← hWk] at TA ⊢
                    clear hWk
                    obtain ⟨g, off, rfl, hg, c, t, k, b, u1, u2, e0, e1, e2, e3⟩ := deed_at HDB.out HJB.out
                    have HG := Lib.hid (fun W (hb : Below w.heap.size w W) => dat_below hg e0 e1 e2 e3 hb)
                    clear e0 e1 e2 e3
                    obtain ⟨s2', hok', hdo⟩ := does_of TA.out.two (by omega) c t k b u1 u2
                    have HOK := Lib.hid hok'
                    have HDo := Lib.hid hdo
                    have HS := Lib.hid LI.out.s2
                    have HQ := Lib.hid LI.out.q2'
                    clear hok' hdo u1 u2
                    go_upto_region 18 with fail
                    have BD : Hid (Below Wk.heap.size Wk Wk.drew) := (Below.refl _ _).drew
                    have LD : Hid (Below w.heap.size w Wk.drew) := TA.out.low.trans (BD.out.mono TA.out.low.size)
                    have HNE := Lib.hid (TA.out.two.at'.ne TA.out.two.box).2
                    obtain ⟨c0, c1, c2, c3, c4⟩ := rcells_at TA.out.two.box
                    refine wp_region_held_drew (S := (fun W => W.cell? ⟨g, off + j * 4, none⟩ = some (.int .i64 c) ∧ W.cell? ⟨g, off + j * 4 + 1, none⟩ = some (.int .i64 t) ∧ W.cell? ⟨g, off + j * 4 + 2, none⟩ = some (.int .u64 k) ∧ W.cell? ⟨g, off + j * 4 + 3, none⟩ = some (.int .u64 b))) (by kernel_rfl) ?_ (fun hHeld => ?_)
                    · (try dsimp only)
                      exact HG.out _ LD.out
                    refine wpAnyH_take (i := 0) (oi := ?_) (v := ?_) ?_ (by kernel_rfl) (by kernel_rfl) (by kernel_rfl) ?_ (Or.inl ⟨?_, ?_⟩) (by assumption) ?_
                    rotate_left 2
                    · simp only [List.getElem?_toArray, List.getElem?_cons_succ, List.getElem?_cons_zero] <;> rfl
                    · exact fun _ _ _ h => h
                    · rfl
                    · (intro w hSw; (try dsimp only at hSw); go_simp; try (with_reducible rfl))
                    try simp only [Act.put, List.setIfInBounds_toArray, List.set_cons_zero, List.set_cons_succ]
                    refine wpAnyH_take (i := 2) (oi := ?_) (v := ?_) ?_ (by kernel_rfl) (by kernel_rfl) (by kernel_rfl) ?_ (Or.inl ⟨?_, ?_⟩) (by assumption) ?_
                    rotate_left 2
                    · simp only [List.getElem?_toArray, List.getElem?_cons_succ, List.getElem?_cons_zero] <;> rfl
                    · exact fun _ _ _ h => h
                    · rfl
                    · (intro w hSw; (try dsimp only at hSw); go_simp; try (with_reducible rfl))
                    try simp only [Act.put, List.setIfInBounds_toArray, List.set_cons_zero, List.set_cons_succ]
                    refine wpAnyH_take (i := 3) (oi := ?_) (v := ?_) ?_ (by kernel_rfl) (by kernel_rfl) (by kernel_rfl) ?_ (Or.inl ⟨?_, ?_⟩) (by assumption) ?_
                    rotate_left 2
                    · simp only [List.getElem?_toArray, List.getElem?_cons_succ, List.getElem?_cons_zero] <;> rfl
                    · exact fun _ _ _ h => h
                    · rfl
                    · (intro w hSw; (try dsimp only at hSw); go_simp; try (with_reducible rfl))
                    try simp only [Act.put, List.setIfInBounds_toArray, List.set_cons_zero, List.set_cons_succ]
                    refine wpAnyH_take (i := 4) (oi := ?_) (v := ?_) ?_ (by kernel_rfl) (by kernel_rfl) (by kernel_rfl) ?_ (Or.inl ⟨?_, ?_⟩) (by assumption) ?_
                    rotate_left 2
                    · simp only [List.getElem?_toArray, List.getElem?_cons_succ, List.getElem?_cons_zero] <;> rfl
                    · exact fun _ _ _ h => h
                    · rfl
                    · (intro w hSw; (try dsimp only at hSw); go_simp; try (with_reducible rfl))
                    try simp only [Act.put, List.setIfInBounds_toArray, List.set_cons_zero, List.set_cons_succ]
                    refine wpAnyH_take (i := 5) (oi := ?_) (v := ?_) ?_ (by kernel_rfl) (by kernel_rfl) (by kernel_rfl) ?_ (Or.inl ⟨?_, ?_⟩) (by assumption) ?_
                    rotate_left 2
                    · simp only [List.getElem?_toArray, List.getElem?_cons_succ, List.getElem?_cons_zero] <;> rfl
                    · exact fun _ _ _ h => h
                    · rfl
                    · (intro w hSw; (try dsimp only at hSw); go_simp; try (with_reducible rfl))
                    try simp only [Act.put, List.setIfInBounds_toArray, List.set_cons_zero, List.set_cons_succ]
                    refine wpAnyH_ready (rs := [1]) (by kernel_rfl) (by simp) ?_
                    refine AllReadyH.cons (o := _) (by simp only [List.getElem?_toArray, List.getElem?_cons_succ, List.getElem?_cons_zero] <;> rfl) (fun K hK => ?_) ?_
                    · go_simp
                      refine hK.out _ _ ?_ (fun hHeld => ?_)
                      · (try dsimp only)
                        exact HG.out _ LD.out
                      clear hK K
                      try simp only [Act.put, List.setIfInBounds_toArray, List.set_cons_zero, List.set_cons_succ]
                      refine wpAnyH_ready (rs := [6]) (by kernel_rfl) (by simp) ?_
                      refine AllReadyH.cons (o := _) (by simp only [List.getElem?_toArray, List.getElem?_cons_succ, List.getElem?_cons_zero] <;> rfl) (fun K hK => ?_) ?_
                      · go_simp
                        refine (HDo.out _ (TA.out.two.at'.below BD.out) (TA.out.two.row.below BD.out)).mono ?_
                        rintro e w5 ⟨r', hr1, hr2, v', rfl, ht5, hA5, hR5⟩
                        obtain ⟨xa, xn, xc, rfl⟩ := hR5.form
                        have X5 := Lib.hid (ht5.other (TA.out.two.box.below BD.out) (by simp; exact HNE.out))
                        have L5 := Lib.hid (ht5.below LD.out HS.out LD.out.size)
                        obtain ⟨d0, d1, d2, d3, d4⟩ := rcells_at X5.out
                        have z1 := fun i => X5.out.thawed i
                        go_wp2_with fail
                        refine hK.out _ _ ?_ (fun hHeld => ?_)
                        · (try dsimp only)
                          exact HG.out _ L5.out
                        clear hK K
                        try simp only [Act.put, List.setIfInBounds_toArray, List.set_cons_zero, List.set_cons_succ]
                        refine wpAnyH_take (i := 7) (oi := ?_) (v := ?_) ?_ (by kernel_rfl) (by kernel_rfl) (by kernel_rfl) ?_ (Or.inl ⟨?_, ?_⟩) (by assumption) ?_
                        rotate_left 2
                        · simp only [List.getElem?_toArray, List.getElem?_cons_succ, List.getElem?_cons_zero] <;> rfl
                        · exact fun _ _ _ h => h
                        · rfl
                        · (intro w hSw; (try dsimp only at hSw); go_simp; try (with_reducible rfl))
                        try simp only [Act.put, List.setIfInBounds_toArray, List.set_cons_zero, List.set_cons_succ]
                        refine wpAnyH_take (i := 8) (oi := ?_) (v := ?_) ?_ (by kernel_rfl) (by kernel_rfl) (by kernel_rfl) ?_ (Or.inl ⟨?_, ?_⟩) (by assumption) ?_
                        rotate_left 2
                        · simp only [List.getElem?_toArray, List.getElem?_cons_succ, List.getElem?_cons_zero] <;> rfl
                        · exact fun _ _ _ h => h
                        · rfl
                        · (intro w hSw; (try dsimp only at hSw); go_simp; try (with_reducible rfl))
                        try simp only [Act.put, List.setIfInBounds_toArray, List.set_cons_zero, List.set_cons_succ]
                        refine wpAnyH_take (i := 9) (oi := ?_) (v := ?_) ?_ (by kernel_rfl) (by kernel_rfl) (by kernel_rfl) ?_ (Or.inl ⟨?_, ?_⟩) (by assumption) ?_
                        rotate_left 2
                        · simp only [List.getElem?_toArray, List.getElem?_cons_succ, List.getElem?_cons_zero] <;> rfl
                        · exact fun _ _ _ h => h
                        · rfl
                        · (intro w hSw; (try dsimp only at hSw); go_simp; try (with_reducible rfl))
                        try simp only [Act.put, List.setIfInBounds_toArray, List.set_cons_zero, List.set_cons_succ]
                        refine wpAnyH_ready (rs := [10]) (by kernel_rfl) (by simp) ?_
                        refine AllReadyH.cons (o := _) (by simp only [List.getElem?_toArray, List.getElem?_cons_succ, List.getElem?_cons_zero] <;> rfl) (fun K hK => ?_) ?_
                        · go_simp
                          refine hK.out _ _ ?_ (fun hHeld => ?_)
                          · (try dsimp only)
                            exact HG.out _ (set5_below L5.out HQ.out _ _)
                          clear hK K
                          try simp only [Act.put, List.setIfInBounds_toArray, List.set_cons_zero, List.set_cons_succ]
                          refine wpAnyH_take (i := 11) (oi := ?_) (v := ?_) ?_ (by kernel_rfl) (by kernel_rfl) (by kernel_rfl) ?_ (Or.inl ⟨?_, ?_⟩) (by assumption) ?_
                          rotate_left 2
                          · simp only [List.getElem?_toArray, List.getElem?_cons_succ, List.getElem?_cons_zero] <;> rfl
                          · exact fun _ _ _ h => h
                          · rfl
                          · (intro w hSw; (try dsimp only at hSw); go_simp; try (with_reducible rfl))
                          try simp only [Act.put, List.setIfInBounds_toArray, List.set_cons_zero, List.set_cons_succ]
                          refine wpAnyH_done (by kernel_rfl) ?_ _
                          clear d0 d1 d2 d3 d4 z1 c0 c1 c2 c3 c4
                          have HT5 : Hid (Turned [a2, m2] Wk w5) := (Turned.of_below BD.out).trans ht5
                          have HA5 := Lib.hid hA5
                          have HR5 := Lib.hid hR5
                          have HRL := Lib.hid hr1
                          have HLE := Lib.hid hr2
                          obtain ⟨W7, hW7⟩ : ∃ W, W = (((((w5.setCell ⟨q2, 0, none⟩ (.int .u64 r'.gk)).setCell ⟨q2, 1, none⟩ (.int .u64 r'.gb)).setCell ⟨q2, 2, none⟩ (.int .u64 r'.hk)).setCell ⟨q2, 3, none⟩ (.int .u64 r'.hb)).setCell ⟨q2, 4, none⟩ (.slice xa xn xc)) := ⟨_, rfl⟩
                          rw [← hW7]
                          replace hW7 : W7 = set5 w5 q2 r' (.slice xa xn xc) := hW7
                          have TT : Hid (Two w p a m q p2 a2 m2 q2 (100 + 2 * (j : Int) + 1 + 1) s' ro (.slice xp xm xd) s2' r' (.slice xa xn xc) W7) := by
                            show Two _ _ _ _ _ _ _ _ _ _ _ _ _ _ _ _ _
                            rw [hW7]
                            exact TA.out.opTwo LI.out rfl HT5.out HA5.out HR5.out HOK.out HRL.out HLE.out
                          clear hW7 hA5 hR5 ht5 hr1 hr2 HG
                          obtain ⟨c0, c1, c2, c3, c4⟩ := rcells_at TT.out.one.box
                          go_wp2_with fail
                          refine (looks_any TT.out.one.at' TT.out.one.ok TT.out.one.rel TT.out.one.row (by have := TT.out.one.len; omega)).mono ?_
                          rintro e w8 ⟨rfl, hb8⟩
                          have T8 := Lib.hid (TT.out.below hb8)
                          clear hb8 c0 c1 c2 c3 c4
                          obtain ⟨c0, c1, c2, c3, c4⟩ := rcells_at T8.out.two.box
                          go_wp2_with fail
                          refine (looks_any T8.out.two.at' T8.out.two.ok T8.out.two.rel T8.out.two.row (by have := T8.out.two.len; omega)).mono ?_
                          rintro e w9 ⟨rfl, hb9⟩
                          have T9 := Lib.hid (T8.out.below hb9)
                          clear hb9 c0 c1 c2 c3 c4
                          go_wp2_with fail
                          go_roundw
                          case rel => exact ⟨j + 1, _, _, _, _, _, _, by omega, by go_num, T9.out.more (by omega)⟩
                          case measure => simp [intOf]; omega
                        exact AllReadyH.nil
                      exact AllReadyH.nil
                    exact AllReadyH.nil
                  exact AllReadyH.nil
                exact AllReadyH.nil
              exact AllReadyH.nil
          · as_aux_lemma =>
              have ja1 : (j : Int) < (la : Int) := by omega
              have ja2 : decide (j < la) = true := decide_eq_true hja
              have jb1 : ¬ (j : Int) < (lb' : Int) := by omega
              have jb2 : decide (j < lb') = false := decide_eq_false hjb
              have j100 : (j : Int) < 100 := by have := HLN.out.2; omega
              have HJA := Lib.hid hja
              have HJB := Lib.hid hjb
              clear hja hjb
              obtain ⟨g, off, rfl, hg, c, t, k, b, u1, u2, e0, e1, e2, e3⟩ := deed_at HDA.out HJA.out
              have HG := Lib.hid (fun W (hb : Below w.heap.size w W) => dat_below hg e0 e1 e2 e3 hb)
              clear e0 e1 e2 e3
              obtain ⟨s', hok', hdo⟩ := does_of T.out.one (by omega) c t k b u1 u2
              have HOK := Lib.hid hok'
              have HDo := Lib.hid hdo
              clear hok' hdo u1 u2
              go_upto_region 16 with fail
              have BD : Hid (Below wr.heap.size wr wr.drew) := (Below.refl _ _).drew
              have LD : Hid (Below w.heap.size w wr.drew) := T.out.low.trans (BD.out.mono T.out.low.size)
              have HNE := Lib.hid (T.out.one.at'.ne T.out.one.box).2
              obtain ⟨c0, c1, c2, c3, c4⟩ := rcells_at T.out.one.box
              refine wp_region_held_drew (S := (fun W => W.cell? ⟨g, off + j * 4, none⟩ = some (.int .i64 c) ∧ W.cell? ⟨g, off + j * 4 + 1, none⟩ = some (.int .i64 t) ∧ W.cell? ⟨g, off + j * 4 + 2, none⟩ = some (.int .u64 k) ∧ W.cell? ⟨g, off + j * 4 + 3, none⟩ = some (.int .u64 b))) (by kernel_rfl) ?_ (fun hHeld => ?_)
              · (try dsimp only)
                exact HG.out _ LD.out
              refine wpAnyH_take (i := 0) (oi := ?_) (v := ?_) ?_ (by kernel_rfl) (by kernel_rfl) (by kernel_rfl) ?_ (Or.inl ⟨?_, ?_⟩) (by assumption) ?_
              rotate_left 2
              · simp only [List.getElem?_toArray, List.getElem?_cons_succ, List.getElem?_cons_zero] <;> rfl
              · exact fun _ _ _ h => h
              · rfl
              · (intro w hSw; (try dsimp only at hSw); go_simp; try (with_reducible rfl))
              try simp only [Act.put, List.setIfInBounds_toArray, List.set_cons_zero, List.set_cons_succ]
              refine wpAnyH_take (i := 2) (oi := ?_) (v := ?_) ?_ (by kernel_rfl) (by kernel_rfl) (by kernel_rfl) ?_ (Or.inl ⟨?_, ?_⟩) (by assumption) ?_
              rotate_left 2
              · simp only [List.getElem?_toArray, List.getElem?_cons_succ, List.getElem?_cons_zero] <;> rfl
              · exact fun _ _ _ h => h
              · rfl
              · (intro w hSw; (try dsimp only at hSw); go_simp; try (with_reducible rfl))
              try simp only [Act.put, List.setIfInBounds_toArray, List.set_cons_zero, List.set_cons_succ]
              refine wpAnyH_take (i := 3) (oi := ?_) (v := ?_) ?_ (by kernel_rfl) (by kernel_rfl) (by kernel_rfl) ?_ (Or.inl ⟨?_, ?_⟩) (by assumption) ?_
              rotate_left 2
              · simp only [List.getElem?_toArray, List.getElem?_cons_succ, List.getElem?_cons_zero] <;> rfl
              · exact fun _ _ _ h => h
              · rfl
              · (intro w hSw; (try dsimp only at hSw); go_simp; try (with_reducible rfl))
              try simp only [Act.put, List.setIfInBounds_toArray, List.set_cons_zero, List.set_cons_succ]
              refine wpAnyH_take (i := 4) (oi := ?_) (v := ?_) ?_ (by kernel_rfl) (by kernel_rfl) (by kernel_rfl) ?_ (Or.inl ⟨?_, ?_⟩) (by assumption) ?_
              rotate_left 2
              · simp only [List.getElem?_toArray, List.getElem?_cons_succ, List.getElem?_cons_zero] <;> rfl
              · exact fun _ _ _ h => h
              · rfl
              · (intro w hSw; (try dsimp only at hSw); go_simp; try (with_reducible rfl))
              try simp only [Act.put, List.setIfInBounds_toArray, List.set_cons_zero, List.set_cons_succ]
              refine wpAnyH_take (i := 5) (oi := ?_) (v := ?_) ?_ (by kernel_rfl) (by kernel_rfl) (by kernel_rfl) ?_ (Or.inl ⟨?_, ?_⟩) (by assumption) ?_
              rotate_left 2
              · simp only [List.getElem?_toArray, List.getElem?_cons_succ, List.getElem?_cons_zero] <;> rfl
              · exact fun _ _ _ h => h
              · rfl
              · (intro w hSw; (try dsimp only at hSw); go_simp; try (with_reducible rfl))
              try simp only [Act.put, List.setIfInBounds_toArray, List.set_cons_zero, List.set_cons_succ]
              refine wpAnyH_ready (rs := [1]) (by kernel_rfl) (by simp) ?_
              refine AllReadyH.cons (o := _) (by simp only [List.getElem?_toArray, List.getElem?_cons_succ, List.getElem?_cons_zero] <;> rfl) (fun K hK => ?_) ?_
              · go_simp
                refine hK.out _ _ ?_ (fun hHeld => ?_)
                · (try dsimp only)
                  exact HG.out _ LD.out
                clear hK K
                try simp only [Act.put, List.setIfInBounds_toArray, List.set_cons_zero, List.set_cons_succ]
                refine wpAnyH_ready (rs := [6]) (by kernel_rfl) (by simp) ?_
                refine AllReadyH.cons (o := _) (by simp only [List.getElem?_toArray, List.getElem?_cons_succ, List.getElem?_cons_zero] <;> rfl) (fun K hK => ?_) ?_
                · go_simp
                  refine (HDo.out _ (T.out.one.at'.below BD.out) (T.out.one.row.below BD.out)).mono ?_
                  rintro e w5 ⟨r', hr1, hr2, v', rfl, ht5, hA5, hR5⟩
                  obtain ⟨xa, xn, xc, rfl⟩ := hR5.form
                  have X5 := Lib.hid (ht5.other (T.out.one.box.below BD.out) (by simp; exact HNE.out))
                  have L5 := Lib.hid (ht5.below LD.out HS.out LD.out.size)
                  obtain ⟨d0, d1, d2, d3, d4⟩ := rcells_at X5.out
                  have z1 := fun i => X5.out.thawed i
                  go_wp2_with fail
                  refine hK.out _ _ ?_ (fun hHeld => ?_)
                  · (try dsimp only)
                    exact HG.out _ L5.out
                  clear hK K
                  try simp only [Act.put, List.setIfInBounds_toArray, List.set_cons_zero, List.set_cons_succ]
                  refine wpAnyH_take (i := 7) (oi := ?_) (v := ?_) ?_ (by kernel_rfl) (by kernel_rfl) (by kernel_rfl) ?_ (Or.inl ⟨?_, ?_⟩) (by assumption) ?_
                  rotate_left 2
                  · simp only [List.getElem?_toArray, List.getElem?_cons_succ, List.getElem?_cons_zero] <;> rfl
                  · exact fun _ _ _ h => h
                  · rfl
                  · (intro w hSw; (try dsimp only at hSw); go_simp; try (with_reducible rfl))
                  try simp only [Act.put, List.setIfInBounds_toArray, List.set_cons_zero, List.set_cons_succ]
                  refine wpAnyH_take (i := 8) (oi := ?_) (v := ?_) ?_ (by kernel_rfl) (by kernel_rfl) (by kernel_rfl) ?_ (Or.inl ⟨?_, ?_⟩) (by assumption) ?_
                  rotate_left 2
                  · simp only [List.getElem?_toArray, List.getElem?_cons_succ, List.getElem?_cons_zero] <;> rfl
                  · exact fun _ _ _ h => h
                  · rfl
                  · (intro w hSw; (try dsimp only at hSw); go_simp; try (with_reducible rfl))
                  try simp only [Act.put, List.setIfInBounds_toArray, List.set_cons_zero, List.set_cons_succ]
                  refine wpAnyH_take (i := 9) (oi := ?_) (v := ?_) ?_ (by kernel_rfl) (by kernel_rfl) (by kernel_rfl) ?_ (Or.inl ⟨?_, ?_⟩) (by assumption) ?_
                  rotate_left 2
                  · simp only [List.getElem?_toArray, List.getElem?_cons_succ, List.getElem?_cons_zero] <;> rfl
                  · exact fun _ _ _ h => h
                  · rfl
                  · (intro w hSw; (try dsimp only at hSw); go_simp; try (with_reducible rfl))
                  try simp only [Act.put, List.setIfInBounds_toArray, List.set_cons_zero, List.set_cons_succ]
                  refine wpAnyH_ready (rs := [10]) (by kernel_rfl) (by simp) ?_
                  refine AllReadyH.cons (o := _) (by simp only [List.getElem?_toArray, List.getElem?_cons_succ, List.getElem?_cons_zero] <;> rfl) (fun K hK => ?_) ?_
                  · go_simp
                    refine hK.out _ _ ?_ (fun hHeld => ?_)
                    · (try dsimp only)
                      exact HG.out _ (set5_below L5.out HQ.out _ _)
                    clear hK K
                    try simp only [Act.put, List.setIfInBounds_toArray, List.set_cons_zero, List.set_cons_succ]
                    refine wpAnyH_take (i := 11) (oi := ?_) (v := ?_) ?_ (by kernel_rfl) (by kernel_rfl) (by kernel_rfl) ?_ (Or.inl ⟨?_, ?_⟩) (by assumption) ?_
                    rotate_left 2
                    · simp only [List.getElem?_toArray, List.getElem?_cons_succ, List.getElem?_cons_zero] <;> rfl
                    · exact fun _ _ _ h => h
                    · rfl
                    · (intro w hSw; (try dsimp only at hSw); go_simp; try (with_reducible rfl))
                    try simp only [Act.put, List.setIfInBounds_toArray, List.set_cons_zero, List.set_cons_succ]
                    refine wpAnyH_done (by kernel_rfl) ?_ _
                    clear d0 d1 d2 d3 d4 z1 c0 c1 c2 c3 c4
                    have HT5 : Hid (Turned [a, m] wr w5) := (Turned.of_below BD.out).trans ht5
                    have HA5 := Lib.hid hA5
                    have HR5 := Lib.hid hR5
                    have HRL := Lib.hid hr1
                    have HLE := Lib.hid hr2
                    obtain ⟨W7, hW7⟩ : ∃ W, W = (((((w5.setCell ⟨q, 0, none⟩ (.int .u64 r'.gk)).setCell ⟨q, 1, none⟩ (.int .u64 r'.gb)).setCell ⟨q, 2, none⟩ (.int .u64 r'.hk)).setCell ⟨q, 3, none⟩ (.int .u64 r'.hb)).setCell ⟨q, 4, none⟩ (.slice xa xn xc)) := ⟨_, rfl⟩
                    rw [← hW7]
                    replace hW7 : W7 = set5 w5 q r' (.slice xa xn xc) := hW7
                    have TT : Hid (Two w p a m q p2 a2 m2 q2 (100 + 2 * (j : Int) + 1) s' r' (.slice xa xn xc) s2 r2 (.slice ya yn yc) W7) := by
                      show Two _ _ _ _ _ _ _ _ _ _ _ _ _ _ _ _ _
                      rw [hW7]
                      exact T.out.opOne LI.out rfl HT5.out HA5.out HR5.out HOK.out HRL.out HLE.out
                    clear hW7 hA5 hR5 ht5 hr1 hr2 HG
                    obtain ⟨c0, c1, c2, c3, c4⟩ := rcells_at TT.out.one.box
                    go_wp2_with fail
                    refine (looks_any TT.out.one.at' TT.out.one.ok TT.out.one.rel TT.out.one.row (by have := TT.out.one.len; omega)).mono ?_
                    rintro e w8 ⟨rfl, hb8⟩
                    have T8 := Lib.hid (TT.out.below hb8)
                    clear hb8 c0 c1 c2 c3 c4
                    obtain ⟨c0, c1, c2, c3, c4⟩ := rcells_at T8.out.two.box
                    go_wp2_with fail
                    refine (looks_any T8.out.two.at' T8.out.two.ok T8.out.two.rel T8.out.two.row (by have := T8.out.two.len; omega)).mono ?_
                    rintro e w9 ⟨rfl, hb9⟩
                    have T9 := Lib.hid (T8.out.below hb9)
                    clear hb9 c0 c1 c2 c3 c4
                    go_wp2_with fail
                    go_roundw
                    case rel => exact ⟨j + 1, _, _, _, _, _, _, by omega, by go_num, T9.out.more (by omega)⟩
                    case measure => simp [intOf]; omega
                  exact AllReadyH.nil
                exact AllReadyH.nil
              exact AllReadyH.nil
          · as_aux_lemma =>
              have ja1 : ¬ (j : Int) < (la : Int) := by omega
              have ja2 : decide (j < la) = false := decide_eq_false hja
              have jb1 : (j : Int) < (lb' : Int) := by omega
              have jb2 : decide (j < lb') = true := decide_eq_true hjb
              have j100 : (j : Int) < 100 := by have := HLN.out.2; omega
              have HJA := Lib.hid hja
              have HJB := Lib.hid hjb
              clear hja hjb
              obtain ⟨g, off, rfl, hg, c, t, k, b, u1, u2, e0, e1, e2, e3⟩ := deed_at HDB.out HJB.out
              have HG := Lib.hid (fun W (hb : Below w.heap.size w W) => dat_below hg e0 e1 e2 e3 hb)
              clear e0 e1 e2 e3
              obtain ⟨s2', hok', hdo⟩ := does_of T.out.two (by omega) c t k b u1 u2
              have HOK := Lib.hid hok'
              have HDo := Lib.hid hdo
              have HS := Lib.hid LI.out.s2
              have HQ := Lib.hid LI.out.q2'
              clear hok' hdo u1 u2
              go_upto_region 18 with fail
              have BD : Hid (Below wr.heap.size wr wr.drew) := (Below.refl _ _).drew
              have LD : Hid (Below w.heap.size w wr.drew) := T.out.low.trans (BD.out.mono T.out.low.size)
              have HNE := Lib.hid (T.out.two.at'.ne T.out.two.box).2
              obtain ⟨c0, c1, c2, c3, c4⟩ := rcells_at T.out.two.box
              refine wp_region_held_drew (S := (fun W => W.cell? ⟨g, off + j * 4, none⟩ = some (.int .i64 c) ∧ W.cell? ⟨g, off + j * 4 + 1, none⟩ = some (.int .i64 t) ∧ W.cell? ⟨g, off + j * 4 + 2, none⟩ = some (.int .u64 k) ∧ W.cell? ⟨g, off + j * 4 + 3, none⟩ = some (.int .u64 b))) (by kernel_rfl) ?_ (fun hHeld => ?_)
              · (try dsimp only)
                exact HG.out _ LD.out
              refine wpAnyH_take (i := 0) (oi := ?_) (v := ?_) ?_ (by kernel_rfl) (by kernel_rfl) (by kernel_rfl) ?_ (Or.inl ⟨?_, ?_⟩) (by assumption) ?_
              rotate_left 2
              · simp only [List.getElem?_toArray, List.getElem?_cons_succ, List.getElem?_cons_zero] <;> rfl
              · exact fun _ _ _ h => h
              · rfl
              · (intro w hSw; (try dsimp only at hSw); go_simp; try (with_reducible rfl))
              try simp only [Act.put, List.setIfInBounds_toArray, List.set_cons_zero, List.set_cons_succ]
              refine wpAnyH_take (i := 2) (oi := ?_) (v := ?_) ?_ (by kernel_rfl) (by kernel_rfl) (by kernel_rfl) ?_ (Or.inl ⟨?_, ?_⟩) (by assumption) ?_
              rotate_left 2
              · simp only [List.getElem?_toArray, List.getElem?_cons_succ, List.getElem?_cons_zero] <;> rfl
              · exact fun _ _ _ h => h
              · rfl
              · (intro w hSw; (try dsimp only at hSw); go_simp; try (with_reducible rfl))
              try simp only [Act.put, List.setIfInBounds_toArray, List.set_cons_zero, List.set_cons_succ]
              refine wpAnyH_take (i := 3) (oi := ?_) (v := ?_) ?_ (by kernel_rfl) (by kernel_rfl) (by kernel_rfl) ?_ (Or.inl ⟨?_, ?_⟩) (by assumption) ?_
              rotate_left 2
              · simp only [List.getElem?_toArray, List.getElem?_cons_succ, List.getElem?_cons_zero] <;> rfl
              · exact fun _ _ _ h => h
              · rfl
              · (intro w hSw; (try dsimp only at hSw); go_simp; try (with_reducible rfl))
              try simp only [Act.put, List.setIfInBounds_toArray, List.set_cons_zero, List.set_cons_succ]
              refine wpAnyH_take (i := 4) (oi := ?_) (v := ?_) ?_ (by kernel_rfl) (by kernel_rfl) (by kernel_rfl) ?_ (Or.inl ⟨?_, ?_⟩) (by assumption) ?_
              rotate_left 2
              · simp only [List.getElem?_toArray, List.getElem?_cons_succ, List.getElem?_cons_zero] <;> rfl
              · exact fun _ _ _ h => h
              · rfl
              · (intro w hSw; (try dsimp only at hSw); go_simp; try (with_reducible rfl))
              try simp only [Act.put, List.setIfInBounds_toArray, List.set_cons_zero, List.set_cons_succ]
              refine wpAnyH_take (i := 5) (oi := ?_) (v := ?_) ?_ (by kernel_rfl) (by kernel_rfl) (by kernel_rfl) ?_ (Or.inl ⟨?_, ?_⟩) (by assumption) ?_
              rotate_left 2
              · simp only [List.getElem?_toArray, List.getElem?_cons_succ, List.getElem?_cons_zero] <;> rfl
              · exact fun _ _ _ h => h
              · rfl
              · (intro w hSw; (try dsimp only at hSw); go_simp; try (with_reducible rfl))
              try simp only [Act.put, List.setIfInBounds_toArray, List.set_cons_zero, List.set_cons_succ]
              refine wpAnyH_ready (rs := [1]) (by kernel_rfl) (by simp) ?_
              refine AllReadyH.cons (o := _) (by simp only [List.getElem?_toArray, List.getElem?_cons_succ, List.getElem?_cons_zero] <;> rfl) (fun K hK => ?_) ?_
              · go_simp
                refine hK.out _ _ ?_ (fun hHeld => ?_)
                · (try dsimp only)
                  exact HG.out _ LD.out
                clear hK K
                try simp only [Act.put, List.setIfInBounds_toArray, List.set_cons_zero, List.set_cons_succ]
                refine wpAnyH_ready (rs := [6]) (by kernel_rfl) (by simp) ?_
                refine AllReadyH.cons (o := _) (by simp only [List.getElem?_toArray, List.getElem?_cons_succ, List.getElem?_cons_zero] <;> rfl) (fun K hK => ?_) ?_
                · go_simp
                  refine (HDo.out _ (T.out.two.at'.below BD.out) (T.out.two.row.below BD.out)).mono ?_
                  rintro e w5 ⟨r', hr1, hr2, v', rfl, ht5, hA5, hR5⟩
                  obtain ⟨xa, xn, xc, rfl⟩ := hR5.form
                  have X5 := Lib.hid (ht5.other (T.out.two.box.below BD.out) (by simp; exact HNE.out))
                  have L5 := Lib.hid (ht5.below LD.out HS.out LD.out.size)
                  obtain ⟨d0, d1, d2, d3, d4⟩ := rcells_at X5.out
                  have z1 := fun i => X5.out.thawed i
                  go_wp2_with fail
                  refine hK.out _ _ ?_ (fun hHeld => ?_)
                  · (try dsimp only)
                    exact HG.out _ L5.out
                  clear hK K
                  try simp only [Act.put, List.setIfInBounds_toArray, List.set_cons_zero, List.set_cons_succ]
                  refine wpAnyH_take (i := 7) (oi := ?_) (v := ?_) ?_ (by kernel_rfl) (by kernel_rfl) (by kernel_rfl) ?_ (Or.inl ⟨?_, ?_⟩) (by assumption) ?_
                  rotate_left 2
                  · simp only [List.getElem?_toArray, List.getElem?_cons_succ, List.getElem?_cons_zero] <;> rfl
                  · exact fun _ _ _ h => h
                  · rfl
                  · (intro w hSw; (try dsimp only at hSw); go_simp; try (with_reducible rfl))
                  try simp only [Act.put, List.setIfInBounds_toArray, List.set_cons_zero, List.set_cons_succ]
                  refine wpAnyH_take (i := 8) (oi := ?_) (v := ?_) ?_ (by kernel_rfl) (by kernel_rfl) (by kernel_rfl) ?_ (Or.inl ⟨?_, ?_⟩) (by assumption) ?_
                  rotate_left 2
                  · simp only [List.getElem?_toArray, List.getElem?_cons_succ, List.getElem?_cons_zero] <;> rfl
                  · exact fun _ _ _ h => h
                  · rfl
                  · (intro w hSw; (try dsimp only at hSw); go_simp; try (with_reducible rfl))
                  try simp only [Act.put, List.setIfInBounds_toArray, List.set_cons_zero, List.set_cons_succ]
                  refine wpAnyH_take (i := 9) (oi := ?_) (v := ?_) ?_ (by kernel_rfl) (by kernel_rfl) (by kernel_rfl) ?_ (Or.inl ⟨?_, ?_⟩) (by assumption) ?_
                  rotate_left 2
                  · simp only [List.getElem?_toArray, List.getElem?_cons_succ, List.getElem?_cons_zero] <;> rfl
                  · exact fun _ _ _ h => h
                  · rfl
                  · (intro w hSw; (try dsimp only at hSw); go_simp; try (with_reducible rfl))
                  try simp only [Act.put, List.setIfInBounds_toArray, List.set_cons_zero, List.set_cons_succ]
                  refine wpAnyH_ready (rs := [10]) (by kernel_rfl) (by simp) ?_
                  refine AllReadyH.cons (o := _) (by simp only [List.getElem?_toArray, List.getElem?_cons_succ, List.getElem?_cons_zero] <;> rfl) (fun K hK => ?_) ?_
                  · go_simp
                    refine hK.out _ _ ?_ (fun hHeld => ?_)
                    · (try dsimp only)
                      exact HG.out _ (set5_below L5.out HQ.out _ _)
                    clear hK K
                    try simp only [Act.put, List.setIfInBounds_toArray, List.set_cons_zero, List.set_cons_succ]
                    refine wpAnyH_take (i := 11) (oi := ?_) (v := ?_) ?_ (by kernel_rfl) (by kernel_rfl) (by kernel_rfl) ?_ (Or.inl ⟨?_, ?_⟩) (by assumption) ?_
                    rotate_left 2
                    · simp only [List.getElem?_toArray, List.getElem?_cons_succ, List.getElem?_cons_zero] <;> rfl
                    · exact fun _ _ _ h => h
                    · rfl
                    · (intro w hSw; (try dsimp only at hSw); go_simp; try (with_reducible rfl))
                    try simp only [Act.put, List.setIfInBounds_toArray, List.set_cons_zero, List.set_cons_succ]
                    refine wpAnyH_done (by kernel_rfl) ?_ _
                    clear d0 d1 d2 d3 d4 z1 c0 c1 c2 c3 c4
                    have HT5 : Hid (Turned [a2, m2] wr w5) := (Turned.of_below BD.out).trans ht5
                    have HA5 := Lib.hid hA5
                    have HR5 := Lib.hid hR5
                    have HRL := Lib.hid hr1
                    have HLE := Lib.hid hr2
                    obtain ⟨W7, hW7⟩ : ∃ W, W = (((((w5.setCell ⟨q2, 0, none⟩ (.int .u64 r'.gk)).setCell ⟨q2, 1, none⟩ (.int .u64 r'.gb)).setCell ⟨q2, 2, none⟩ (.int .u64 r'.hk)).setCell ⟨q2, 3, none⟩ (.int .u64 r'.hb)).setCell ⟨q2, 4, none⟩ (.slice xa xn xc)) := ⟨_, rfl⟩
                    rw [← hW7]
                    replace hW7 : W7 = set5 w5 q2 r' (.slice xa xn xc) := hW7
                    have TT : Hid (Two w p a m q p2 a2 m2 q2 (100 + 2 * (j : Int) + 1) s r (.slice va vn vc) s2' r' (.slice xa xn xc) W7) := by
                      show Two _ _ _ _ _ _ _ _ _ _ _ _ _ _ _ _ _
                      rw [hW7]
                      exact T.out.opTwo LI.out rfl HT5.out HA5.out HR5.out HOK.out HRL.out HLE.out
                    clear hW7 hA5 hR5 ht5 hr1 hr2 HG
                    obtain ⟨c0, c1, c2, c3, c4⟩ := rcells_at TT.out.one.box
                    go_wp2_with fail
                    refine (looks_any TT.out.one.at' TT.out.one.ok TT.out.one.rel TT.out.one.row (by have := TT.out.one.len; omega)).mono ?_
                    rintro e w8 ⟨rfl, hb8⟩
                    have T8 := Lib.hid (TT.out.below hb8)
                    clear hb8 c0 c1 c2 c3 c4
                    obtain ⟨c0, c1, c2, c3, c4⟩ := rcells_at T8.out.two.box
                    go_wp2_with fail
                    refine (looks_any T8.out.two.at' T8.out.two.ok T8.out.two.rel T8.out.two.row (by have := T8.out.two.len; omega)).mono ?_
                    rintro e w9 ⟨rfl, hb9⟩
                    have T9 := Lib.hid (T8.out.below hb9)
                    clear hb9 c0 c1 c2 c3 c4
                    go_wp2_with fail
                    go_roundw
                    case rel => exact ⟨j + 1, _, _, _, _, _, _, by omega, by go_num, T9.out.more (by omega)⟩
                    case measure => simp [intOf]; omega
                  exact AllReadyH.nil
                exact AllReadyH.nil
              exact AllReadyH.nil
          · as_aux_lemma =>
              have ja1 : ¬ (j : Int) < (la : Int) := by omega
              have ja2 : decide (j < la) = false := decide_eq_false hja
              have jb1 : ¬ (j : Int) < (lb' : Int) := by omega
              have jb2 : decide (j < lb') = false := decide_eq_false hjb
              have j100 : (j : Int) ≤ 100 := by omega
              have HJA := Lib.hid hja
              have HJB := Lib.hid hjb
              clear hja hjb
              have TT := T
              obtain ⟨c0, c1, c2, c3, c4⟩ := rcells_at TT.out.one.box
              go_wp2_with fail
              refine (looks_any TT.out.one.at' TT.out.one.ok TT.out.one.rel TT.out.one.row (by have := TT.out.one.len; omega)).mono ?_
              rintro e w8 ⟨rfl, hb8⟩
              have T8 := Lib.hid (TT.out.below hb8)
              clear hb8 c0 c1 c2 c3 c4
              obtain ⟨c0, c1, c2, c3, c4⟩ := rcells_at T8.out.two.box
              go_wp2_with fail
              refine (looks_any T8.out.two.at' T8.out.two.ok T8.out.two.rel T8.out.two.row (by have := T8.out.two.len; omega)).mono ?_
              rintro e w9 ⟨rfl, hb9⟩
              have T9 := Lib.hid (T8.out.below hb9)
              clear hb9 c0 c1 c2 c3 c4
              go_wp2_with fail
              refine (awake_any _).mono ?_
              rintro e wA ⟨rfl, hbA⟩
              go_wp2_with fail
              go_ret
              exact ⟨rfl, Below.step T9.out.low hbA⟩
  · have hk3 : Hid (¬ (len ≤ 100 ∧ la ≤ 100 ∧ lb' ≤ 100)) := by rintro ⟨h1, h2, h3⟩; omega
    clear hgo
    rcases hl with ⟨h1, h2, h3⟩ | ⟨h1, h2⟩ | h1
    · have n1 : decide (100 < len) = false := decide_eq_false (by omega)
      have n2 : decide (100 < la) = false := decide_eq_false (by omega)
      have n3 : decide (100 < lb') = true := decide_eq_true (by omega)
      have m1 : ¬ (100 : Int) < (len : Int) := by omega
      have m2 : ¬ (100 : Int) < (la : Int) := by omega
      have m3 : (100 : Int) < (lb' : Int) := by omega
      clear h1 h2 h3
      go_enter Try.func4, Try.ntmps4
      go_upto_region 1 with fail
      rw [← HEQ.out]
      go_wp2_with fail
      refine (awake_any _).mono ?_
      rintro e w9 ⟨rfl, hb9⟩
      go_wp2_with fail
      go_ret
      exact ⟨rfl, Below.step HB0.out hb9⟩
    · have n1 : decide (100 < len) = false := decide_eq_false (by omega)
      have n2 : decide (100 < la) = true := decide_eq_true (by omega)
      have m1 : ¬ (100 : Int) < (len : Int) := by omega
      have m2 : (100 : Int) < (la : Int) := by omega
      clear h1 h2
      go_enter Try.func4, Try.ntmps4
      go_upto_region 1 with fail
      rw [← HEQ.out]
      go_wp2_with fail
      refine (awake_any _).mono ?_
      rintro e w9 ⟨rfl, hb9⟩
      go_wp2_with fail
      go_ret
      exact ⟨rfl, Below.step HB0.out hb9⟩
    · have n1 : decide (100 < len) = true := decide_eq_true (by omega)
      have m1 : (100 : Int) < (len : Int) := by omega
      clear h1
      go_enter Try.func4, Try.ntmps4
      go_upto_region 1 with fail
      rw [← HEQ.out]
      go_wp2_with fail
      refine (awake_any _).mono ?_
      rintro e w9 ⟨rfl, hb9⟩
      go_wp2_with fail
      go_ret
      exact ⟨rfl, Below.step HB0.out hb9⟩

end Go.Proofs.Ytpnddccanelcnaa
