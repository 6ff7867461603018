/- The law's operation on both the purse and the model. -/
import Derived.Test.YtpnddccanelcnaaDoM
import Derived.Test.YtpnddccanelcnaaAwake
namespace Go.Proofs.Ytpnddccanelcnaa
open Go.RowKit
set_option maxRecDepth 100000
set_option maxHeartbeats 8000000

theorem Row.stays {W W' : World} {B : Nat} {v : Value} {l : List Tq} (h : Row W B v l) (hb : ∀ g, v.ownBlock = some g → W'.heap[g]? = W.heap[g]?) : Row W' B v l := by
  obtain ⟨h1, h2⟩ := h
  refine ⟨h1, ?_⟩
  rcases h2 with h2 | ⟨g, cap, cur, h3, h4, h5, h6⟩
  · exact .inl h2
  · exact .inr ⟨g, cap, cur, h3, h4, (hb g (by rw [h3]; rfl)).trans h5, h6⟩
theorem Row.apart {W : World} {B p : Nat} {v : Value} {l : List Tq} {cs : Array Value} {t : TypeId} (h : Row W B v l) (hf : Fresh W p cs t) (ht : t ≠ 73) : v.ownBlock ≠ some p := by
  intro e
  obtain ⟨_, h2⟩ := h
  rcases h2 with ⟨rfl, _⟩ | ⟨g, cap, cur, rfl, h4, h5, h6⟩
  · cases e
  · cases e
    unfold Fresh at hf
    rw [hf] at h5
    cases h5
    exact ht rfl
theorem Row.apartM {W : World} {B m : Nat} {v : Value} {l : List Tq} {k : List Tk} (h : Row W B v l) (hm : MapAt W m k) : v.ownBlock ≠ some m := by
  intro e
  obtain ⟨_, h2⟩ := h
  obtain ⟨es, c, hb, _⟩ := hm
  rcases h2 with ⟨rfl, _⟩ | ⟨g, cap, cur, rfl, h4, h5, h6⟩
  · cases e
  · cases e
    rw [hb] at h5
    cases h5
theorem Row.block {W : World} {B : Nat} {v : Value} {l : List Tq} (h : Row W B v l) : ∀ g, v.ownBlock = some g → g < W.heap.size := by
  intro g e
  obtain ⟨_, h2⟩ := h
  rcases h2 with ⟨rfl, _⟩ | ⟨g', cap, cur, rfl, h4, h5, h6⟩
  · cases e
  · cases e
    exact (Array.getElem?_eq_some_iff.1 h5).1
theorem Row.turned {W W' : World} {B p a m : Nat} {v : Value} {l : List Tq} {s : Pu} (h : Row W B v l) (hA : At W p a m s) (ht : Turned [a, m] W W') : Row W' B v l :=
  h.stays fun g e => ht.block g (h.block g e) (by
    intro hg
    simp at hg
    rcases hg with rfl | rfl
    · exact h.apart hA.ha (by decide) e
    · exact h.apartM hA.hm e)
theorem Row.set5' {W : World} {B p : Nat} {v : Value} {l : List Tq} {cs : Array Value} (h : Row W B v l) (hf : Fresh W p cs TR) (r : Rp) (u : Value) : Row (Go.Proofs.Ytpnddccanelcnaa.set5 W p r u) B v l :=
  h.stays fun g e => set5_heap W p r u g (by rintro rfl; exact h.apart hf (by decide) e)
theorem Turned.set5 {S : List Nat} {W W' : World} (h : Turned S W W') {p : Nat} (hp : W.heap.size ≤ p) (r : Rp) (u : Value) : Turned S W (set5 W' p r u) :=
  ((((h.setCell (.inr hp) 0 _).setCell (.inr hp) 1 _).setCell (.inr hp) 2 _).setCell (.inr hp) 3 _).setCell (.inr hp) 4 _
abbrev TD : TypeId := 35
abbrev dcells (c tk k b : Int) : Array Value := #[.int .i64 c, .int .i64 tk, .int .u64 k, .int .u64 b]
def W3of (W : World) (r : Rp) (v : Value) (c tk k b : Int) : World := ((W.alloc (.cells (rcells r v) TR)).alloc (.cells (dcells c tk k b) TD)).alloc (.cells #[.int .u64 0, .int .u64 0, .int .u64 0, .int .u64 0, .slice none 0 0] TR)
def DP (W : World) (p a m : Nat) (s : Pu) (r : Rp) (e : Ending) (w' : World) : Prop := ∃ v, e = .returned (.tuple #[rv r v, .bool true]) ∧ Turned [a, m] W w' ∧ At w' p a m s ∧ Row w' 0 v r.l
theorem At.ne {W : World} {p a m q : Nat} {s : Pu} {cs : Array Value} (h : At W p a m s) (hf : Fresh W q cs TR) : q ≠ p ∧ q ≠ a ∧ q ≠ m := by
  refine ⟨?_, ?_, ?_⟩
  · rintro rfl
    have h1 := h.hp
    unfold Fresh at hf h1
    rw [hf] at h1
    simp at h1
    exact absurd h1.2 (by decide)
  · rintro rfl
    have h1 := h.ha
    unfold Fresh at hf h1
    rw [hf] at h1
    simp at h1
    exact absurd h1.2 (by decide)
  · rintro rfl
    obtain ⟨es, c, hb, _⟩ := h.hm
    unfold Fresh at hf
    rw [hf] at hb
    cases hb

theorem does_Commit {W : World} {p a m : Nat} {s : Pu} {N : Int} {r : Rp} {v : Value} (c tk k b : Int) (hx : c % 6 = 2) (h : At W p a m s) (ho : s.Ok N) (hN : N ≤ 1000000000) (hr : Rel s r) (hv : Row W 0 v r.l) (hn : r.l.length ≤ 999) (hk : U k) (hb : U b) :
    ∃ r', Rel (opS s (c % 6) tk k b).1 r' ∧ r'.l.length ≤ r.l.length + 1 ∧ Calls Try.prog 11 #[.pointer (some ⟨p, 0, none⟩), rv r v, deedV c tk k b] W (DP W p a m (opS s (c % 6) tk k b).1 r') := by
  have HK := Lib.hid (pick_any c 6 (by decide) (by decide))
  rw [hx] at HK ⊢
  obtain ⟨r', q1, q2, hM, hP⟩ := do_com hr ho hn tk k b 
  refine ⟨r', q1, q2, ?_⟩
  have HM := Lib.hid hM
  have HP := Lib.hid hP
  obtain ⟨s', hs'⟩ : ∃ s', (opS s 2 tk k b).1 = s' := ⟨_, rfl⟩
  obtain ⟨n', hn'⟩ : ∃ n', (opS s 2 tk k b).2.1 = n' := ⟨_, rfl⟩
  obtain ⟨e', he'⟩ : ∃ e', (opS s 2 tk k b).2.2 = e' := ⟨_, rfl⟩
  rw [hs', he'] at HP
  rw [he'] at HM
  rw [hs']
  clear hM hP hs' hn' he' q1 q2 ho hr hn hk hb hN hx
  obtain ⟨va, vn, vc, rfl⟩ := hv.form
  obtain ⟨q, hq⟩ : ∃ q, q = W.heap.size := ⟨_, rfl⟩
  have HQ := Lib.hid hq
  have B1 : Hid (Below W.heap.size W (W3of W r (.slice va vn vc) c tk k b)) := Below.new (Below.new (Below.new (Below.refl _ _) _) _) _
  have D1 : Hid (Fresh (W3of W r (.slice va vn vc) c tk k b) (q + 1) (dcells c tk k b) TD) := (Fresh.new _ _ _ _ (by rw [hq]; simp)).alloc _
  have V1 : Hid (Fresh (W3of W r (.slice va vn vc) c tk k b) q (rcells r (.slice va vn vc)) TR) := ((Fresh.new _ _ _ _ hq.symm).alloc _).alloc _
  have S1 : Hid (Fresh (W3of W r (.slice va vn vc) c tk k b) (q + 1 + 1) #[.int .u64 0, .int .u64 0, .int .u64 0, .int .u64 0, .slice none 0 0] TR) := Fresh.new _ _ _ _ (by rw [hq]; simp)
  obtain ⟨W1, hW1⟩ : ∃ W1, W3of W r (.slice va vn vc) c tk k b = W1 := ⟨_, rfl⟩
  have HEQ := Lib.hid hW1
  rw [hW1] at B1 D1 V1 S1
  have A1 := Lib.hid (h.below B1.out)
  have R1 := Lib.hid (hv.below B1.out)
  clear h hv hW1 hq
  obtain ⟨c0, c1, c2, c3, c4⟩ := rcells_at V1.out
  have e0 := D1.out.cell 0
  have e1 := D1.out.cell 1
  have e2 := D1.out.cell 2
  have e3 := D1.out.cell 3
  simp only [List.getElem?_toArray, List.getElem?_cons_zero, List.getElem?_cons_succ] at e0 e1 e2 e3
  go_enter Try.func11, Try.ntmps11
  go_upto_region 1 with fail
  change Code.wp _ _ _ _ (W3of W r (.slice va vn vc) c tk k b)
  rw [HEQ.out, ← HQ.out]
  go_wp2_with fail
  refine (HK.out _).mono ?_
  rintro e w2 ⟨rfl, hw2⟩
  subst hw2
  go_wp2_with fail
  refine (HM.out _ _ R1.out).mono ?_
  rintro e w3 ⟨v', rfl, hb3, hrow⟩
  obtain ⟨xa, xn, xc, rfl⟩ := hrow.form
  clear c0 c1 c2 c3 c4 e0 e1 e2 e3
  go_upto_region 4 with fail
  obtain ⟨y, hy⟩ : ∃ y, y = w3.heap.size := ⟨_, rfl⟩
  have hyq : q + 1 + 1 < y := by rw [hy]; exact Nat.lt_of_lt_of_le S1.out.lt hb3.size
  obtain ⟨W4, hW4⟩ : ∃ W, W = w3.alloc (.cells (rcells r' (.slice xa xn xc)) TR) := ⟨_, rfl⟩
  change Code.wp _ _ _ _ (w3.alloc (.cells (rcells r' (.slice xa xn xc)) TR))
  rw [← hW4, ← hy]
  have Bx : Below w2.heap.size w2 W4 := by rw [hW4]; exact Below.new hb3 _
  have A4 := Lib.hid (A1.out.below Bx)
  have D4 := Lib.hid (D1.out.below Bx)
  have S4 := Lib.hid (S1.out.below Bx)
  have B4 := Lib.hid (Below.step B1.out Bx)
  have X4 : Hid (Fresh W4 y (rcells r' (.slice xa xn xc)) TR) := by show Fresh _ _ _ _; rw [hW4]; exact Fresh.new w3 _ _ _ hy.symm
  have R4 : Hid (Row W4 0 (.slice xa xn xc) r'.l) := by show Row _ _ _ _; rw [hW4]; exact hrow.below (Below.new (Below.refl _ _) _)
  clear hb3 hrow hy hW4 Bx
  have hny := (A4.out.ne X4.out).2
  have hns := (A4.out.ne S4.out).2
  have hnd : q + 1 ≠ a ∧ q + 1 ≠ m := by
    refine ⟨?_, ?_⟩
    · intro e
      have h1 := A4.out.ha
      have h2 := D4.out
      rw [e] at h2
      unfold Fresh at h1 h2
      rw [h2] at h1
      simp [accCells] at h1
    · intro e
      obtain ⟨es, cc, hb, _⟩ := A4.out.hm
      have h2 := D4.out
      rw [e] at h2
      unfold Fresh at h2
      rw [hb] at h2
      cases h2
  have HNE : Hid (y ∉ [a, m] ∧ q + 1 + 1 ∉ [a, m] ∧ q + 1 ∉ [a, m]) := by
    refine ⟨?_, ?_, ?_⟩
    · simp; exact hny
    · simp; exact hns
    · simp; exact hnd
  clear hny hns hnd
  have A4d : Hid (At W4.drew p a m s) := ⟨A4.out.hp.drew, A4.out.ha.drew, by obtain ⟨es, cc, hb, hi⟩ := A4.out.hm; exact ⟨es, cc, hb, hi⟩⟩
  have KS : Hid (∀ W, Fresh W y (rcells r' (.slice xa xn xc)) TR → Fresh W (q + 1) (dcells c tk k b) TD → W.cell? ⟨y, 0, none⟩ = some (.int .u64 r'.gk) ∧ W.cell? ⟨y, 1, none⟩ = some (.int .u64 r'.gb) ∧ W.cell? ⟨y, 2, none⟩ = some (.int .u64 r'.hk) ∧ W.cell? ⟨y, 3, none⟩ = some (.int .u64 r'.hb) ∧ W.cell? ⟨y, 4, none⟩ = some (.slice xa xn xc) ∧ W.cell? ⟨q + 1, 1, none⟩ = some (.int .i64 tk) ∧ W.cell? ⟨q + 1, 2, none⟩ = some (.int .u64 k) ∧ W.cell? ⟨q + 1, 3, none⟩ = some (.int .u64 b)) :=
    fun W hX hD => ⟨hX.cell 0, hX.cell 1, hX.cell 2, hX.cell 3, hX.cell 4, hD.cell 1, hD.cell 2, hD.cell 3⟩
  have X4d := X4.out.drew
  have D4d := D4.out.drew
  refine wp_region_held_drew (S := (fun W => W.cell? ⟨y, 0, none⟩ = some (.int .u64 r'.gk) ∧ W.cell? ⟨y, 1, none⟩ = some (.int .u64 r'.gb) ∧ W.cell? ⟨y, 2, none⟩ = some (.int .u64 r'.hk) ∧ W.cell? ⟨y, 3, none⟩ = some (.int .u64 r'.hb) ∧ W.cell? ⟨y, 4, none⟩ = some (.slice xa xn xc) ∧ W.cell? ⟨q + 1, 1, none⟩ = some (.int .i64 tk) ∧ W.cell? ⟨q + 1, 2, none⟩ = some (.int .u64 k) ∧ W.cell? ⟨q + 1, 3, none⟩ = some (.int .u64 b))) (by kernel_rfl) ?_ (fun hHeld => ?_)
  · (try dsimp only)
    exact KS.out _ X4d D4d
  refine wpAnyH_take (i := 0) (oi := ?_) (v := ?_) ?_ (by kernel_rfl) (by kernel_rfl) (by kernel_rfl) ?_ (Or.inl ⟨?_, ?_⟩) (by assumption) ?_
  rotate_left 2
  · simp only [List.getElem?_toArray, List.getElem?_cons_succ, List.getElem?_cons_zero] <;> rfl
  · exact fun _ _ _ h => h
  · rfl
  · (intro w hSw; (try dsimp only at hSw); go_simp; try (with_reducible rfl))
  try simp only [Act.put, List.setIfInBounds_toArray, List.set_cons_zero, List.set_cons_succ]
  refine wpAnyH_take (i := 1) (oi := ?_) (v := ?_) ?_ (by kernel_rfl) (by kernel_rfl) (by kernel_rfl) ?_ (Or.inl ⟨?_, ?_⟩) (by assumption) ?_
  rotate_left 2
  · simp only [List.getElem?_toArray, List.getElem?_cons_succ, List.getElem?_cons_zero] <;> rfl
  · exact fun _ _ _ h => h
  · rfl
  · (intro w hSw; (try dsimp only at hSw); go_simp; try (with_reducible rfl))
  try simp only [Act.put, List.setIfInBounds_toArray, List.set_cons_zero, List.set_cons_succ]
  refine wpAnyH_take (i := 2) (oi := ?_) (v := ?_) ?_ (by kernel_rfl) (by kernel_rfl) (by kernel_rfl) ?_ (Or.inl ⟨?_, ?_⟩) (by assumption) ?_
  rotate_left 2
  · simp only [List.getElem?_toArray, List.getElem?_cons_succ, List.getElem?_cons_zero] <;> rfl
  · exact fun _ _ _ h => h
  · rfl
  · (intro w hSw; (try dsimp only at hSw); go_simp; try (with_reducible rfl))
  try simp only [Act.put, List.setIfInBounds_toArray, List.set_cons_zero, List.set_cons_succ]
  refine wpAnyH_take (i := 3) (oi := ?_) (v := ?_) ?_ (by kernel_rfl) (by kernel_rfl) (by kernel_rfl) ?_ (Or.inl ⟨?_, ?_⟩) (by assumption) ?_
  rotate_left 2
  · simp only [List.getElem?_toArray, List.getElem?_cons_succ, List.getElem?_cons_zero] <;> rfl
  · exact fun _ _ _ h => h
  · rfl
  · (intro w hSw; (try dsimp only at hSw); go_simp; try (with_reducible rfl))
  try simp only [Act.put, List.setIfInBounds_toArray, List.set_cons_zero, List.set_cons_succ]
  refine wpAnyH_take (i := 5) (oi := ?_) (v := ?_) ?_ (by kernel_rfl) (by kernel_rfl) (by kernel_rfl) ?_ (Or.inl ⟨?_, ?_⟩) (by assumption) ?_
  rotate_left 2
  · simp only [List.getElem?_toArray, List.getElem?_cons_succ, List.getElem?_cons_zero] <;> rfl
  · exact fun _ _ _ h => h
  · rfl
  · (intro w hSw; (try dsimp only at hSw); go_simp; try (with_reducible rfl))
  try simp only [Act.put, List.setIfInBounds_toArray, List.set_cons_zero, List.set_cons_succ]
  refine wpAnyH_ready (rs := [4]) (by kernel_rfl) (by simp) ?_
  refine AllReadyH.cons (o := _) (by simp only [List.getElem?_toArray, List.getElem?_cons_succ, List.getElem?_cons_zero] <;> rfl) (fun K hK => ?_) ?_
  · go_simp
    refine (HP.out _ _ _ _ A4d.out).mono ?_
    rintro e w5 ⟨rfl, ht5, hA5⟩
    have X5 := Lib.hid (ht5.other X4d HNE.out.1)
    have D5 := Lib.hid (ht5.other D4d HNE.out.2.2)
    have S5 := Lib.hid (ht5.other S4.out.drew HNE.out.2.1)
    have A5 := Lib.hid hA5
    have T5 : Hid (Turned [a, m] W4 w5) := ((Turned.refl [a, m] W4).drew).trans ht5
    clear hA5 ht5
    have d0 := S5.out.cell 0
    have d1 := S5.out.cell 1
    have d2 := S5.out.cell 2
    have d3 := S5.out.cell 3
    have d4 := S5.out.cell 4
    simp only [List.getElem?_toArray, List.getElem?_cons_zero, List.getElem?_cons_succ] at d0 d1 d2 d3 d4
    have z1 := fun i => S5.out.thawed i
    go_wp2_with fail
    refine hK.out _ _ ?_ (fun hHeld => ?_)
    · (try dsimp only)
      exact KS.out _ X5.out D5.out
    clear hK K
    try simp only [Act.put, List.setIfInBounds_toArray, List.set_cons_zero, List.set_cons_succ]
    refine wpAnyH_take (i := 6) (oi := ?_) (v := ?_) ?_ (by kernel_rfl) (by kernel_rfl) (by kernel_rfl) ?_ (Or.inl ⟨?_, ?_⟩) (by assumption) ?_
    rotate_left 2
    · simp only [List.getElem?_toArray, List.getElem?_cons_succ, List.getElem?_cons_zero] <;> rfl
    · exact fun _ _ _ h => h
    · rfl
    · (intro w hSw; (try dsimp only at hSw); go_simp; try (with_reducible rfl))
    try simp only [Act.put, List.setIfInBounds_toArray, List.set_cons_zero, List.set_cons_succ]
    refine wpAnyH_ready (rs := [7]) (by kernel_rfl) (by simp) ?_
    refine AllReadyH.cons (o := _) (by simp only [List.getElem?_toArray, List.getElem?_cons_succ, List.getElem?_cons_zero] <;> rfl) (fun K hK => ?_) ?_
    · go_simp
      refine hK.out _ _ ?_ (fun hHeld => ?_)
      · (try dsimp only)
        exact KS.out _ (set5_other X5.out (by omega) _ _) (set5_other D5.out (by omega) _ _)
      clear hK K
      try simp only [Act.put, List.setIfInBounds_toArray, List.set_cons_zero, List.set_cons_succ]
      refine wpAnyH_take (i := 8) (oi := ?_) (v := ?_) ?_ (by kernel_rfl) (by kernel_rfl) (by kernel_rfl) ?_ (Or.inl ⟨?_, ?_⟩) (by assumption) ?_
      rotate_left 2
      · simp only [List.getElem?_toArray, List.getElem?_cons_succ, List.getElem?_cons_zero] <;> rfl
      · exact fun _ _ _ h => h
      · rfl
      · (intro w hSw; (try dsimp only at hSw); go_simp; try (with_reducible rfl))
      try simp only [Act.put, List.setIfInBounds_toArray, List.set_cons_zero, List.set_cons_succ]
      refine wpAnyH_done (by kernel_rfl) ?_ _
      clear d0 d1 d2 d3 d4 z1
      obtain ⟨W9, hW9⟩ : ∃ W9, W9 = set5 w5 (q + 1 + 1) r' (.slice xa xn xc) := ⟨_, rfl⟩
      change Exit.then _ _ _ _ (set5 w5 (q + 1 + 1) r' (.slice xa xn xc))
      rw [← hW9]
      have F9 : Fresh W9 (q + 1 + 1) (rcells r' (.slice xa xn xc)) TR := by rw [hW9]; exact set5_fresh S5.out r' _
      have T9 : Hid (Turned [a, m] W W9) := by show Turned _ _ _; rw [hW9]; exact Turned.set5 ((Turned.of_below B4.out).trans T5.out) (by rw [← HQ.out]; omega) r' _
      have A9 : Hid (At W9 p a m s') := by
        have hne := A5.out.ne S5.out
        show At _ _ _ _ _
        rw [hW9]
        exact ⟨set5_other A5.out.hp (Ne.symm hne.1) r' _, set5_other A5.out.ha (Ne.symm hne.2.1) r' _, by
          obtain ⟨es, cc, hb, hi⟩ := A5.out.hm
          exact ⟨es, cc, (set5_heap w5 _ r' _ m (Ne.symm hne.2.2)).trans hb, hi⟩⟩
      have R9 : Hid (Row W9 0 (.slice xa xn xc) r'.l) := by show Row _ _ _ _; rw [hW9]; exact (R4.out.turned A4.out T5.out).set5' S5.out r' _
      clear hW9
      obtain ⟨d0, d1, d2, d3, d4⟩ := rcells_at F9
      go_wp2_with fail
      refine bodyPost_ret (v := .tuple #[rv r' (.slice xa xn xc), .bool true]) ?_ rfl ⟨_, rfl, T9.out, A9.out, R9.out⟩
      simp [results, Try.results11, go_sem, d0, d1, d2, d3, d4]
    exact AllReadyH.nil
  exact AllReadyH.nil

theorem does_Refund {W : World} {p a m : Nat} {s : Pu} {N : Int} {r : Rp} {v : Value} (c tk k b : Int) (hx : c % 6 = 3) (h : At W p a m s) (ho : s.Ok N) (hN : N ≤ 1000000000) (hr : Rel s r) (hv : Row W 0 v r.l) (hn : r.l.length ≤ 999) (hk : U k) (hb : U b) :
    ∃ r', Rel (opS s (c % 6) tk k b).1 r' ∧ r'.l.length ≤ r.l.length + 1 ∧ Calls Try.prog 11 #[.pointer (some ⟨p, 0, none⟩), rv r v, deedV c tk k b] W (DP W p a m (opS s (c % 6) tk k b).1 r') := by
  have HK := Lib.hid (pick_any c 6 (by decide) (by decide))
  rw [hx] at HK ⊢
  obtain ⟨r', q1, q2, hM, hP⟩ := do_ref hr ho hn tk k b 
  refine ⟨r', q1, q2, ?_⟩
  have HM := Lib.hid hM
  have HP := Lib.hid hP
  obtain ⟨s', hs'⟩ : ∃ s', (opS s 3 tk k b).1 = s' := ⟨_, rfl⟩
  obtain ⟨n', hn'⟩ : ∃ n', (opS s 3 tk k b).2.1 = n' := ⟨_, rfl⟩
  obtain ⟨e', he'⟩ : ∃ e', (opS s 3 tk k b).2.2 = e' := ⟨_, rfl⟩
  rw [hs', he'] at HP
  rw [he'] at HM
  rw [hs']
  clear hM hP hs' hn' he' q1 q2 ho hr hn hk hb hN hx
  obtain ⟨va, vn, vc, rfl⟩ := hv.form
  obtain ⟨q, hq⟩ : ∃ q, q = W.heap.size := ⟨_, rfl⟩
  have HQ := Lib.hid hq
  have B1 : Hid (Below W.heap.size W (W3of W r (.slice va vn vc) c tk k b)) := Below.new (Below.new (Below.new (Below.refl _ _) _) _) _
  have D1 : Hid (Fresh (W3of W r (.slice va vn vc) c tk k b) (q + 1) (dcells c tk k b) TD) := (Fresh.new _ _ _ _ (by rw [hq]; simp)).alloc _
  have V1 : Hid (Fresh (W3of W r (.slice va vn vc) c tk k b) q (rcells r (.slice va vn vc)) TR) := ((Fresh.new _ _ _ _ hq.symm).alloc _).alloc _
  have S1 : Hid (Fresh (W3of W r (.slice va vn vc) c tk k b) (q + 1 + 1) #[.int .u64 0, .int .u64 0, .int .u64 0, .int .u64 0, .slice none 0 0] TR) := Fresh.new _ _ _ _ (by rw [hq]; simp)
  obtain ⟨W1, hW1⟩ : ∃ W1, W3of W r (.slice va vn vc) c tk k b = W1 := ⟨_, rfl⟩
  have HEQ := Lib.hid hW1
  rw [hW1] at B1 D1 V1 S1
  have A1 := Lib.hid (h.below B1.out)
  have R1 := Lib.hid (hv.below B1.out)
  clear h hv hW1 hq
  obtain ⟨c0, c1, c2, c3, c4⟩ := rcells_at V1.out
  have e0 := D1.out.cell 0
  have e1 := D1.out.cell 1
  have e2 := D1.out.cell 2
  have e3 := D1.out.cell 3
  simp only [List.getElem?_toArray, List.getElem?_cons_zero, List.getElem?_cons_succ] at e0 e1 e2 e3
  go_enter Try.func11, Try.ntmps11
  go_upto_region 1 with fail
  change Code.wp _ _ _ _ (W3of W r (.slice va vn vc) c tk k b)
  rw [HEQ.out, ← HQ.out]
  go_wp2_with fail
  refine (HK.out _).mono ?_
  rintro e w2 ⟨rfl, hw2⟩
  subst hw2
  go_wp2_with fail
  refine (HM.out _ _ R1.out).mono ?_
  rintro e w3 ⟨v', rfl, hb3, hrow⟩
  obtain ⟨xa, xn, xc, rfl⟩ := hrow.form
  clear c0 c1 c2 c3 c4 e0 e1 e2 e3
  go_upto_region 7 with fail
  obtain ⟨y, hy⟩ : ∃ y, y = w3.heap.size := ⟨_, rfl⟩
  have hyq : q + 1 + 1 < y := by rw [hy]; exact Nat.lt_of_lt_of_le S1.out.lt hb3.size
  obtain ⟨W4, hW4⟩ : ∃ W, W = w3.alloc (.cells (rcells r' (.slice xa xn xc)) TR) := ⟨_, rfl⟩
  change Code.wp _ _ _ _ (w3.alloc (.cells (rcells r' (.slice xa xn xc)) TR))
  rw [← hW4, ← hy]
  have Bx : Below w2.heap.size w2 W4 := by rw [hW4]; exact Below.new hb3 _
  have A4 := Lib.hid (A1.out.below Bx)
  have D4 := Lib.hid (D1.out.below Bx)
  have S4 := Lib.hid (S1.out.below Bx)
  have B4 := Lib.hid (Below.step B1.out Bx)
  have X4 : Hid (Fresh W4 y (rcells r' (.slice xa xn xc)) TR) := by show Fresh _ _ _ _; rw [hW4]; exact Fresh.new w3 _ _ _ hy.symm
  have R4 : Hid (Row W4 0 (.slice xa xn xc) r'.l) := by show Row _ _ _ _; rw [hW4]; exact hrow.below (Below.new (Below.refl _ _) _)
  clear hb3 hrow hy hW4 Bx
  have hny := (A4.out.ne X4.out).2
  have hns := (A4.out.ne S4.out).2
  have hnd : q + 1 ≠ a ∧ q + 1 ≠ m := by
    refine ⟨?_, ?_⟩
    · intro e
      have h1 := A4.out.ha
      have h2 := D4.out
      rw [e] at h2
      unfold Fresh at h1 h2
      rw [h2] at h1
      simp [accCells] at h1
    · intro e
      obtain ⟨es, cc, hb, _⟩ := A4.out.hm
      have h2 := D4.out
      rw [e] at h2
      unfold Fresh at h2
      rw [hb] at h2
      cases h2
  have HNE : Hid (y ∉ [a, m] ∧ q + 1 + 1 ∉ [a, m] ∧ q + 1 ∉ [a, m]) := by
    refine ⟨?_, ?_, ?_⟩
    · simp; exact hny
    · simp; exact hns
    · simp; exact hnd
  clear hny hns hnd
  have A4d : Hid (At W4.drew p a m s) := ⟨A4.out.hp.drew, A4.out.ha.drew, by obtain ⟨es, cc, hb, hi⟩ := A4.out.hm; exact ⟨es, cc, hb, hi⟩⟩
  have KS : Hid (∀ W, Fresh W y (rcells r' (.slice xa xn xc)) TR → Fresh W (q + 1) (dcells c tk k b) TD → W.cell? ⟨y, 0, none⟩ = some (.int .u64 r'.gk) ∧ W.cell? ⟨y, 1, none⟩ = some (.int .u64 r'.gb) ∧ W.cell? ⟨y, 2, none⟩ = some (.int .u64 r'.hk) ∧ W.cell? ⟨y, 3, none⟩ = some (.int .u64 r'.hb) ∧ W.cell? ⟨y, 4, none⟩ = some (.slice xa xn xc) ∧ W.cell? ⟨q + 1, 1, none⟩ = some (.int .i64 tk) ∧ W.cell? ⟨q + 1, 2, none⟩ = some (.int .u64 k) ∧ W.cell? ⟨q + 1, 3, none⟩ = some (.int .u64 b)) :=
    fun W hX hD => ⟨hX.cell 0, hX.cell 1, hX.cell 2, hX.cell 3, hX.cell 4, hD.cell 1, hD.cell 2, hD.cell 3⟩
  have X4d := X4.out.drew
  have D4d := D4.out.drew
  refine wp_region_held_drew (S := (fun W => W.cell? ⟨y, 0, none⟩ = some (.int .u64 r'.gk) ∧ W.cell? ⟨y, 1, none⟩ = some (.int .u64 r'.gb) ∧ W.cell? ⟨y, 2, none⟩ = some (.int .u64 r'.hk) ∧ W.cell? ⟨y, 3, none⟩ = some (.int .u64 r'.hb) ∧ W.cell? ⟨y, 4, none⟩ = some (.slice xa xn xc) ∧ W.cell? ⟨q + 1, 1, none⟩ = some (.int .i64 tk) ∧ W.cell? ⟨q + 1, 2, none⟩ = some (.int .u64 k) ∧ W.cell? ⟨q + 1, 3, none⟩ = some (.int .u64 b))) (by kernel_rfl) ?_ (fun hHeld => ?_)
  · (try dsimp only)
    exact KS.out _ X4d D4d
  refine wpAnyH_take (i := 0) (oi := ?_) (v := ?_) ?_ (by kernel_rfl) (by kernel_rfl) (by kernel_rfl) ?_ (Or.inl ⟨?_, ?_⟩) (by assumption) ?_
  rotate_left 2
  · simp only [List.getElem?_toArray, List.getElem?_cons_succ, List.getElem?_cons_zero] <;> rfl
  · exact fun _ _ _ h => h
  · rfl
  · (intro w hSw; (try dsimp only at hSw); go_simp; try (with_reducible rfl))
  try simp only [Act.put, List.setIfInBounds_toArray, List.set_cons_zero, List.set_cons_succ]
  refine wpAnyH_take (i := 1) (oi := ?_) (v := ?_) ?_ (by kernel_rfl) (by kernel_rfl) (by kernel_rfl) ?_ (Or.inl ⟨?_, ?_⟩) (by assumption) ?_
  rotate_left 2
  · simp only [List.getElem?_toArray, List.getElem?_cons_succ, List.getElem?_cons_zero] <;> rfl
  · exact fun _ _ _ h => h
  · rfl
  · (intro w hSw; (try dsimp only at hSw); go_simp; try (with_reducible rfl))
  try simp only [Act.put, List.setIfInBounds_toArray, List.set_cons_zero, List.set_cons_succ]
  refine wpAnyH_take (i := 2) (oi := ?_) (v := ?_) ?_ (by kernel_rfl) (by kernel_rfl) (by kernel_rfl) ?_ (Or.inl ⟨?_, ?_⟩) (by assumption) ?_
  rotate_left 2
  · simp only [List.getElem?_toArray, List.getElem?_cons_succ, List.getElem?_cons_zero] <;> rfl
  · exact fun _ _ _ h => h
  · rfl
  · (intro w hSw; (try dsimp only at hSw); go_simp; try (with_reducible rfl))
  try simp only [Act.put, List.setIfInBounds_toArray, List.set_cons_zero, List.set_cons_succ]
  refine wpAnyH_take (i := 3) (oi := ?_) (v := ?_) ?_ (by kernel_rfl) (by kernel_rfl) (by kernel_rfl) ?_ (Or.inl ⟨?_, ?_⟩) (by assumption) ?_
  rotate_left 2
  · simp only [List.getElem?_toArray, List.getElem?_cons_succ, List.getElem?_cons_zero] <;> rfl
  · exact fun _ _ _ h => h
  · rfl
  · (intro w hSw; (try dsimp only at hSw); go_simp; try (with_reducible rfl))
  try simp only [Act.put, List.setIfInBounds_toArray, List.set_cons_zero, List.set_cons_succ]
  refine wpAnyH_take (i := 5) (oi := ?_) (v := ?_) ?_ (by kernel_rfl) (by kernel_rfl) (by kernel_rfl) ?_ (Or.inl ⟨?_, ?_⟩) (by assumption) ?_
  rotate_left 2
  · simp only [List.getElem?_toArray, List.getElem?_cons_succ, List.getElem?_cons_zero] <;> rfl
  · exact fun _ _ _ h => h
  · rfl
  · (intro w hSw; (try dsimp only at hSw); go_simp; try (with_reducible rfl))
  try simp only [Act.put, List.setIfInBounds_toArray, List.set_cons_zero, List.set_cons_succ]
  refine wpAnyH_ready (rs := [4]) (by kernel_rfl) (by simp) ?_
  refine AllReadyH.cons (o := _) (by simp only [List.getElem?_toArray, List.getElem?_cons_succ, List.getElem?_cons_zero] <;> rfl) (fun K hK => ?_) ?_
  · go_simp
    refine (HP.out _ _ _ _ A4d.out).mono ?_
    rintro e w5 ⟨rfl, ht5, hA5⟩
    have X5 := Lib.hid (ht5.other X4d HNE.out.1)
    have D5 := Lib.hid (ht5.other D4d HNE.out.2.2)
    have S5 := Lib.hid (ht5.other S4.out.drew HNE.out.2.1)
    have A5 := Lib.hid hA5
    have T5 : Hid (Turned [a, m] W4 w5) := ((Turned.refl [a, m] W4).drew).trans ht5
    clear hA5 ht5
    have d0 := S5.out.cell 0
    have d1 := S5.out.cell 1
    have d2 := S5.out.cell 2
    have d3 := S5.out.cell 3
    have d4 := S5.out.cell 4
    simp only [List.getElem?_toArray, List.getElem?_cons_zero, List.getElem?_cons_succ] at d0 d1 d2 d3 d4
    have z1 := fun i => S5.out.thawed i
    go_wp2_with fail
    refine hK.out _ _ ?_ (fun hHeld => ?_)
    · (try dsimp only)
      exact KS.out _ X5.out D5.out
    clear hK K
    try simp only [Act.put, List.setIfInBounds_toArray, List.set_cons_zero, List.set_cons_succ]
    refine wpAnyH_take (i := 6) (oi := ?_) (v := ?_) ?_ (by kernel_rfl) (by kernel_rfl) (by kernel_rfl) ?_ (Or.inl ⟨?_, ?_⟩) (by assumption) ?_
    rotate_left 2
    · simp only [List.getElem?_toArray, List.getElem?_cons_succ, List.getElem?_cons_zero] <;> rfl
    · exact fun _ _ _ h => h
    · rfl
    · (intro w hSw; (try dsimp only at hSw); go_simp; try (with_reducible rfl))
    try simp only [Act.put, List.setIfInBounds_toArray, List.set_cons_zero, List.set_cons_succ]
    refine wpAnyH_ready (rs := [7]) (by kernel_rfl) (by simp) ?_
    refine AllReadyH.cons (o := _) (by simp only [List.getElem?_toArray, List.getElem?_cons_succ, List.getElem?_cons_zero] <;> rfl) (fun K hK => ?_) ?_
    · go_simp
      refine hK.out _ _ ?_ (fun hHeld => ?_)
      · (try dsimp only)
        exact KS.out _ (set5_other X5.out (by omega) _ _) (set5_other D5.out (by omega) _ _)
      clear hK K
      try simp only [Act.put, List.setIfInBounds_toArray, List.set_cons_zero, List.set_cons_succ]
      refine wpAnyH_take (i := 8) (oi := ?_) (v := ?_) ?_ (by kernel_rfl) (by kernel_rfl) (by kernel_rfl) ?_ (Or.inl ⟨?_, ?_⟩) (by assumption) ?_
      rotate_left 2
      · simp only [List.getElem?_toArray, List.getElem?_cons_succ, List.getElem?_cons_zero] <;> rfl
      · exact fun _ _ _ h => h
      · rfl
      · (intro w hSw; (try dsimp only at hSw); go_simp; try (with_reducible rfl))
      try simp only [Act.put, List.setIfInBounds_toArray, List.set_cons_zero, List.set_cons_succ]
      refine wpAnyH_done (by kernel_rfl) ?_ _
      clear d0 d1 d2 d3 d4 z1
      obtain ⟨W9, hW9⟩ : ∃ W9, W9 = set5 w5 (q + 1 + 1) r' (.slice xa xn xc) := ⟨_, rfl⟩
      change Exit.then _ _ _ _ (set5 w5 (q + 1 + 1) r' (.slice xa xn xc))
      rw [← hW9]
      have F9 : Fresh W9 (q + 1 + 1) (rcells r' (.slice xa xn xc)) TR := by rw [hW9]; exact set5_fresh S5.out r' _
      have T9 : Hid (Turned [a, m] W W9) := by show Turned _ _ _; rw [hW9]; exact Turned.set5 ((Turned.of_below B4.out).trans T5.out) (by rw [← HQ.out]; omega) r' _
      have A9 : Hid (At W9 p a m s') := by
        have hne := A5.out.ne S5.out
        show At _ _ _ _ _
        rw [hW9]
        exact ⟨set5_other A5.out.hp (Ne.symm hne.1) r' _, set5_other A5.out.ha (Ne.symm hne.2.1) r' _, by
          obtain ⟨es, cc, hb, hi⟩ := A5.out.hm
          exact ⟨es, cc, (set5_heap w5 _ r' _ m (Ne.symm hne.2.2)).trans hb, hi⟩⟩
      have R9 : Hid (Row W9 0 (.slice xa xn xc) r'.l) := by show Row _ _ _ _; rw [hW9]; exact (R4.out.turned A4.out T5.out).set5' S5.out r' _
      clear hW9
      obtain ⟨d0, d1, d2, d3, d4⟩ := rcells_at F9
      go_wp2_with fail
      refine bodyPost_ret (v := .tuple #[rv r' (.slice xa xn xc), .bool true]) ?_ rfl ⟨_, rfl, T9.out, A9.out, R9.out⟩
      simp [results, Try.results11, go_sem, d0, d1, d2, d3, d4]
    exact AllReadyH.nil
  exact AllReadyH.nil

theorem does_Take {W : World} {p a m : Nat} {s : Pu} {N : Int} {r : Rp} {v : Value} (c tk k b : Int) (hx : c % 6 = 4) (h : At W p a m s) (ho : s.Ok N) (hN : N ≤ 1000000000) (hr : Rel s r) (hv : Row W 0 v r.l) (hn : r.l.length ≤ 999) (hk : U k) (hb : U b) :
    ∃ r', Rel (opS s (c % 6) tk k b).1 r' ∧ r'.l.length ≤ r.l.length + 1 ∧ Calls Try.prog 11 #[.pointer (some ⟨p, 0, none⟩), rv r v, deedV c tk k b] W (DP W p a m (opS s (c % 6) tk k b).1 r') := by
  have HK := Lib.hid (pick_any c 6 (by decide) (by decide))
  rw [hx] at HK ⊢
  obtain ⟨r', q1, q2, hM, hP⟩ := do_take hr ho hn tk k b hk hb
  refine ⟨r', q1, q2, ?_⟩
  have HM := Lib.hid hM
  have HP := Lib.hid hP
  obtain ⟨s', hs'⟩ : ∃ s', (opS s 4 tk k b).1 = s' := ⟨_, rfl⟩
  obtain ⟨n', hn'⟩ : ∃ n', (opS s 4 tk k b).2.1 = n' := ⟨_, rfl⟩
  obtain ⟨e', he'⟩ : ∃ e', (opS s 4 tk k b).2.2 = e' := ⟨_, rfl⟩
  rw [hs', he'] at HP
  rw [he'] at HM
  rw [hs']
  clear hM hP hs' hn' he' q1 q2 ho hr hn hk hb hN hx
  obtain ⟨va, vn, vc, rfl⟩ := hv.form
  obtain ⟨q, hq⟩ : ∃ q, q = W.heap.size := ⟨_, rfl⟩
  have HQ := Lib.hid hq
  have B1 : Hid (Below W.heap.size W (W3of W r (.slice va vn vc) c tk k b)) := Below.new (Below.new (Below.new (Below.refl _ _) _) _) _
  have D1 : Hid (Fresh (W3of W r (.slice va vn vc) c tk k b) (q + 1) (dcells c tk k b) TD) := (Fresh.new _ _ _ _ (by rw [hq]; simp)).alloc _
  have V1 : Hid (Fresh (W3of W r (.slice va vn vc) c tk k b) q (rcells r (.slice va vn vc)) TR) := ((Fresh.new _ _ _ _ hq.symm).alloc _).alloc _
  have S1 : Hid (Fresh (W3of W r (.slice va vn vc) c tk k b) (q + 1 + 1) #[.int .u64 0, .int .u64 0, .int .u64 0, .int .u64 0, .slice none 0 0] TR) := Fresh.new _ _ _ _ (by rw [hq]; simp)
  obtain ⟨W1, hW1⟩ : ∃ W1, W3of W r (.slice va vn vc) c tk k b = W1 := ⟨_, rfl⟩
  have HEQ := Lib.hid hW1
  rw [hW1] at B1 D1 V1 S1
  have A1 := Lib.hid (h.below B1.out)
  have R1 := Lib.hid (hv.below B1.out)
  clear h hv hW1 hq
  obtain ⟨c0, c1, c2, c3, c4⟩ := rcells_at V1.out
  have e0 := D1.out.cell 0
  have e1 := D1.out.cell 1
  have e2 := D1.out.cell 2
  have e3 := D1.out.cell 3
  simp only [List.getElem?_toArray, List.getElem?_cons_zero, List.getElem?_cons_succ] at e0 e1 e2 e3
  go_enter Try.func11, Try.ntmps11
  go_upto_region 1 with fail
  change Code.wp _ _ _ _ (W3of W r (.slice va vn vc) c tk k b)
  rw [HEQ.out, ← HQ.out]
  go_wp2_with fail
  refine (HK.out _).mono ?_
  rintro e w2 ⟨rfl, hw2⟩
  subst hw2
  go_wp2_with fail
  refine (HM.out _ _ R1.out).mono ?_
  rintro e w3 ⟨v', rfl, hb3, hrow⟩
  obtain ⟨xa, xn, xc, rfl⟩ := hrow.form
  clear c0 c1 c2 c3 c4 e0 e1 e2 e3
  go_upto_region 10 with fail
  obtain ⟨y, hy⟩ : ∃ y, y = w3.heap.size := ⟨_, rfl⟩
  have hyq : q + 1 + 1 < y := by rw [hy]; exact Nat.lt_of_lt_of_le S1.out.lt hb3.size
  obtain ⟨W4, hW4⟩ : ∃ W, W = w3.alloc (.cells (rcells r' (.slice xa xn xc)) TR) := ⟨_, rfl⟩
  change Code.wp _ _ _ _ (w3.alloc (.cells (rcells r' (.slice xa xn xc)) TR))
  rw [← hW4, ← hy]
  have Bx : Below w2.heap.size w2 W4 := by rw [hW4]; exact Below.new hb3 _
  have A4 := Lib.hid (A1.out.below Bx)
  have D4 := Lib.hid (D1.out.below Bx)
  have S4 := Lib.hid (S1.out.below Bx)
  have B4 := Lib.hid (Below.step B1.out Bx)
  have X4 : Hid (Fresh W4 y (rcells r' (.slice xa xn xc)) TR) := by show Fresh _ _ _ _; rw [hW4]; exact Fresh.new w3 _ _ _ hy.symm
  have R4 : Hid (Row W4 0 (.slice xa xn xc) r'.l) := by show Row _ _ _ _; rw [hW4]; exact hrow.below (Below.new (Below.refl _ _) _)
  clear hb3 hrow hy hW4 Bx
  have hny := (A4.out.ne X4.out).2
  have hns := (A4.out.ne S4.out).2
  have hnd : q + 1 ≠ a ∧ q + 1 ≠ m := by
    refine ⟨?_, ?_⟩
    · intro e
      have h1 := A4.out.ha
      have h2 := D4.out
      rw [e] at h2
      unfold Fresh at h1 h2
      rw [h2] at h1
      simp [accCells] at h1
    · intro e
      obtain ⟨es, cc, hb, _⟩ := A4.out.hm
      have h2 := D4.out
      rw [e] at h2
      unfold Fresh at h2
      rw [hb] at h2
      cases h2
  have HNE : Hid (y ∉ [a, m] ∧ q + 1 + 1 ∉ [a, m] ∧ q + 1 ∉ [a, m]) := by
    refine ⟨?_, ?_, ?_⟩
    · simp; exact hny
    · simp; exact hns
    · simp; exact hnd
  clear hny hns hnd
  have A4d : Hid (At W4.drew p a m s) := ⟨A4.out.hp.drew, A4.out.ha.drew, by obtain ⟨es, cc, hb, hi⟩ := A4.out.hm; exact ⟨es, cc, hb, hi⟩⟩
  have KS : Hid (∀ W, Fresh W y (rcells r' (.slice xa xn xc)) TR → Fresh W (q + 1) (dcells c tk k b) TD → W.cell? ⟨y, 0, none⟩ = some (.int .u64 r'.gk) ∧ W.cell? ⟨y, 1, none⟩ = some (.int .u64 r'.gb) ∧ W.cell? ⟨y, 2, none⟩ = some (.int .u64 r'.hk) ∧ W.cell? ⟨y, 3, none⟩ = some (.int .u64 r'.hb) ∧ W.cell? ⟨y, 4, none⟩ = some (.slice xa xn xc) ∧ W.cell? ⟨q + 1, 1, none⟩ = some (.int .i64 tk) ∧ W.cell? ⟨q + 1, 2, none⟩ = some (.int .u64 k) ∧ W.cell? ⟨q + 1, 3, none⟩ = some (.int .u64 b)) :=
    fun W hX hD => ⟨hX.cell 0, hX.cell 1, hX.cell 2, hX.cell 3, hX.cell 4, hD.cell 1, hD.cell 2, hD.cell 3⟩
  have X4d := X4.out.drew
  have D4d := D4.out.drew
  refine wp_region_held_drew (S := (fun W => W.cell? ⟨y, 0, none⟩ = some (.int .u64 r'.gk) ∧ W.cell? ⟨y, 1, none⟩ = some (.int .u64 r'.gb) ∧ W.cell? ⟨y, 2, none⟩ = some (.int .u64 r'.hk) ∧ W.cell? ⟨y, 3, none⟩ = some (.int .u64 r'.hb) ∧ W.cell? ⟨y, 4, none⟩ = some (.slice xa xn xc) ∧ W.cell? ⟨q + 1, 1, none⟩ = some (.int .i64 tk) ∧ W.cell? ⟨q + 1, 2, none⟩ = some (.int .u64 k) ∧ W.cell? ⟨q + 1, 3, none⟩ = some (.int .u64 b))) (by kernel_rfl) ?_ (fun hHeld => ?_)
  · (try dsimp only)
    exact KS.out _ X4d D4d
  refine wpAnyH_take (i := 0) (oi := ?_) (v := ?_) ?_ (by kernel_rfl) (by kernel_rfl) (by kernel_rfl) ?_ (Or.inl ⟨?_, ?_⟩) (by assumption) ?_
  rotate_left 2
  · simp only [List.getElem?_toArray, List.getElem?_cons_succ, List.getElem?_cons_zero] <;> rfl
  · exact fun _ _ _ h => h
  · rfl
  · (intro w hSw; (try dsimp only at hSw); go_simp; try (with_reducible rfl))
  try simp only [Act.put, List.setIfInBounds_toArray, List.set_cons_zero, List.set_cons_succ]
  refine wpAnyH_take (i := 1) (oi := ?_) (v := ?_) ?_ (by kernel_rfl) (by kernel_rfl) (by kernel_rfl) ?_ (Or.inl ⟨?_, ?_⟩) (by assumption) ?_
  rotate_left 2
  · simp only [List.getElem?_toArray, List.getElem?_cons_succ, List.getElem?_cons_zero] <;> rfl
  · exact fun _ _ _ h => h
  · rfl
  · (intro w hSw; (try dsimp only at hSw); go_simp; try (with_reducible rfl))
  try simp only [Act.put, List.setIfInBounds_toArray, List.set_cons_zero, List.set_cons_succ]
  refine wpAnyH_take (i := 2) (oi := ?_) (v := ?_) ?_ (by kernel_rfl) (by kernel_rfl) (by kernel_rfl) ?_ (Or.inl ⟨?_, ?_⟩) (by assumption) ?_
  rotate_left 2
  · simp only [List.getElem?_toArray, List.getElem?_cons_succ, List.getElem?_cons_zero] <;> rfl
  · exact fun _ _ _ h => h
  · rfl
  · (intro w hSw; (try dsimp only at hSw); go_simp; try (with_reducible rfl))
  try simp only [Act.put, List.setIfInBounds_toArray, List.set_cons_zero, List.set_cons_succ]
  refine wpAnyH_take (i := 3) (oi := ?_) (v := ?_) ?_ (by kernel_rfl) (by kernel_rfl) (by kernel_rfl) ?_ (Or.inl ⟨?_, ?_⟩) (by assumption) ?_
  rotate_left 2
  · simp only [List.getElem?_toArray, List.getElem?_cons_succ, List.getElem?_cons_zero] <;> rfl
  · exact fun _ _ _ h => h
  · rfl
  · (intro w hSw; (try dsimp only at hSw); go_simp; try (with_reducible rfl))
  try simp only [Act.put, List.setIfInBounds_toArray, List.set_cons_zero, List.set_cons_succ]
  refine wpAnyH_take (i := 4) (oi := ?_) (v := ?_) ?_ (by kernel_rfl) (by kernel_rfl) (by kernel_rfl) ?_ (Or.inl ⟨?_, ?_⟩) (by assumption) ?_
  rotate_left 2
  · simp only [List.getElem?_toArray, List.getElem?_cons_succ, List.getElem?_cons_zero] <;> rfl
  · exact fun _ _ _ h => h
  · rfl
  · (intro w hSw; (try dsimp only at hSw); go_simp; try (with_reducible rfl))
  try simp only [Act.put, List.setIfInBounds_toArray, List.set_cons_zero, List.set_cons_succ]
  refine wpAnyH_take (i := 5) (oi := ?_) (v := ?_) ?_ (by kernel_rfl) (by kernel_rfl) (by kernel_rfl) ?_ (Or.inl ⟨?_, ?_⟩) (by assumption) ?_
  rotate_left 2
  · simp only [List.getElem?_toArray, List.getElem?_cons_succ, List.getElem?_cons_zero] <;> rfl
  · exact fun _ _ _ h => h
  · rfl
  · (intro w hSw; (try dsimp only at hSw); go_simp; try (with_reducible rfl))
  try simp only [Act.put, List.setIfInBounds_toArray, List.set_cons_zero, List.set_cons_succ]
  refine wpAnyH_take (i := 7) (oi := ?_) (v := ?_) ?_ (by kernel_rfl) (by kernel_rfl) (by kernel_rfl) ?_ (Or.inl ⟨?_, ?_⟩) (by assumption) ?_
  rotate_left 2
  · simp only [List.getElem?_toArray, List.getElem?_cons_succ, List.getElem?_cons_zero] <;> rfl
  · exact fun _ _ _ h => h
  · rfl
  · (intro w hSw; (try dsimp only at hSw); go_simp; try (with_reducible rfl))
  try simp only [Act.put, List.setIfInBounds_toArray, List.set_cons_zero, List.set_cons_succ]
  refine wpAnyH_ready (rs := [6]) (by kernel_rfl) (by simp) ?_
  refine AllReadyH.cons (o := _) (by simp only [List.getElem?_toArray, List.getElem?_cons_succ, List.getElem?_cons_zero] <;> rfl) (fun K hK => ?_) ?_
  · go_simp
    refine (HP.out _ _ _ _ A4d.out).mono ?_
    rintro e w5 ⟨rfl, ht5, hA5⟩
    have X5 := Lib.hid (ht5.other X4d HNE.out.1)
    have D5 := Lib.hid (ht5.other D4d HNE.out.2.2)
    have S5 := Lib.hid (ht5.other S4.out.drew HNE.out.2.1)
    have A5 := Lib.hid hA5
    have T5 : Hid (Turned [a, m] W4 w5) := ((Turned.refl [a, m] W4).drew).trans ht5
    clear hA5 ht5
    have d0 := S5.out.cell 0
    have d1 := S5.out.cell 1
    have d2 := S5.out.cell 2
    have d3 := S5.out.cell 3
    have d4 := S5.out.cell 4
    simp only [List.getElem?_toArray, List.getElem?_cons_zero, List.getElem?_cons_succ] at d0 d1 d2 d3 d4
    have z1 := fun i => S5.out.thawed i
    go_wp2_with fail
    refine hK.out _ _ ?_ (fun hHeld => ?_)
    · (try dsimp only)
      exact KS.out _ X5.out D5.out
    clear hK K
    try simp only [Act.put, List.setIfInBounds_toArray, List.set_cons_zero, List.set_cons_succ]
    refine wpAnyH_take (i := 8) (oi := ?_) (v := ?_) ?_ (by kernel_rfl) (by kernel_rfl) (by kernel_rfl) ?_ (Or.inl ⟨?_, ?_⟩) (by assumption) ?_
    rotate_left 2
    · simp only [List.getElem?_toArray, List.getElem?_cons_succ, List.getElem?_cons_zero] <;> rfl
    · exact fun _ _ _ h => h
    · rfl
    · (intro w hSw; (try dsimp only at hSw); go_simp; try (with_reducible rfl))
    try simp only [Act.put, List.setIfInBounds_toArray, List.set_cons_zero, List.set_cons_succ]
    refine wpAnyH_ready (rs := [9]) (by kernel_rfl) (by simp) ?_
    refine AllReadyH.cons (o := _) (by simp only [List.getElem?_toArray, List.getElem?_cons_succ, List.getElem?_cons_zero] <;> rfl) (fun K hK => ?_) ?_
    · go_simp
      refine hK.out _ _ ?_ (fun hHeld => ?_)
      · (try dsimp only)
        exact KS.out _ (set5_other X5.out (by omega) _ _) (set5_other D5.out (by omega) _ _)
      clear hK K
      try simp only [Act.put, List.setIfInBounds_toArray, List.set_cons_zero, List.set_cons_succ]
      refine wpAnyH_take (i := 10) (oi := ?_) (v := ?_) ?_ (by kernel_rfl) (by kernel_rfl) (by kernel_rfl) ?_ (Or.inl ⟨?_, ?_⟩) (by assumption) ?_
      rotate_left 2
      · simp only [List.getElem?_toArray, List.getElem?_cons_succ, List.getElem?_cons_zero] <;> rfl
      · exact fun _ _ _ h => h
      · rfl
      · (intro w hSw; (try dsimp only at hSw); go_simp; try (with_reducible rfl))
      try simp only [Act.put, List.setIfInBounds_toArray, List.set_cons_zero, List.set_cons_succ]
      refine wpAnyH_done (by kernel_rfl) ?_ _
      clear d0 d1 d2 d3 d4 z1
      obtain ⟨W9, hW9⟩ : ∃ W9, W9 = set5 w5 (q + 1 + 1) r' (.slice xa xn xc) := ⟨_, rfl⟩
      change Exit.then _ _ _ _ (set5 w5 (q + 1 + 1) r' (.slice xa xn xc))
      rw [← hW9]
      have F9 : Fresh W9 (q + 1 + 1) (rcells r' (.slice xa xn xc)) TR := by rw [hW9]; exact set5_fresh S5.out r' _
      have T9 : Hid (Turned [a, m] W W9) := by show Turned _ _ _; rw [hW9]; exact Turned.set5 ((Turned.of_below B4.out).trans T5.out) (by rw [← HQ.out]; omega) r' _
      have A9 : Hid (At W9 p a m s') := by
        have hne := A5.out.ne S5.out
        show At _ _ _ _ _
        rw [hW9]
        exact ⟨set5_other A5.out.hp (Ne.symm hne.1) r' _, set5_other A5.out.ha (Ne.symm hne.2.1) r' _, by
          obtain ⟨es, cc, hb, hi⟩ := A5.out.hm
          exact ⟨es, cc, (set5_heap w5 _ r' _ m (Ne.symm hne.2.2)).trans hb, hi⟩⟩
      have R9 : Hid (Row W9 0 (.slice xa xn xc) r'.l) := by show Row _ _ _ _; rw [hW9]; exact (R4.out.turned A4.out T5.out).set5' S5.out r' _
      clear hW9
      obtain ⟨d0, d1, d2, d3, d4⟩ := rcells_at F9
      go_wp2_with fail
      refine bodyPost_ret (v := .tuple #[rv r' (.slice xa xn xc), .bool true]) ?_ rfl ⟨_, rfl, T9.out, A9.out, R9.out⟩
      simp [results, Try.results11, go_sem, d0, d1, d2, d3, d4]
    exact AllReadyH.nil
  exact AllReadyH.nil

theorem does_Pay {W : World} {p a m : Nat} {s : Pu} {N : Int} {r : Rp} {v : Value} (c tk k b : Int) (hx : c % 6 = 5) (h : At W p a m s) (ho : s.Ok N) (hN : N ≤ 1000000000) (hr : Rel s r) (hv : Row W 0 v r.l) (hn : r.l.length ≤ 999) (hk : U k) (hb : U b) :
    ∃ r', Rel (opS s (c % 6) tk k b).1 r' ∧ r'.l.length ≤ r.l.length + 1 ∧ Calls Try.prog 11 #[.pointer (some ⟨p, 0, none⟩), rv r v, deedV c tk k b] W (DP W p a m (opS s (c % 6) tk k b).1 r') := by
  have HK := Lib.hid (pick_any c 6 (by decide) (by decide))
  rw [hx] at HK ⊢
  obtain ⟨r', q1, q2, hM, hP⟩ := do_pay hr ho hn tk k b hk hb
  refine ⟨r', q1, q2, ?_⟩
  have HM := Lib.hid hM
  have HP := Lib.hid hP
  obtain ⟨s', hs'⟩ : ∃ s', (opS s 5 tk k b).1 = s' := ⟨_, rfl⟩
  obtain ⟨n', hn'⟩ : ∃ n', (opS s 5 tk k b).2.1 = n' := ⟨_, rfl⟩
  obtain ⟨e', he'⟩ : ∃ e', (opS s 5 tk k b).2.2 = e' := ⟨_, rfl⟩
  rw [hs', he'] at HP
  rw [he'] at HM
  rw [hs']
  clear hM hP hs' hn' he' q1 q2 ho hr hn hk hb hN hx
  obtain ⟨va, vn, vc, rfl⟩ := hv.form
  obtain ⟨q, hq⟩ : ∃ q, q = W.heap.size := ⟨_, rfl⟩
  have HQ := Lib.hid hq
  have B1 : Hid (Below W.heap.size W (W3of W r (.slice va vn vc) c tk k b)) := Below.new (Below.new (Below.new (Below.refl _ _) _) _) _
  have D1 : Hid (Fresh (W3of W r (.slice va vn vc) c tk k b) (q + 1) (dcells c tk k b) TD) := (Fresh.new _ _ _ _ (by rw [hq]; simp)).alloc _
  have V1 : Hid (Fresh (W3of W r (.slice va vn vc) c tk k b) q (rcells r (.slice va vn vc)) TR) := ((Fresh.new _ _ _ _ hq.symm).alloc _).alloc _
  have S1 : Hid (Fresh (W3of W r (.slice va vn vc) c tk k b) (q + 1 + 1) #[.int .u64 0, .int .u64 0, .int .u64 0, .int .u64 0, .slice none 0 0] TR) := Fresh.new _ _ _ _ (by rw [hq]; simp)
  obtain ⟨W1, hW1⟩ : ∃ W1, W3of W r (.slice va vn vc) c tk k b = W1 := ⟨_, rfl⟩
  have HEQ := Lib.hid hW1
  rw [hW1] at B1 D1 V1 S1
  have A1 := Lib.hid (h.below B1.out)
  have R1 := Lib.hid (hv.below B1.out)
  clear h hv hW1 hq
  obtain ⟨c0, c1, c2, c3, c4⟩ := rcells_at V1.out
  have e0 := D1.out.cell 0
  have e1 := D1.out.cell 1
  have e2 := D1.out.cell 2
  have e3 := D1.out.cell 3
  simp only [List.getElem?_toArray, List.getElem?_cons_zero, List.getElem?_cons_succ] at e0 e1 e2 e3
  go_enter Try.func11, Try.ntmps11
  go_upto_region 1 with fail
  change Code.wp _ _ _ _ (W3of W r (.slice va vn vc) c tk k b)
  rw [HEQ.out, ← HQ.out]
  go_wp2_with fail
  refine (HK.out _).mono ?_
  rintro e w2 ⟨rfl, hw2⟩
  subst hw2
  go_wp2_with fail
  refine (HM.out _ _ R1.out).mono ?_
  rintro e w3 ⟨v', rfl, hb3, hrow⟩
  obtain ⟨xa, xn, xc, rfl⟩ := hrow.form
  clear c0 c1 c2 c3 c4 e0 e1 e2 e3
  go_upto_region 13 with fail
  obtain ⟨y, hy⟩ : ∃ y, y = w3.heap.size := ⟨_, rfl⟩
  have hyq : q + 1 + 1 < y := by rw [hy]; exact Nat.lt_of_lt_of_le S1.out.lt hb3.size
  obtain ⟨W4, hW4⟩ : ∃ W, W = w3.alloc (.cells (rcells r' (.slice xa xn xc)) TR) := ⟨_, rfl⟩
  change Code.wp _ _ _ _ (w3.alloc (.cells (rcells r' (.slice xa xn xc)) TR))
  rw [← hW4, ← hy]
  have Bx : Below w2.heap.size w2 W4 := by rw [hW4]; exact Below.new hb3 _
  have A4 := Lib.hid (A1.out.below Bx)
  have D4 := Lib.hid (D1.out.below Bx)
  have S4 := Lib.hid (S1.out.below Bx)
  have B4 := Lib.hid (Below.step B1.out Bx)
  have X4 : Hid (Fresh W4 y (rcells r' (.slice xa xn xc)) TR) := by show Fresh _ _ _ _; rw [hW4]; exact Fresh.new w3 _ _ _ hy.symm
  have R4 : Hid (Row W4 0 (.slice xa xn xc) r'.l) := by show Row _ _ _ _; rw [hW4]; exact hrow.below (Below.new (Below.refl _ _) _)
  clear hb3 hrow hy hW4 Bx
  have hny := (A4.out.ne X4.out).2
  have hns := (A4.out.ne S4.out).2
  have hnd : q + 1 ≠ a ∧ q + 1 ≠ m := by
    refine ⟨?_, ?_⟩
    · intro e
      have h1 := A4.out.ha
      have h2 := D4.out
      rw [e] at h2
      unfold Fresh at h1 h2
      rw [h2] at h1
      simp [accCells] at h1
    · intro e
      obtain ⟨es, cc, hb, _⟩ := A4.out.hm
      have h2 := D4.out
      rw [e] at h2
      unfold Fresh at h2
      rw [hb] at h2
      cases h2
  have HNE : Hid (y ∉ [a, m] ∧ q + 1 + 1 ∉ [a, m] ∧ q + 1 ∉ [a, m]) := by
    refine ⟨?_, ?_, ?_⟩
    · simp; exact hny
    · simp; exact hns
    · simp; exact hnd
  clear hny hns hnd
  have A4d : Hid (At W4.drew p a m s) := ⟨A4.out.hp.drew, A4.out.ha.drew, by obtain ⟨es, cc, hb, hi⟩ := A4.out.hm; exact ⟨es, cc, hb, hi⟩⟩
  have KS : Hid (∀ W, Fresh W y (rcells r' (.slice xa xn xc)) TR → Fresh W (q + 1) (dcells c tk k b) TD → W.cell? ⟨y, 0, none⟩ = some (.int .u64 r'.gk) ∧ W.cell? ⟨y, 1, none⟩ = some (.int .u64 r'.gb) ∧ W.cell? ⟨y, 2, none⟩ = some (.int .u64 r'.hk) ∧ W.cell? ⟨y, 3, none⟩ = some (.int .u64 r'.hb) ∧ W.cell? ⟨y, 4, none⟩ = some (.slice xa xn xc) ∧ W.cell? ⟨q + 1, 1, none⟩ = some (.int .i64 tk) ∧ W.cell? ⟨q + 1, 2, none⟩ = some (.int .u64 k) ∧ W.cell? ⟨q + 1, 3, none⟩ = some (.int .u64 b)) :=
    fun W hX hD => ⟨hX.cell 0, hX.cell 1, hX.cell 2, hX.cell 3, hX.cell 4, hD.cell 1, hD.cell 2, hD.cell 3⟩
  have X4d := X4.out.drew
  have D4d := D4.out.drew
  refine wp_region_held_drew (S := (fun W => W.cell? ⟨y, 0, none⟩ = some (.int .u64 r'.gk) ∧ W.cell? ⟨y, 1, none⟩ = some (.int .u64 r'.gb) ∧ W.cell? ⟨y, 2, none⟩ = some (.int .u64 r'.hk) ∧ W.cell? ⟨y, 3, none⟩ = some (.int .u64 r'.hb) ∧ W.cell? ⟨y, 4, none⟩ = some (.slice xa xn xc) ∧ W.cell? ⟨q + 1, 1, none⟩ = some (.int .i64 tk) ∧ W.cell? ⟨q + 1, 2, none⟩ = some (.int .u64 k) ∧ W.cell? ⟨q + 1, 3, none⟩ = some (.int .u64 b))) (by kernel_rfl) ?_ (fun hHeld => ?_)
  · (try dsimp only)
    exact KS.out _ X4d D4d
  refine wpAnyH_take (i := 0) (oi := ?_) (v := ?_) ?_ (by kernel_rfl) (by kernel_rfl) (by kernel_rfl) ?_ (Or.inl ⟨?_, ?_⟩) (by assumption) ?_
  rotate_left 2
  · simp only [List.getElem?_toArray, List.getElem?_cons_succ, List.getElem?_cons_zero] <;> rfl
  · exact fun _ _ _ h => h
  · rfl
  · (intro w hSw; (try dsimp only at hSw); go_simp; try (with_reducible rfl))
  try simp only [Act.put, List.setIfInBounds_toArray, List.set_cons_zero, List.set_cons_succ]
  refine wpAnyH_take (i := 1) (oi := ?_) (v := ?_) ?_ (by kernel_rfl) (by kernel_rfl) (by kernel_rfl) ?_ (Or.inl ⟨?_, ?_⟩) (by assumption) ?_
  rotate_left 2
  · simp only [List.getElem?_toArray, List.getElem?_cons_succ, List.getElem?_cons_zero] <;> rfl
  · exact fun _ _ _ h => h
  · rfl
  · (intro w hSw; (try dsimp only at hSw); go_simp; try (with_reducible rfl))
  try simp only [Act.put, List.setIfInBounds_toArray, List.set_cons_zero, List.set_cons_succ]
  refine wpAnyH_take (i := 2) (oi := ?_) (v := ?_) ?_ (by kernel_rfl) (by kernel_rfl) (by kernel_rfl) ?_ (Or.inl ⟨?_, ?_⟩) (by assumption) ?_
  rotate_left 2
  · simp only [List.getElem?_toArray, List.getElem?_cons_succ, List.getElem?_cons_zero] <;> rfl
  · exact fun _ _ _ h => h
  · rfl
  · (intro w hSw; (try dsimp only at hSw); go_simp; try (with_reducible rfl))
  try simp only [Act.put, List.setIfInBounds_toArray, List.set_cons_zero, List.set_cons_succ]
  refine wpAnyH_take (i := 3) (oi := ?_) (v := ?_) ?_ (by kernel_rfl) (by kernel_rfl) (by kernel_rfl) ?_ (Or.inl ⟨?_, ?_⟩) (by assumption) ?_
  rotate_left 2
  · simp only [List.getElem?_toArray, List.getElem?_cons_succ, List.getElem?_cons_zero] <;> rfl
  · exact fun _ _ _ h => h
  · rfl
  · (intro w hSw; (try dsimp only at hSw); go_simp; try (with_reducible rfl))
  try simp only [Act.put, List.setIfInBounds_toArray, List.set_cons_zero, List.set_cons_succ]
  refine wpAnyH_take (i := 4) (oi := ?_) (v := ?_) ?_ (by kernel_rfl) (by kernel_rfl) (by kernel_rfl) ?_ (Or.inl ⟨?_, ?_⟩) (by assumption) ?_
  rotate_left 2
  · simp only [List.getElem?_toArray, List.getElem?_cons_succ, List.getElem?_cons_zero] <;> rfl
  · exact fun _ _ _ h => h
  · rfl
  · (intro w hSw; (try dsimp only at hSw); go_simp; try (with_reducible rfl))
  try simp only [Act.put, List.setIfInBounds_toArray, List.set_cons_zero, List.set_cons_succ]
  refine wpAnyH_take (i := 5) (oi := ?_) (v := ?_) ?_ (by kernel_rfl) (by kernel_rfl) (by kernel_rfl) ?_ (Or.inl ⟨?_, ?_⟩) (by assumption) ?_
  rotate_left 2
  · simp only [List.getElem?_toArray, List.getElem?_cons_succ, List.getElem?_cons_zero] <;> rfl
  · exact fun _ _ _ h => h
  · rfl
  · (intro w hSw; (try dsimp only at hSw); go_simp; try (with_reducible rfl))
  try simp only [Act.put, List.setIfInBounds_toArray, List.set_cons_zero, List.set_cons_succ]
  refine wpAnyH_take (i := 7) (oi := ?_) (v := ?_) ?_ (by kernel_rfl) (by kernel_rfl) (by kernel_rfl) ?_ (Or.inl ⟨?_, ?_⟩) (by assumption) ?_
  rotate_left 2
  · simp only [List.getElem?_toArray, List.getElem?_cons_succ, List.getElem?_cons_zero] <;> rfl
  · exact fun _ _ _ h => h
  · rfl
  · (intro w hSw; (try dsimp only at hSw); go_simp; try (with_reducible rfl))
  try simp only [Act.put, List.setIfInBounds_toArray, List.set_cons_zero, List.set_cons_succ]
  refine wpAnyH_ready (rs := [6]) (by kernel_rfl) (by simp) ?_
  refine AllReadyH.cons (o := _) (by simp only [List.getElem?_toArray, List.getElem?_cons_succ, List.getElem?_cons_zero] <;> rfl) (fun K hK => ?_) ?_
  · go_simp
    refine (HP.out _ _ _ _ A4d.out).mono ?_
    rintro e w5 ⟨rfl, ht5, hA5⟩
    have X5 := Lib.hid (ht5.other X4d HNE.out.1)
    have D5 := Lib.hid (ht5.other D4d HNE.out.2.2)
    have S5 := Lib.hid (ht5.other S4.out.drew HNE.out.2.1)
    have A5 := Lib.hid hA5
    have T5 : Hid (Turned [a, m] W4 w5) := ((Turned.refl [a, m] W4).drew).trans ht5
    clear hA5 ht5
    have d0 := S5.out.cell 0
    have d1 := S5.out.cell 1
    have d2 := S5.out.cell 2
    have d3 := S5.out.cell 3
    have d4 := S5.out.cell 4
    simp only [List.getElem?_toArray, List.getElem?_cons_zero, List.getElem?_cons_succ] at d0 d1 d2 d3 d4
    have z1 := fun i => S5.out.thawed i
    go_wp2_with fail
    refine hK.out _ _ ?_ (fun hHeld => ?_)
    · (try dsimp only)
      exact KS.out _ X5.out D5.out
    clear hK K
    try simp only [Act.put, List.setIfInBounds_toArray, List.set_cons_zero, List.set_cons_succ]
    refine wpAnyH_take (i := 8) (oi := ?_) (v := ?_) ?_ (by kernel_rfl) (by kernel_rfl) (by kernel_rfl) ?_ (Or.inl ⟨?_, ?_⟩) (by assumption) ?_
    rotate_left 2
    · simp only [List.getElem?_toArray, List.getElem?_cons_succ, List.getElem?_cons_zero] <;> rfl
    · exact fun _ _ _ h => h
    · rfl
    · (intro w hSw; (try dsimp only at hSw); go_simp; try (with_reducible rfl))
    try simp only [Act.put, List.setIfInBounds_toArray, List.set_cons_zero, List.set_cons_succ]
    refine wpAnyH_ready (rs := [9]) (by kernel_rfl) (by simp) ?_
    refine AllReadyH.cons (o := _) (by simp only [List.getElem?_toArray, List.getElem?_cons_succ, List.getElem?_cons_zero] <;> rfl) (fun K hK => ?_) ?_
    · go_simp
      refine hK.out _ _ ?_ (fun hHeld => ?_)
      · (try dsimp only)
        exact KS.out _ (set5_other X5.out (by omega) _ _) (set5_other D5.out (by omega) _ _)
      clear hK K
      try simp only [Act.put, List.setIfInBounds_toArray, List.set_cons_zero, List.set_cons_succ]
      refine wpAnyH_take (i := 10) (oi := ?_) (v := ?_) ?_ (by kernel_rfl) (by kernel_rfl) (by kernel_rfl) ?_ (Or.inl ⟨?_, ?_⟩) (by assumption) ?_
      rotate_left 2
      · simp only [List.getElem?_toArray, List.getElem?_cons_succ, List.getElem?_cons_zero] <;> rfl
      · exact fun _ _ _ h => h
      · rfl
      · (intro w hSw; (try dsimp only at hSw); go_simp; try (with_reducible rfl))
      try simp only [Act.put, List.setIfInBounds_toArray, List.set_cons_zero, List.set_cons_succ]
      refine wpAnyH_done (by kernel_rfl) ?_ _
      clear d0 d1 d2 d3 d4 z1
      obtain ⟨W9, hW9⟩ : ∃ W9, W9 = set5 w5 (q + 1 + 1) r' (.slice xa xn xc) := ⟨_, rfl⟩
      change Exit.then _ _ _ _ (set5 w5 (q + 1 + 1) r' (.slice xa xn xc))
      rw [← hW9]
      have F9 : Fresh W9 (q + 1 + 1) (rcells r' (.slice xa xn xc)) TR := by rw [hW9]; exact set5_fresh S5.out r' _
      have T9 : Hid (Turned [a, m] W W9) := by show Turned _ _ _; rw [hW9]; exact Turned.set5 ((Turned.of_below B4.out).trans T5.out) (by rw [← HQ.out]; omega) r' _
      have A9 : Hid (At W9 p a m s') := by
        have hne := A5.out.ne S5.out
        show At _ _ _ _ _
        rw [hW9]
        exact ⟨set5_other A5.out.hp (Ne.symm hne.1) r' _, set5_other A5.out.ha (Ne.symm hne.2.1) r' _, by
          obtain ⟨es, cc, hb, hi⟩ := A5.out.hm
          exact ⟨es, cc, (set5_heap w5 _ r' _ m (Ne.symm hne.2.2)).trans hb, hi⟩⟩
      have R9 : Hid (Row W9 0 (.slice xa xn xc) r'.l) := by show Row _ _ _ _; rw [hW9]; exact (R4.out.turned A4.out T5.out).set5' S5.out r' _
      clear hW9
      obtain ⟨d0, d1, d2, d3, d4⟩ := rcells_at F9
      go_wp2_with fail
      refine bodyPost_ret (v := .tuple #[rv r' (.slice xa xn xc), .bool true]) ?_ rfl ⟨_, rfl, T9.out, A9.out, R9.out⟩
      simp [results, Try.results11, go_sem, d0, d1, d2, d3, d4]
    exact AllReadyH.nil
  exact AllReadyH.nil

theorem does_Reserve {W : World} {p a m : Nat} {s : Pu} {N : Int} {r : Rp} {v : Value} (c tk k b : Int) (x : Int) (hx01 : x = 0 ∨ x = 1) (hx : c % 6 = x) (h : At W p a m s) (ho : s.Ok N) (hN : N ≤ 1000000000) (hr : Rel s r) (hv : Row W 0 v r.l) (hn : r.l.length ≤ 999) (hk : U k) (hb : U b) :
    ∃ r', Rel (opS s (c % 6) tk k b).1 r' ∧ r'.l.length ≤ r.l.length + 1 ∧ Calls Try.prog 11 #[.pointer (some ⟨p, 0, none⟩), rv r v, deedV c tk k b] W (DP W p a m (opS s (c % 6) tk k b).1 r') := by
  have HK := Lib.hid (pick_any c 6 (by decide) (by decide))
  rw [hx] at HK ⊢
  obtain ⟨r', q1, q2, hM, hP⟩ := do_res hr ho hN hn x tk k b hx01 hk hb
  refine ⟨r', q1, q2, ?_⟩
  have HM := Lib.hid hM
  have HP := Lib.hid hP
  obtain ⟨s', hs'⟩ : ∃ s', (opS s x tk k b).1 = s' := ⟨_, rfl⟩
  obtain ⟨n', hn'⟩ : ∃ n', (opS s x tk k b).2.1 = n' := ⟨_, rfl⟩
  obtain ⟨e', he'⟩ : ∃ e', (opS s x tk k b).2.2 = e' := ⟨_, rfl⟩
  rw [hs', he', hn'] at HP
  rw [he', hn'] at HM
  rw [hs']
  clear hM hP hs' hn' he' q1 q2 ho hr hn hk hb hN hx
  obtain ⟨va, vn, vc, rfl⟩ := hv.form
  obtain ⟨q, hq⟩ : ∃ q, q = W.heap.size := ⟨_, rfl⟩
  have HQ := Lib.hid hq
  have B1 : Hid (Below W.heap.size W (W3of W r (.slice va vn vc) c tk k b)) := Below.new (Below.new (Below.new (Below.refl _ _) _) _) _
  have D1 : Hid (Fresh (W3of W r (.slice va vn vc) c tk k b) (q + 1) (dcells c tk k b) TD) := (Fresh.new _ _ _ _ (by rw [hq]; simp)).alloc _
  have V1 : Hid (Fresh (W3of W r (.slice va vn vc) c tk k b) q (rcells r (.slice va vn vc)) TR) := ((Fresh.new _ _ _ _ hq.symm).alloc _).alloc _
  have S1 : Hid (Fresh (W3of W r (.slice va vn vc) c tk k b) (q + 1 + 1) #[.int .u64 0, .int .u64 0, .int .u64 0, .int .u64 0, .slice none 0 0] TR) := Fresh.new _ _ _ _ (by rw [hq]; simp)
  obtain ⟨W1, hW1⟩ : ∃ W1, W3of W r (.slice va vn vc) c tk k b = W1 := ⟨_, rfl⟩
  have HEQ := Lib.hid hW1
  rw [hW1] at B1 D1 V1 S1
  have A1 := Lib.hid (h.below B1.out)
  have R1 := Lib.hid (hv.below B1.out)
  clear h hv hW1 hq
  have hn2 : ¬ x = 2 := by omega
  have hn3 : ¬ x = 3 := by omega
  have hn4 : ¬ x = 4 := by omega
  have hn5 : ¬ x = 5 := by omega
  clear hx01
  obtain ⟨c0, c1, c2, c3, c4⟩ := rcells_at V1.out
  have e0 := D1.out.cell 0
  have e1 := D1.out.cell 1
  have e2 := D1.out.cell 2
  have e3 := D1.out.cell 3
  simp only [List.getElem?_toArray, List.getElem?_cons_zero, List.getElem?_cons_succ] at e0 e1 e2 e3
  go_enter Try.func11, Try.ntmps11
  go_upto_region 1 with fail
  change Code.wp _ _ _ _ (W3of W r (.slice va vn vc) c tk k b)
  rw [HEQ.out, ← HQ.out]
  go_wp2_with fail
  refine (HK.out _).mono ?_
  rintro e w2 ⟨rfl, hw2⟩
  subst hw2
  go_wp2_with fail
  refine (HM.out _ _ R1.out).mono ?_
  rintro e w3 ⟨v', rfl, hb3, hrow⟩
  obtain ⟨xa, xn, xc, rfl⟩ := hrow.form
  clear c0 c1 c2 c3 c4 e0 e1 e2 e3
  go_upto_region 15 with fail
  obtain ⟨y, hy⟩ : ∃ y, y = w3.heap.size := ⟨_, rfl⟩
  have hyq : q + 1 + 1 < y := by rw [hy]; exact Nat.lt_of_lt_of_le S1.out.lt hb3.size
  obtain ⟨W4, hW4⟩ : ∃ W, W = w3.alloc (.cells (rcells r' (.slice xa xn xc)) TR) := ⟨_, rfl⟩
  change Code.wp _ _ _ _ (w3.alloc (.cells (rcells r' (.slice xa xn xc)) TR))
  rw [← hW4, ← hy]
  have Bx : Below w2.heap.size w2 W4 := by rw [hW4]; exact Below.new hb3 _
  have A4 := Lib.hid (A1.out.below Bx)
  have D4 := Lib.hid (D1.out.below Bx)
  have S4 := Lib.hid (S1.out.below Bx)
  have B4 := Lib.hid (Below.step B1.out Bx)
  have X4 : Hid (Fresh W4 y (rcells r' (.slice xa xn xc)) TR) := by show Fresh _ _ _ _; rw [hW4]; exact Fresh.new w3 _ _ _ hy.symm
  have R4 : Hid (Row W4 0 (.slice xa xn xc) r'.l) := by show Row _ _ _ _; rw [hW4]; exact hrow.below (Below.new (Below.refl _ _) _)
  clear hb3 hrow hy hW4 Bx
  have hny := (A4.out.ne X4.out).2
  have hns := (A4.out.ne S4.out).2
  have hnd : q + 1 ≠ a ∧ q + 1 ≠ m := by
    refine ⟨?_, ?_⟩
    · intro e
      have h1 := A4.out.ha
      have h2 := D4.out
      rw [e] at h2
      unfold Fresh at h1 h2
      rw [h2] at h1
      simp [accCells] at h1
    · intro e
      obtain ⟨es, cc, hb, _⟩ := A4.out.hm
      have h2 := D4.out
      rw [e] at h2
      unfold Fresh at h2
      rw [hb] at h2
      cases h2
  have HNE : Hid (y ∉ [a, m] ∧ q + 1 + 1 ∉ [a, m] ∧ q + 1 ∉ [a, m]) := by
    refine ⟨?_, ?_, ?_⟩
    · simp; exact hny
    · simp; exact hns
    · simp; exact hnd
  clear hny hns hnd
  have e2 := D4.out.cell 2
  have e3 := D4.out.cell 3
  simp only [List.getElem?_toArray, List.getElem?_cons_zero, List.getElem?_cons_succ] at e2 e3
  go_wp2_with fail
  refine (HP.out _ _ _ _ A4.out).mono ?_
  rintro e w5 ⟨rfl, ht5, hA5⟩
  have X5 := Lib.hid (ht5.other X4.out HNE.out.1)
  have S5 := Lib.hid (ht5.other S4.out HNE.out.2.1)
  have A5 := Lib.hid hA5
  have T5 := Lib.hid ht5
  clear hA5 ht5 e2 e3
  obtain ⟨c0, c1, c2, c3, c4⟩ := rcells_at X5.out
  have d0 := S5.out.cell 0
  have d1 := S5.out.cell 1
  have d2 := S5.out.cell 2
  have d3 := S5.out.cell 3
  have d4 := S5.out.cell 4
  simp only [List.getElem?_toArray, List.getElem?_cons_zero, List.getElem?_cons_succ] at d0 d1 d2 d3 d4
  have z1 := fun i => S5.out.thawed i
  have b1 : (n' == n') = true := beq_self_eq_true n'
  have b2 : (e' == e') = true := beq_self_eq_true e'
  go_wp2_with fail
  clear c0 c1 c2 c3 c4 d0 d1 d2 d3 d4 z1 b1 b2
  obtain ⟨W9, hW9⟩ : ∃ W9, W9 = set5 w5 (q + 1 + 1) r' (.slice xa xn xc) := ⟨_, rfl⟩
  change bodyPost _ _ _ _ _ (set5 w5 (q + 1 + 1) r' (.slice xa xn xc))
  rw [← hW9]
  have F9 : Fresh W9 (q + 1 + 1) (rcells r' (.slice xa xn xc)) TR := by rw [hW9]; exact set5_fresh S5.out r' _
  have T9 : Hid (Turned [a, m] W W9) := by show Turned _ _ _; rw [hW9]; exact Turned.set5 ((Turned.of_below B4.out).trans T5.out) (by rw [← HQ.out]; omega) r' _
  have A9 : Hid (At W9 p a m s') := by
    have hne := A5.out.ne S5.out
    show At _ _ _ _ _
    rw [hW9]
    exact ⟨set5_other A5.out.hp (Ne.symm hne.1) r' _, set5_other A5.out.ha (Ne.symm hne.2.1) r' _, by
      obtain ⟨es, cc, hb, hi⟩ := A5.out.hm
      exact ⟨es, cc, (set5_heap w5 _ r' _ m (Ne.symm hne.2.2)).trans hb, hi⟩⟩
  have R9 : Hid (Row W9 0 (.slice xa xn xc) r'.l) := by show Row _ _ _ _; rw [hW9]; exact (R4.out.turned A4.out T5.out).set5' S5.out r' _
  clear hW9
  obtain ⟨d0, d1, d2, d3, d4⟩ := rcells_at F9
  refine bodyPost_ret (v := .tuple #[rv r' (.slice xa xn xc), .bool true]) ?_ rfl ⟨_, rfl, T9.out, A9.out, R9.out⟩
  simp [results, Try.results11, go_sem, d0, d1, d2, d3, d4]

end Go.Proofs.Ytpnddccanelcnaa
