/- The iterator along an art: each pair is looked up when it is needed. -/
import Derived.Test.YtfffifmpfkkgbaaWalkA
import Derived.Test.YtfffifmpfkkgbaaSeqSt
import Derived.Test.YtfffifmpfkkgbaaMix
import Derived.Test.YtfffifmpfkkgbaaAllS
import Derived.OwnWalkIn
import Derived.TacticsInMore
import Derived.LoopNIn
import Derived.LoopIn
import Derived.TacticsIn
namespace Go.Proofs.Ytfffifmpfkkgbaa
open Go.RowKit Go.Shelf
attribute [local go_sem] Oper.semAt_some
set_option maxRecDepth 1000000
set_option maxHeartbeats 4000000

def pairV (z : Pr) : Value := .agg #[.string z.1, .string z.2]
/-- A block is not that of the row in a box. -/
def NoRow (oc : Option Nat) (A : World) (b : Nat) : Prop := ∀ c, oc = some c → ∀ v, A.cell? ⟨c, 0, none⟩ = some v → v.ownBlock ≠ some b
/-- What a walk's caller gives. -/
structure WalkBy (w : World) (bw p : Nat) (b0 : ByteArray) (L : Nat → List Pr) (mu : Nat → ByteArray → Nat) (oc : Option Nat) (Kp : World → World → Prop) (St : List Pr → World → Prop) : Prop where
  len : ∀ i, (L i).length < 100000
  cell : ∀ A B, Kp A B → Fresh A bw #[.pointer (some ⟨p, 0, none⟩)] 74 → Fresh B bw #[.pointer (some ⟨p, 0, none⟩)] 74
  art : ∀ pre W, St pre W → ∃ q e m, ArtAt W p q e m (L pre.length)
  low : ∀ c, oc = some c → c < w.heap.size
  row : ∀ pre W c v g, oc = some c → St pre W → W.cell? ⟨c, 0, none⟩ = some v → v.ownBlock = some g → g < W.heap.size
  keep : ∀ A B b cs, w.heap.size + 2 ≤ b → Kp A B → NoRow oc A b → Fresh A b cs 34 → Fresh B b cs 34
  mu : ∀ i b z, nextP b (L i) = some z → mu (i + 1) (zup z.1) < mu i b
def stepV (o : Option Pr) : Array Value × Bool := match o with | some z => (#[.string z.1, .string z.2], true) | none => (#[.string ⟨#[]⟩, .string ⟨#[]⟩], false)
theorem step_form (o : Option Pr) : ∃ k y r, stepV o = (#[.string k, .string y], r) := by
  cases o with
  | none => exact ⟨_, _, _, rfl⟩
  | some z => exact ⟨_, _, _, rfl⟩
theorem least_step {W : World} {p q e m : Nat} {l : List Pr} (h : ArtAt W p q e m l) (hn : l.length < 100000) (x : ByteArray) :
    Calls Try.prog 51 #[.agg #[.pointer (some ⟨p, 0, none⟩)], .string x] W fun e' w' => e' = .returned (.tuple #[.agg (stepV (nextP x l)).1, .bool (stepV (nextP x l)).2]) ∧ Below W.heap.size W w' := by
  refine (least_any h hn x).mono ?_
  rintro e1 w1 ⟨rfl, h1⟩
  refine ⟨?_, h1⟩
  unfold leastV stepV
  cases nextP x l <;> rfl
/-! ### The least of some numbers -/
theorem exists_least (P : Nat → Prop) : (∃ n, P n) → ∃ n, P n ∧ ∀ m, P m → n ≤ m := by
  rintro ⟨n, hn⟩
  induction n using Nat.strongRecOn with
  | ind n ih =>
    by_cases h : ∃ m, m < n ∧ P m
    · obtain ⟨m, h1, h2⟩ := h
      exact ih m h1 h2
    · refine ⟨n, hn, fun m hm => ?_⟩
      rcases Nat.lt_or_ge m n with h1 | h1
      · exact absurd ⟨m, h1, hm⟩ h
      · exact h1
open Classical in
noncomputable def leastN (P : Nat → Prop) : Nat := if h : ∃ n, P n then (exists_least P h).choose else 0
theorem leastN_is {P : Nat → Prop} (h : ∃ n, P n) : P (leastN P) := by
  unfold leastN
  rw [dif_pos h]
  exact (exists_least P h).choose_spec.1
theorem leastN_le {P : Nat → Prop} {n : Nat} (h : P n) : leastN P ≤ n := by
  unfold leastN
  rw [dif_pos ⟨n, h⟩]
  exact (exists_least P ⟨n, h⟩).choose_spec.2 n h
/-- Where the walk stands ahead of a round. -/
def WRel (w : World) (bw p : Nat) (b0 : ByteArray) (L : Nat → List Pr) (oc : Option Nat) (J : List Pr → World → Prop) (pre : List Pr) (bv iv : Value) (wr : World) : Prop :=
  ∃ k y r B, bv = .pointer (some ⟨B, 0, none⟩) ∧ iv = .bool r ∧ stepV (nextP (bdOf b0 pre) (L pre.length)) = (#[.string k, .string y], r) ∧ J pre wr ∧ Fresh wr B #[.string k, .string y] 34 ∧ w.heap.size + 2 ≤ B ∧ NoRow oc wr B ∧ Fresh wr bw #[.pointer (some ⟨p, 0, none⟩)] 74
noncomputable def WMu (w : World) (bw p : Nat) (b0 : ByteArray) (L : Nat → List Pr) (mu : Nat → ByteArray → Nat) (oc : Option Nat) (J : List Pr → World → Prop) (bv iv : Value) (wr : World) : Nat :=
  leastN fun v => ∃ pre, WRel w bw p b0 L oc J pre bv iv wr ∧ v = mu pre.length (bdOf b0 pre)
theorem wmu_is {w : World} {bw p : Nat} {b0 : ByteArray} {L : Nat → List Pr} {mu : Nat → ByteArray → Nat} {oc : Option Nat} {J : List Pr → World → Prop} {bv iv : Value} {wr : World} (h : ∃ pre, WRel w bw p b0 L oc J pre bv iv wr) :
    ∃ pre, WRel w bw p b0 L oc J pre bv iv wr ∧ WMu w bw p b0 L mu oc J bv iv wr = mu pre.length (bdOf b0 pre) := by
  obtain ⟨pre, hp⟩ := h
  exact leastN_is (P := fun v => ∃ pre, WRel w bw p b0 L oc J pre bv iv wr ∧ v = mu pre.length (bdOf b0 pre)) ⟨_, pre, hp, rfl⟩
theorem wmu_le {w : World} {bw p : Nat} {b0 : ByteArray} {L : Nat → List Pr} {mu : Nat → ByteArray → Nat} {oc : Option Nat} {J : List Pr → World → Prop} {pre : List Pr} {bv iv : Value} {wr : World} (h : WRel w bw p b0 L oc J pre bv iv wr) :
    WMu w bw p b0 L mu oc J bv iv wr ≤ mu pre.length (bdOf b0 pre) := leastN_le ⟨pre, h, rfl⟩
theorem region_any_at {F : Fence} {n : Nat} {P : Program} {id : Nat} {ops : Array Oper} {Q : Exit → Act → World → Prop} {a : Act} {w W4 : World} (hm : P.follows .mixedOrders = true) (hd : w.drew = W4)
    (h : wpAnyIn F n P .any ops Q ops.size (Array.replicate ops.size false) a W4) : (Code.region id ops true).wpIn F n P Q a w := by
  subst hd
  exact wpIn_region_any hm h
theorem NoRow.cellsame {oc : Option Nat} {A B : World} {b : Nat} (h : NoRow oc A b) (hc : ∀ c, oc = some c → B.cell? ⟨c, 0, none⟩ = A.cell? ⟨c, 0, none⟩) : NoRow oc B b := fun c h1 v h2 => h c h1 v ((hc c h1).symm.trans h2)
theorem walk_own (n : Nat) (hn : 4 ≤ n) (bw bf p : Nat) (b0 : ByteArray) (L : Nat → List Pr) (mu : Nat → ByteArray → Nat) (oc : Option Nat) (Kp : World → World → Prop) (St : List Pr → World → Prop) (w : World) (h : WalkBy w bw p b0 L mu oc Kp St)
    (hbw : Fresh w bw #[.pointer (some ⟨p, 0, none⟩)] 74) (hbf : w.cell? ⟨bf, 0, none⟩ = some (.string b0)) :
    SeqSt Fence.wide n Try.prog 50 #[.pointer (some ⟨bw, 0, none⟩), .pointer (some ⟨bf, 0, none⟩)] (fun z => #[pairV z]) Kp (fun ys => nextP (bdOf b0 ys) (L ys.length) = none) (fun _ => True)
      (fun ys => ∃ pre z, ys = pre ++ [z] ∧ nextP (bdOf b0 pre) (L pre.length) = some z) St w := by
  intro l0 J Jx W hW hsz hJ hJx hSt hY h0
  have fw := hbw.below hW
  have HFW := Lib.hid fw
  have c0 := fw.cell 0
  simp only [List.getElem?_toArray, List.getElem?_cons_zero] at c0
  have c1 := (hW.cell (cell_lt' hbf)).trans hbf
  obtain ⟨q0, e0, m0, hA0⟩ := h.art [] W (hSt [] W h0)
  have HL0 := Lib.hid (least_step hA0 (h.len 0) b0)
  obtain ⟨k0, y0, r, hr0⟩ := step_form (nextP b0 (L 0))
  have HR0 := Lib.hid hr0
  simp only [List.length_nil] at HL0
  rw [hr0] at HL0
  dsimp only at HL0
  have HH := Lib.hid h
  have HJ := Lib.hid hJ
  have HJx := Lib.hid hJx
  have HS := Lib.hid hSt
  have HY := Lib.hid hY
  have H0 := Lib.hid h0
  have HZ := Lib.hid hsz
  clear h hbw hbf hW hsz hJ hJx hSt hY h0 hA0 hr0 fw
  refine callsIn_of_wp Try.func50 rfl trivial ?_ rfl
  simp only [Try.ntmps50, List.size_toArray, List.length_cons, List.length_nil, Nat.reduceAdd, Nat.reduceSub, Array.replicate_succ, Array.replicate_zero, List.push_toArray, List.append_toArray, List.nil_append, List.cons_append]
  gi_wp2
  refine ⟨trivial, fun _ => by omega, ?_⟩
  refine (callsIn_wide.2 HL0.out).mono ?_
  rintro e1 w1 ⟨rfl, hb1⟩
  have HB1 := Lib.hid hb1
  clear hb1
  gi_wp2
  obtain ⟨W2, hW2⟩ : ∃ W2, W2 = w1.alloc (.cells #[.string k0, .string y0] 34) := ⟨_, rfl⟩
  rw [← hW2]
  have B2 : Below W.heap.size W W2 := by rw [hW2]; exact Below.new HB1.out _
  have hrel0 : WRel w bw p b0 L oc J [] (.pointer (some ⟨w1.heap.size, 0, none⟩)) (.bool r) W2 := by
    have z := HZ.out
    have z1 := HB1.out.size
    refine ⟨k0, y0, r, w1.heap.size, rfl, rfl, HR0.out, HJ.out [] W W2 none H0.out ⟨B2.os, B2.tape, B2.output, B2.size, fun k hk _ => B2.block k hk⟩ (fun r e => by cases e), by rw [hW2]; exact Fresh.new _ _ _ _ rfl, by omega, ?_, HFW.out.below B2⟩
    intro c hc v hv e
    have hcl := HH.out.low c hc
    rw [B2.cell (p := ⟨c, 0, none⟩) (by show c < W.heap.size; omega)] at hv
    have := HH.out.row [] W c v _ hc (HS.out [] W H0.out) hv e
    omega
  have HREL0 := Lib.hid hrel0
  clear hW2 B2 hrel0 c0 c1
  gi_loopw [4, 5] (fun bv iv wr => ∃ pre, WRel w bw p b0 L oc J pre bv iv wr) (fun bv iv wr => WMu w bw p b0 L mu oc J bv iv wr)
  case atStart => exact ⟨[], HREL0.out⟩
  case round =>
    have hm := wmu_is (mu := mu) hrel
    obtain ⟨pre, hr, hmu⟩ := hm
    obtain ⟨k, y, r1, B, rfl, rfl, hst, hJp, hF, hBl, hNo, hc0⟩ := hr
    obtain ⟨q1, e1, m1, hA⟩ := HH.out.art pre wr (HS.out pre wr hJp)
    cases hnx : nextP (bdOf b0 pre) (L pre.length) with
    | none =>
      rw [hnx] at hst
      obtain rfl : r1 = false := by cases hst; rfl
      have H1 := Lib.hid (And.intro hnx hJp)
      clear hst hJp hF hBl hNo hc0 hmu hA hnx
      gi_wp2
      go_end0
      exact ⟨⟨_, rfl⟩, .inl ⟨pre, H1.out.1, H1.out.2⟩⟩
    | some z =>
      rw [hnx] at hst
      obtain ⟨zk, zv⟩ := z
      obtain ⟨rfl, rfl, rfl⟩ : zk = k ∧ zv = y ∧ r1 = true := by cases hst; exact ⟨rfl, rfl, rfl⟩
      obtain ⟨v0, hA0⟩ := hA.st
      have hks := Lib.hid (CodeP.size (hA0.txt _ (List.mem_of_getElem? (show (L pre.length)[_]? = some (zk, zv) from hnx))).1)
      obtain ⟨fn, tmps, asg, body, hy, hRd⟩ := HY.out pre (zk, zv) wr ⟨pre, (zk, zv), rfl, hnx⟩ hJp
      have d0 := hF.cell 0
      have d1 := hF.cell 1
      simp only [List.getElem?_toArray, List.getElem?_cons_zero, List.getElem?_cons_succ] at d0 d1
      have HRd := Lib.hid hRd
      have H1 := Lib.hid (And.intro hF (And.intro hBl (And.intro hNo hc0)))
      have HN := Lib.hid hnx
      have HMU := Lib.hid hmu
      unfold pairV at hy
      dsimp only at hy
      clear hst hJp hF hBl hNo hc0 hmu hA hA0 hRd hnx
      gi_wp2
      refine ⟨fun _ => by omega, HRd.out.mono ?_⟩
      rintro e3 W3 ⟨hK3, ⟨rfl, hJ3⟩ | ⟨rfl, hJ3⟩⟩
      · have F3 := HH.out.keep wr W3 B _ H1.out.2.1 hK3 H1.out.2.2.1 H1.out.1
        have C3 := HH.out.cell wr W3 hK3 H1.out.2.2.2
        obtain ⟨q3, e3, m3, hA3⟩ := HH.out.art _ W3 (HS.out _ W3 hJ3)
        have d0 := F3.cell 0
        have d1 := F3.cell 1
        simp only [List.getElem?_toArray, List.getElem?_cons_zero, List.getElem?_cons_succ] at d0 d1
        have HJ3 := Lib.hid hJ3
        have HW3 : Hid (w.heap.size + 2 ≤ W3.heap.size) := by
          have h1 := F3.lt
          have h2 := H1.out.2.1
          show _ ≤ _
          omega
        have HF3 := Lib.hid F3
        have HC3 := Lib.hid C3
        have HA3 := Lib.hid hA3
        clear hK3 F3 C3 hA3 hJ3
        gi_wp2
        obtain ⟨W4, hW4⟩ : ∃ W4, W4 = (W3.alloc (.cells #[.string zk, .string zv] 34)).drew := ⟨_, rfl⟩
        have B4 : Below W3.heap.size W3 W4 := by rw [hW4]; exact (Below.new (Below.refl _ _) _).drew
        have F4 : Fresh W4 W3.heap.size #[.string zk, .string zv] 34 := by rw [hW4]; exact (Fresh.new _ _ _ _ rfl).drew
        have C4 := (HC3.out.below B4).cell 0
        simp only [List.getElem?_toArray, List.getElem?_cons_zero] at C4
        have L4 := least_step (HA3.out.below B4) (HH.out.len _) (zup zk)
        have hbd : bdOf b0 (pre ++ [(zk, zv)]) = zup zk := bdOf_snoc _ _ _
        obtain ⟨k9, y9, r9, hs9⟩ := step_form (nextP (zup zk) (L (pre ++ [(zk, zv)]).length))
        rw [hs9] at L4
        dsimp only at L4
        have HL9 := Lib.hid L4
        have HF4 := Lib.hid F4
        have g0 := F4.cell 0
        have g1 := F4.cell 1
        simp only [List.getElem?_toArray, List.getElem?_cons_zero, List.getElem?_cons_succ] at g0 g1
        have FINR : Hid (∀ w9 : World, Below W4.heap.size W4 w9 → Fresh w9 W3.heap.size #[.string zk, .string zv] 34 → WRel w bw p b0 L oc J (pre ++ [(zk, zv)]) (.pointer (some ⟨W3.heap.size, 0, none⟩)) (.bool r9) ((w9.setCell ⟨W3.heap.size, 0, none⟩ (.string k9)).setCell ⟨W3.heap.size, 1, none⟩ (.string y9))) := by
          intro w9 hb9 hf9
          have hbw3 : Below W3.heap.size W3 w9 := Below.step B4 hb9
          have hz := HW3.out
          have hT : Below W3.heap.size W3 ((w9.setCell ⟨W3.heap.size, 0, none⟩ (.string k9)).setCell ⟨W3.heap.size, 1, none⟩ (.string y9)) :=
            Turned.below (S := [W3.heap.size]) hbw3 (((Turned.refl _ _).setCell (.inl (by simp)) _ _).setCell (.inl (by simp)) _ _) (by simp) hbw3.size
          refine ⟨k9, y9, r9, W3.heap.size, rfl, rfl, by rw [hbd]; exact hs9, HJ.out _ W3 _ none HJ3.out ⟨hT.os, hT.tape, hT.output, hT.size, fun k hk _ => hT.block k hk⟩ (fun r e => by cases e), (hf9.set 0 (.string k9)).set 1 (.string y9), by omega, ?_, HC3.out.below hT⟩
          intro c hc v hv e
          have hcl := HH.out.low c hc
          rw [hT.cell (p := ⟨c, 0, none⟩) (by show c < W3.heap.size; omega)] at hv
          have := HH.out.row _ W3 c v _ hc (HS.out _ W3 HJ3.out) hv e
          omega
        have HLT : Hid (∀ wz, WRel w bw p b0 L oc J (pre ++ [(zk, zv)]) (.pointer (some ⟨W3.heap.size, 0, none⟩)) (.bool r9) wz → WMu w bw p b0 L mu oc J (.pointer (some ⟨W3.heap.size, 0, none⟩)) (.bool r9) wz < WMu w bw p b0 L mu oc J (.pointer (some ⟨B, 0, none⟩)) (.bool true) wr) := by
          intro wz hz
          have h1 := wmu_le (mu := mu) hz
          have h2 := HH.out.mu pre.length (bdOf b0 pre) (zk, zv) HN.out
          rw [hbd, List.length_append] at h1
          rw [HMU.out]
          exact Nat.lt_of_le_of_lt h1 h2
        clear B4 F4 L4 hbd hs9 d0 d1
        refine region_any_at (by kernel_rfl) hW4.symm ?_
        clear hW4
        refine wpAnyIn_take (i := 0) (v := ?_) rfl rfl (by kernel_rfl) (by kernel_rfl) (by kernel_rfl) (fun _ _ _ h => h) ⟨Or.inl ⟨by rfl, ?_⟩, fun _ => rfl⟩ ?_; rotate_left 1; focus (intro w; go_simp; try with_reducible rfl)
        refine wpAnyIn_take (i := 2) (v := ?_) rfl rfl (by kernel_rfl) (by kernel_rfl) (by kernel_rfl) (fun _ _ _ h => h) ⟨Or.inl ⟨by rfl, ?_⟩, fun _ => rfl⟩ ?_; rotate_left 1; focus (intro w; go_simp; try with_reducible rfl)
        refine wpAnyIn_ready (rs := [1, 3]) (by kernel_rfl) (by simp) ?_
        refine AllReadyIn.cons rfl (fun K hK => ?_) ?_
        · go_simp
          refine hK _ _ ?_
          clear hK K
          refine wpAnyIn_ready (rs := [3]) (by kernel_rfl) (by simp) ?_
          refine AllReadyIn.cons rfl (fun K hK => ?_) ?_
          · go_simp
            refine hK _ _ ?_
            clear hK K
            refine wpAnyIn_ready (rs := [4]) (by kernel_rfl) (by simp) ?_
            refine AllReadyIn.cons rfl (fun K hK => ?_) ?_
            · go_simp
              refine ⟨trivial, fun _ => by omega, ?_⟩
              refine (callsIn_wide.2 (after_any zk (by have := hks.out; omega) _)).mono ?_
              rintro e9 w9 ⟨rfl, h9⟩
              replace h9 := h9.symm
              subst h9
              refine hK _ _ ?_
              clear hK K
              refine wpAnyIn_ready (rs := [5]) (by kernel_rfl) (by simp) ?_
              refine AllReadyIn.cons rfl (fun K hK => ?_) ?_
              · go_simp
                refine ⟨trivial, fun _ => by omega, ?_⟩
                refine (callsIn_wide.2 HL9.out).mono ?_
                rintro e9 w9 ⟨rfl, hb9⟩
                have HB9 := Lib.hid hb9
                have F9 := HF4.out.below hb9
                have t0 := F9.thawed 0
                have t1 := F9.thawed 1
                have x0 := F9.cell 0
                have x1 := F9.cell 1
                simp only [List.getElem?_toArray, List.getElem?_cons_zero, List.getElem?_cons_succ] at x0 x1
                have HF9 := Lib.hid F9
                clear hb9 F9
                refine hK _ _ ?_
                clear hK K
                refine wpAnyIn_take (i := 6) (v := ?_) rfl rfl (by kernel_rfl) (by kernel_rfl) (by kernel_rfl) (fun _ _ _ h => h) ⟨Or.inl ⟨by rfl, ?_⟩, fun _ => rfl⟩ ?_; rotate_left 1; focus (intro w; go_simp; try with_reducible rfl)
                refine wpAnyIn_take (i := 7) (v := ?_) rfl rfl (by kernel_rfl) (by kernel_rfl) (by kernel_rfl) (fun _ _ _ h => h) ⟨Or.inl ⟨by rfl, ?_⟩, fun _ => rfl⟩ ?_; rotate_left 1; focus (intro w; go_simp; try with_reducible rfl)
                refine wpAnyIn_take (i := 8) (v := ?_) rfl rfl (by kernel_rfl) (by kernel_rfl) (by kernel_rfl) (fun _ _ _ h => h) ⟨Or.inl ⟨by rfl, ?_⟩, fun _ => rfl⟩ ?_; rotate_left 1; focus (intro w; go_simp; try with_reducible rfl)
                refine wpAnyIn_ready (rs := [9]) (by kernel_rfl) (by simp) ?_
                refine AllReadyIn.cons rfl (fun K hK => ?_) ?_
                · go_simp
                  refine hK _ _ ?_
                  clear hK K
                  refine wpAnyIn_take (i := 10) (v := ?_) rfl rfl (by kernel_rfl) (by kernel_rfl) (by kernel_rfl) (fun _ _ _ h => h) ⟨Or.inl ⟨by rfl, ?_⟩, fun _ => rfl⟩ ?_; rotate_left 1; focus (intro w; go_simp; try with_reducible rfl)
                  refine wpAnyIn_done (by kernel_rfl) ?_ _
                  gi_wp2
                  try simp only [Act.put, List.getElem_toArray, List.getElem_cons_succ, List.getElem_cons_zero, List.setIfInBounds_toArray, List.set_cons_succ, List.set_cons_zero]
                  have hrl : WRel w bw p b0 L oc J (pre ++ [(zk, zv)]) (.pointer (some ⟨W3.heap.size, 0, none⟩)) (.bool r9) ((w9.setCell ⟨W3.heap.size, 0, none⟩ (.string k9)).setCell ⟨W3.heap.size, 1, none⟩ (.string y9)) := FINR.out w9 HB9.out HF9.out
                  have HRL := Lib.hid hrl
                  clear hrl
                  go_roundw
                  case rel => exact ⟨_, HRL.out⟩
                  case measure => exact HLT.out _ HRL.out
                exact AllReadyIn.nil
              exact AllReadyIn.nil
            exact AllReadyIn.nil
          exact AllReadyIn.nil
        refine AllReadyIn.cons rfl (fun K hK => ?_) ?_
        · go_simp
          refine hK _ _ ?_
          clear hK K
          refine wpAnyIn_ready (rs := [1, 4]) (by kernel_rfl) (by simp) ?_
          refine AllReadyIn.cons rfl (fun K hK => ?_) ?_
          · go_simp
            refine hK _ _ ?_
            clear hK K
            refine wpAnyIn_ready (rs := [4]) (by kernel_rfl) (by simp) ?_
            refine AllReadyIn.cons rfl (fun K hK => ?_) ?_
            · go_simp
              refine ⟨trivial, fun _ => by omega, ?_⟩
              refine (callsIn_wide.2 (after_any zk (by have := hks.out; omega) _)).mono ?_
              rintro e9 w9 ⟨rfl, h9⟩
              replace h9 := h9.symm
              subst h9
              refine hK _ _ ?_
              clear hK K
              refine wpAnyIn_ready (rs := [5]) (by kernel_rfl) (by simp) ?_
              refine AllReadyIn.cons rfl (fun K hK => ?_) ?_
              · go_simp
                refine ⟨trivial, fun _ => by omega, ?_⟩
                refine (callsIn_wide.2 HL9.out).mono ?_
                rintro e9 w9 ⟨rfl, hb9⟩
                have HB9 := Lib.hid hb9
                have F9 := HF4.out.below hb9
                have t0 := F9.thawed 0
                have t1 := F9.thawed 1
                have x0 := F9.cell 0
                have x1 := F9.cell 1
                simp only [List.getElem?_toArray, List.getElem?_cons_zero, List.getElem?_cons_succ] at x0 x1
                have HF9 := Lib.hid F9
                clear hb9 F9
                refine hK _ _ ?_
                clear hK K
                refine wpAnyIn_take (i := 6) (v := ?_) rfl rfl (by kernel_rfl) (by kernel_rfl) (by kernel_rfl) (fun _ _ _ h => h) ⟨Or.inl ⟨by rfl, ?_⟩, fun _ => rfl⟩ ?_; rotate_left 1; focus (intro w; go_simp; try with_reducible rfl)
                refine wpAnyIn_take (i := 7) (v := ?_) rfl rfl (by kernel_rfl) (by kernel_rfl) (by kernel_rfl) (fun _ _ _ h => h) ⟨Or.inl ⟨by rfl, ?_⟩, fun _ => rfl⟩ ?_; rotate_left 1; focus (intro w; go_simp; try with_reducible rfl)
                refine wpAnyIn_take (i := 8) (v := ?_) rfl rfl (by kernel_rfl) (by kernel_rfl) (by kernel_rfl) (fun _ _ _ h => h) ⟨Or.inl ⟨by rfl, ?_⟩, fun _ => rfl⟩ ?_; rotate_left 1; focus (intro w; go_simp; try with_reducible rfl)
                refine wpAnyIn_ready (rs := [9]) (by kernel_rfl) (by simp) ?_
                refine AllReadyIn.cons rfl (fun K hK => ?_) ?_
                · go_simp
                  refine hK _ _ ?_
                  clear hK K
                  refine wpAnyIn_take (i := 10) (v := ?_) rfl rfl (by kernel_rfl) (by kernel_rfl) (by kernel_rfl) (fun _ _ _ h => h) ⟨Or.inl ⟨by rfl, ?_⟩, fun _ => rfl⟩ ?_; rotate_left 1; focus (intro w; go_simp; try with_reducible rfl)
                  refine wpAnyIn_done (by kernel_rfl) ?_ _
                  gi_wp2
                  try simp only [Act.put, List.getElem_toArray, List.getElem_cons_succ, List.getElem_cons_zero, List.setIfInBounds_toArray, List.set_cons_succ, List.set_cons_zero]
                  have hrl : WRel w bw p b0 L oc J (pre ++ [(zk, zv)]) (.pointer (some ⟨W3.heap.size, 0, none⟩)) (.bool r9) ((w9.setCell ⟨W3.heap.size, 0, none⟩ (.string k9)).setCell ⟨W3.heap.size, 1, none⟩ (.string y9)) := FINR.out w9 HB9.out HF9.out
                  have HRL := Lib.hid hrl
                  clear hrl
                  go_roundw
                  case rel => exact ⟨_, HRL.out⟩
                  case measure => exact HLT.out _ HRL.out
                exact AllReadyIn.nil
              exact AllReadyIn.nil
            exact AllReadyIn.nil
          refine AllReadyIn.cons rfl (fun K hK => ?_) ?_
          · go_simp
            refine ⟨trivial, fun _ => by omega, ?_⟩
            refine (callsIn_wide.2 (after_any zk (by have := hks.out; omega) _)).mono ?_
            rintro e9 w9 ⟨rfl, h9⟩
            replace h9 := h9.symm
            subst h9
            refine hK _ _ ?_
            clear hK K
            refine wpAnyIn_ready (rs := [1]) (by kernel_rfl) (by simp) ?_
            refine AllReadyIn.cons rfl (fun K hK => ?_) ?_
            · go_simp
              refine hK _ _ ?_
              clear hK K
              refine wpAnyIn_ready (rs := [5]) (by kernel_rfl) (by simp) ?_
              refine AllReadyIn.cons rfl (fun K hK => ?_) ?_
              · go_simp
                refine ⟨trivial, fun _ => by omega, ?_⟩
                refine (callsIn_wide.2 HL9.out).mono ?_
                rintro e9 w9 ⟨rfl, hb9⟩
                have HB9 := Lib.hid hb9
                have F9 := HF4.out.below hb9
                have t0 := F9.thawed 0
                have t1 := F9.thawed 1
                have x0 := F9.cell 0
                have x1 := F9.cell 1
                simp only [List.getElem?_toArray, List.getElem?_cons_zero, List.getElem?_cons_succ] at x0 x1
                have HF9 := Lib.hid F9
                clear hb9 F9
                refine hK _ _ ?_
                clear hK K
                refine wpAnyIn_take (i := 6) (v := ?_) rfl rfl (by kernel_rfl) (by kernel_rfl) (by kernel_rfl) (fun _ _ _ h => h) ⟨Or.inl ⟨by rfl, ?_⟩, fun _ => rfl⟩ ?_; rotate_left 1; focus (intro w; go_simp; try with_reducible rfl)
                refine wpAnyIn_take (i := 7) (v := ?_) rfl rfl (by kernel_rfl) (by kernel_rfl) (by kernel_rfl) (fun _ _ _ h => h) ⟨Or.inl ⟨by rfl, ?_⟩, fun _ => rfl⟩ ?_; rotate_left 1; focus (intro w; go_simp; try with_reducible rfl)
                refine wpAnyIn_take (i := 8) (v := ?_) rfl rfl (by kernel_rfl) (by kernel_rfl) (by kernel_rfl) (fun _ _ _ h => h) ⟨Or.inl ⟨by rfl, ?_⟩, fun _ => rfl⟩ ?_; rotate_left 1; focus (intro w; go_simp; try with_reducible rfl)
                refine wpAnyIn_ready (rs := [9]) (by kernel_rfl) (by simp) ?_
                refine AllReadyIn.cons rfl (fun K hK => ?_) ?_
                · go_simp
                  refine hK _ _ ?_
                  clear hK K
                  refine wpAnyIn_take (i := 10) (v := ?_) rfl rfl (by kernel_rfl) (by kernel_rfl) (by kernel_rfl) (fun _ _ _ h => h) ⟨Or.inl ⟨by rfl, ?_⟩, fun _ => rfl⟩ ?_; rotate_left 1; focus (intro w; go_simp; try with_reducible rfl)
                  refine wpAnyIn_done (by kernel_rfl) ?_ _
                  gi_wp2
                  try simp only [Act.put, List.getElem_toArray, List.getElem_cons_succ, List.getElem_cons_zero, List.setIfInBounds_toArray, List.set_cons_succ, List.set_cons_zero]
                  have hrl : WRel w bw p b0 L oc J (pre ++ [(zk, zv)]) (.pointer (some ⟨W3.heap.size, 0, none⟩)) (.bool r9) ((w9.setCell ⟨W3.heap.size, 0, none⟩ (.string k9)).setCell ⟨W3.heap.size, 1, none⟩ (.string y9)) := FINR.out w9 HB9.out HF9.out
                  have HRL := Lib.hid hrl
                  clear hrl
                  go_roundw
                  case rel => exact ⟨_, HRL.out⟩
                  case measure => exact HLT.out _ HRL.out
                exact AllReadyIn.nil
              exact AllReadyIn.nil
            exact AllReadyIn.nil
          exact AllReadyIn.nil
        exact AllReadyIn.nil
      · have H3 := Lib.hid hJ3
        clear hJ3 hK3
        gi_wp2
        refine bodyPost_ret (results_none rfl _ _ _) rfl ?_
        exact ⟨⟨_, rfl⟩, .inr ⟨_, trivial, H3.out⟩⟩
end Go.Proofs.Ytfffifmpfkkgbaa
