/- The row and its reference tell the same. -/
import Derived.Test.YtiifogbdoajnoaaRefF3
import Derived.Test.YtiifogbdoajnoaaRefF4
import Derived.Test.YtiifogbdoajnoaaNextWm
namespace Go.Proofs.Ytiifogbdoajnoaa
open Go.RowKit Go.Shelf
attribute [local go_sem] Oper.semAt_some
set_option maxRecDepth 100000
set_option maxHeartbeats 4000000

/-- Where the next byte is asked from, as a number. -/
def fromN (L : List En) : Nat → Nat
  | 0 => 0
  | k + 1 => match L[k]? with
    | some x => x.1.toNat + 1
    | none => 0
theorem fromN_eq (L : List En) (k : Nat) : fromAt L k = (fromN L k : Int) := by
  cases k with
  | zero => rfl
  | succ k => simp only [fromAt, fromN]; cases L[k]? <;> simp
theorem fromN_le (L : List En) (k : Nat) : fromN L k ≤ 256 := by
  cases k with
  | zero => exact Nat.zero_le _
  | succ k =>
    simp only [fromN]
    split
    · rename_i x _; have := x.1.toNat_lt; omega
    · omega
theorem fromN_at {L : List En} {k : Nat} (h : k < L.length) : fromN L (k + 1) = L[k].1.toNat + 1 := by rw [fromN, List.getElem?_eq_getElem h]
theorem fromN_low {L : List En} (hs : Srt L) {k : Nat} (h : k < L.length) : fromN L k ≤ L[k].1.toNat := by
  have := fromAt_le hs k h
  rw [fromN_eq] at this
  omega
theorem from_gap {L : List En} (hs : Srt L) {k : Nat} (hk : k ≤ L.length) (c : UInt8) (h1 : fromN L k ≤ c.toNat) (h2 : ∀ h : k < L.length, c.toNat < L[k].1.toNat) : isIn c L = false := by
  cases hx : isIn c L with
  | false => rfl
  | true =>
    exfalso
    obtain ⟨x, hm, rfl⟩ := (isIn_iff hs).1 hx
    obtain ⟨i, hi, rfl⟩ := List.getElem_of_mem hm
    have hn := nextIx_at hs k hk
    have hki : k ≤ i := by
      rcases Nat.lt_or_ge i k with h | h
      · have := List.not_of_lt_findIdx (show i < nextIx (fromAt L k) L by omega)
        have h5 : decide (fromAt L k ≤ (L[i].1.toNat : Int)) = false := this
        have h6 := of_decide_eq_false h5
        rw [fromN_eq] at h6
        omega
      · exact h
    have hlt : k < L.length := by omega
    have h3 := h2 hlt
    rcases Nat.lt_or_eq_of_le hki with h | h
    · have := List.pairwise_iff_getElem.1 hs _ _ hlt hi h
      omega
    · subst h; omega

/-- What holds between two rounds. -/
def MidS (W : World) (B A q5 : Nat) (l : List En) (room : Int) (pre : List En) (Wc : World) : Prop :=
  ∃ k : Nat, k ≤ l.length ∧ pre = l.take k ∧ Fresh Wc q5 #[.int .i64 (fromN l k : Int)] 3 ∧ RefAt Wc B l room ∧ Fresh Wc A #[.pointer (some ⟨B, 0, none⟩)] 28 ∧ Fresh Wc (A + 1) #[.bool false] 4 ∧ Below W.heap.size W Wc
theorem MidS.own {W : World} {B A q5 n : Nat} {l : List En} {room : Int} (hB : W.heap.size ≤ n) : OwnFrom n (MidS W B A q5 l room) := by
  rintro pre X Y row ⟨k, h1, h2, h3, h4, h5, h6, h7⟩ hg hr
  have hr' : ∀ r, row = some r → ∃ o : Obj, X.heap[r]? = some o ∧ o.isCells = false := fun r e => (hr r e).2
  exact ⟨k, h1, h2, h3.kept hg hr', h4.kept hg hr', h5.kept hg hr', h6.kept hg hr', h7.grown hg (by exact h7.size) (fun r e => by have := (hr r e).1; omega)⟩
theorem same_any {W : World} {p q eb B : Nat} {l : List En} {room : Nat} (h : ManyAt W p q eb l room) (hr : RefAt W B l (room : Int)) (hs : Srt l) :
    Calls Try.prog 11 #[.pointer (some ⟨p, 0, none⟩), .pointer (some ⟨B, 0, none⟩)] W fun e w' => e = .returned (.bool true) ∧ Below W.heap.size W w' := by
  have hl := h.len
  refine (callsIn_wide (n := 10)).1 ?_
  refine callsIn_of_wp_marks Try.func11 rfl trivial ?_ rfl
  simp only [Try.ntmps11, List.size_toArray, List.length_cons, List.length_nil, Nat.reduceAdd, Nat.reduceSub, Array.replicate_succ, Array.replicate_zero, List.push_toArray, List.append_toArray, List.nil_append, List.cons_append]
  obtain ⟨W1, hW1⟩ : ∃ W1, W1 = (W.alloc (.cells #[.pointer (some ⟨B, 0, none⟩)] 28)).alloc (.cells #[.bool false] 4) := ⟨_, rfl⟩
  have B1 : Below W.heap.size W W1 := by rw [hW1]; exact Below.new (Below.new (Below.refl _ _) _) _
  have A1 := h.below B1
  have R1 := hr.below B1
  have f3 : Fresh W1 W.heap.size #[.pointer (some ⟨B, 0, none⟩)] 28 := by rw [hW1]; exact (Fresh.new _ _ _ _ rfl).alloc _
  have f4 : Fresh W1 (W.heap.size + 1) #[.bool false] 4 := by rw [hW1]; exact Fresh.new _ _ _ _ (by simp)
  have s1 : W1.heap.size = W.heap.size + 2 := by rw [hW1]; simp
  obtain ⟨n, hn⟩ : ∃ n, l.length = n := ⟨_, rfl⟩
  have K1 : ∀ (d : Nat) (os : Array Obj), Calls Try.prog 18 #[.pointer (some ⟨p, 0, none⟩)] (Sort.grow (redrawn W1 d) os) fun e w' => e = .returned (.int .i64 (n : Int)) ∧ Below (Sort.grow (redrawn W1 d) os).heap.size (Sort.grow (redrawn W1 d) os) w' := fun d os => by
    have hX := below_regrown W1 d os
    rw [← hn]
    refine (len_any (A1.below hX)).mono ?_
    rintro e w' ⟨rfl, rfl⟩
    exact ⟨rfl, Below.refl _ _⟩
  have K2 : ∀ (d : Nat) (os : Array Obj), Calls Try.prog 28 #[.pointer (some ⟨B, 0, none⟩)] (Sort.grow (redrawn W1 d) os) fun e w' => e = .returned (.int .i64 (n : Int)) ∧ Below (Sort.grow (redrawn W1 d) os).heap.size (Sort.grow (redrawn W1 d) os) w' := fun d os => by
    have hX := below_regrown W1 d os
    rw [← hn]
    exact rlen_any (R1.below hX) hs (by omega)
  have K3 : ∀ (d : Nat) (os : Array Obj), Calls Try.prog 19 #[.pointer (some ⟨p, 0, none⟩)] (Sort.grow (redrawn W1 d) os) fun e w' => e = .returned (.int .i64 (room : Int)) ∧ Below (Sort.grow (redrawn W1 d) os).heap.size (Sort.grow (redrawn W1 d) os) w' := fun d os => by
    have hX := below_regrown W1 d os
    refine (room_any (A1.below hX)).mono ?_
    rintro e w' ⟨rfl, rfl⟩
    exact ⟨rfl, Below.refl _ _⟩
  have q1 : ((n : Int) != (n : Int)) = false := by simp
  have q2 : ((room : Int) != (room : Int)) = false := by simp
  have d3 := f3.cell 0
  have dr := R1.room
  simp only [List.getElem?_toArray, List.getElem?_cons_zero] at d3
  have H1 := Lib.hid K1
  have H2 := Lib.hid K2
  have H3 := Lib.hid K3
  have HW1 := Lib.hid hW1
  have HS1 := Lib.hid s1
  have HF := Lib.hid (And.intro B1 (And.intro A1 (And.intro R1 (And.intro f3 f4))))
  have HS := Lib.hid hs
  have HL := Lib.hid (And.intro hl hn)
  clear K1 K2 K3 hW1 s1 B1 A1 R1 f3 f4 h hr hs hl hn
  refine wpIn_wide.2 ?_
  refine wp_mono (Q := calmQ _) ?_ calmQ_out
  go_upto_region 1 with fail
  rw [← HW1.out]
  have g0 := fun d os => cell_regrown d3 d os
  have g1 := fun d os => cell_regrown dr d os
  refine wp_region_quiet_below (by kernel_rfl) (by kernel_rfl) ?_
  repeat (any_goals (first | go_big_quiet_step (first
    | (go_at_call 18; with_reducible exact Calls.regrown_of (H1.out _ _))
    | (go_at_call 28; with_reducible exact Calls.regrown_of (H2.out _ _))
    | (go_at_call 19; with_reducible exact Calls.regrown_of (H3.out _ _))) | quiet_step (fail)))
  all_goals
    refine wpQuiet_nil ?_
    intro W2 hw2
    have hb2 : Below W1.heap.size W1 W2 := by obtain ⟨p, rfl⟩ := hw2; exact below_regrown _ _ _
    have HF2 : Hid (Below W.heap.size W W2 ∧ ManyAt W2 p q eb l room ∧ RefAt W2 B l (room : Int) ∧ Fresh W2 W.heap.size #[.pointer (some ⟨B, 0, none⟩)] 28 ∧ Fresh W2 (W.heap.size + 1) #[.bool false] 4) := by
      obtain ⟨a1, a2, a3, a4, a5⟩ := HF.out
      exact ⟨Below.step a1 hb2, a2.below hb2, a3.below hb2, a4.below hb2, a5.below hb2⟩
    have hs2 : Hid (W.heap.size + 2 ≤ W2.heap.size) := by
      show _ ≤ _
      have h1 := HS1.out
      have h2 := hb2.size
      omega
    clear hw2 hb2 d3 dr g0 g1 H1 H2 H3 HW1 HS1 HF
    go_wp2_with (go_at_call 13; refine (allv_any _ _).mono ?_; rintro e WL ⟨rfl, hWL⟩; have HWL := Lib.hid hWL; clear hWL)
    obtain ⟨B2, A2, R2, f3, f4⟩ := HF2.out
    have g2 := hs2.out
    have szL : WL.heap.size = W2.heap.size + 2 := by rw [HWL.out]; simp
    have BL : Below W2.heap.size W2 WL := by rw [HWL.out]; exact Below.new (Below.new (Below.refl _ _) _) _
    have f5 : Fresh WL W2.heap.size #[.int .i64 0] 3 := by rw [HWL.out]; exact (Fresh.new _ _ _ _ rfl).alloc _
    have fs : Fresh WL (W2.heap.size + 1) #[.pointer (some ⟨p, 0, none⟩)] 24 := by rw [HWL.out]; exact Fresh.new _ _ _ _ (by simp)
    have AL := A2.below BL
    have RL := R2.below BL
    have l3 := f3.below BL
    have l4 := f4.below BL
    have BW : Below W.heap.size W WL := Below.step B2 BL
    have hB2 := R2.lt
    have HSZ := Lib.hid szL
    have HBn := Lib.hid (And.intro hB2 (And.intro f3.lt f4.lt))
    clear A2 R2 f3 f4 BL B2 HF2 HWL hB2
    refine (wpIn_wide (n := 10)).1 ?_
    refine range_box rfl (by omega) (gf := 32) (lb := #[.pointer (some ⟨W2.heap.size + 1, 0, none⟩)]) rfl trivial (enters_of Try.func32 (by kernel_rfl) rfl)
      (all_own kTurned 9 (by omega) (W2.heap.size + 1) [W2.heap.size, WL.heap.size + 1] l room WL p q eb AL ((fs.cell 0).trans rfl) (by intro k hk; simp at hk; omega))
      (fun h k => h.trans k) (fun Wc o _ => Turned.put (by simp) o) (Below.refl _ _) (fun _ => rfl)
      (MidS W B W.heap.size W2.heap.size l (room : Int)) (fun _ _ _ => False) (MidS.own (by omega)) (fun _ _ _ _ _ h _ _ => h)
      ⟨0, Nat.zero_le _, rfl, f5, RL, l3, l4, BW⟩
      (fun x a' Wc => ∃ bx, a' = { tmps := #[.pointer (some ⟨p, 0, none⟩), .pointer (some ⟨B, 0, none⟩), undef, .pointer (some ⟨W.heap.size, 0, none⟩), .pointer (some ⟨W.heap.size + 1, 0, none⟩), .pointer (some ⟨W2.heap.size, 0, none⟩), .int .u8 (x.1.toNat : Int), .pointer (some ⟨bx, 0, none⟩), .pointer (some ⟨p, 0, none⟩), .int .i64 (n : Int), .pointer (some ⟨B, 0, none⟩), .int .i64 (n : Int), .bool false, .bool false, .pointer (some ⟨p, 0, none⟩), .int .i64 (room : Int), .pointer (some ⟨B, 0, none⟩), .pointer (some ⟨B, 0, none⟩), .pointer (some ⟨B, 0, none⟩), .int .i64 (room : Int), .bool false, .bool false, .pointer (some ⟨p, 0, none⟩), .func (.func 32) #[] #[.pointer (some ⟨W2.heap.size + 1, 0, none⟩)], .int .u8 (x.1.toNat : Int), refV x.2.1 x.2.2, undef, undef, undef, undef, undef, undef, undef, undef, undef, undef, undef, undef, undef, undef, undef, undef, undef, undef, undef, undef, undef, undef, undef, undef, undef, undef, undef, undef, undef, undef, undef, undef, undef, undef, undef, undef, undef, undef, undef, undef, undef, undef, undef, undef, undef, undef, undef, undef], defers := [] } ∧ Fresh Wc bx #[.int .i64 x.2.1, .int .u32 x.2.2] 35)
      (fun x a' _ X Y row ⟨bx, h1, h2⟩ hg hr => ⟨bx, h1, h2.kept hg (fun r e => (hr r e).2)⟩)
      ?assignment ?round ?done ?stop
    case assignment =>
      rintro l' pre x Wc K hG hI hK
      have HK := Lib.hid (hK _ (Wc.alloc (.cells #[.int .i64 x.2.1, .int .u32 x.2.2] 35)) ((KeepsOthers.alloc _ _).from _) ((Turned.refl _ Wc).alloc _) (OwnFrom.alloc (MidS.own (n := WL.heap.size) (by omega)) _ hI) ⟨Wc.heap.size, rfl, Fresh.new _ _ _ _ rfl⟩)
      clear hK hI hG f5 fs AL RL l3 l4 BW
      unfold enV
      gi_wp2
      exact HK.out
    case round =>
      rintro l' pre x a' W5 hG ⟨k, hk, hpre, c5, cR, c3, c4, cB⟩ ⟨bx, rfl, cq⟩ hz
      obtain ⟨j, hj, hjx⟩ := hG
      obtain ⟨h4, h5⟩ := List.append_inj' hjx rfl
      obtain rfl : k = j := by
        have := congrArg List.length (hpre.symm.trans h4)
        rw [List.length_take, List.length_take] at this
        omega
      have hx : x = l[k] := by simpa using h5
      have hnx : pre ++ [x] = l.take (k + 1) := by rw [hjx]; exact (List.take_succ_eq_append_getElem hj).symm
      have hf1 : fromN l (k + 1) = x.1.toNat + 1 := by rw [fromN_at hj, hx]
      have hlow : fromN l k ≤ x.1.toNat := by rw [hx]; exact fromN_low HS.out hj
      have hin : isIn x.1 l = true ∧ atOf x.1 l = x := mem_at HS.out (by rw [hx]; exact List.getElem_mem hj)
      have hgap : ∀ c : UInt8, fromN l k ≤ c.toNat → c.toNat < x.1.toNat → isIn c l = false := fun c h1 h2 => from_gap HS.out hk c h1 (fun _ => by rw [← hx]; exact h2)
      obtain ⟨c, s, g⟩ := x
      dsimp only at hf1 hlow hin hgap cq ⊢
      have hq5 : bx ≠ W2.heap.size := fun e => by have h1 : W5.heap[bx]? = _ := cq; rw [e] at h1; have h2 : W5.heap[W2.heap.size]? = _ := c5; rw [h1] at h2; cases h2
      have hBn := HBn.out
      have hb5 : B ≠ W2.heap.size := by omega
      have h35 : W.heap.size ≠ W2.heap.size := by omega
      have h45 : W.heap.size + 1 ≠ W2.heap.size := by omega
      have kept : ∀ wr, Turned [W2.heap.size] W5 wr → RefAt wr B l (room : Int) ∧ Fresh wr W.heap.size #[.pointer (some ⟨B, 0, none⟩)] 28 ∧ Fresh wr (W.heap.size + 1) #[.bool false] 4 ∧ Fresh wr bx #[.int .i64 s, .int .u32 g] 35 := fun wr hT =>
        ⟨cR.turned hT (by simpa using hb5), hT.other c3 (by simpa using h35), hT.other c4 (by simpa using h45), hT.other cq (by simpa using hq5)⟩
      have HKP := Lib.hid kept
      have HGAP := Lib.hid hgap
      have HNX := Lib.hid (And.intro hj (And.intro hnx hf1))
      have HIN := Lib.hid hin
      have HC5 := Lib.hid c5
      have HB := Lib.hid cB
      obtain ⟨f0, hff⟩ : ∃ f0, fromN l k = f0 := ⟨_, rfl⟩
      rw [hff] at hlow HC5 HGAP
      have HLW := Lib.hid hlow
      have cw := wrap_byte c
      have e0 : (0 : Int) ≤ (c.toNat : Int) := Int.natCast_nonneg _
      have e1 : (c.toNat : Int) < 256 := by have := c.toNat_lt; omega
      have e2 : c.toNat < 256 := c.toNat_lt
      clear kept hgap hnx c5 cB hq5 hb5 h35 h45 cR c3 c4 cq hpre hk hj hjx h4 h5 hx hf1 hlow hin hff hBn f5 fs AL RL l3 l4 BW szL g2
      gi_wp2
      gi_loopw [26] (fun v wr => ∃ m : Nat, f0 ≤ m ∧ m ≤ c.toNat ∧ Fresh wr W2.heap.size #[.int .i64 (m : Int)] 3 ∧ Turned [W2.heap.size] W5 wr) (fun _ wr => c.toNat - (intOf ((wr.cell? ⟨W2.heap.size, 0, none⟩).getD undef)).toNat)
      case atStart => exact ⟨f0, Nat.le_refl _, HLW.out, HC5.out, Turned.refl _ _⟩
      case round =>
        obtain ⟨m, hm1, hm2, cm, hT⟩ := hrel
        obtain ⟨kR, k3, k4, kq⟩ := HKP.out _ hT
        have d5 := cm.cell 0
        have d5' := cm.thawed 0
        have d3 := k3.cell 0
        have dq0 := kq.cell 0
        have dq1 := kq.cell 1
        simp only [List.getElem?_toArray, List.getElem?_cons_zero, List.getElem?_cons_succ] at d5 d3 dq0 dq1
        obtain ⟨b, rfl⟩ := byte_of (show m < 256 by omega)
        have i0 := kR.is b
        have q0 : (0 : Int) ≤ (b.toNat : Int) := Int.natCast_nonneg _
        have q1 : (b.toNat : Int) < 256 := by omega
        have q2 : decide ((b.toNat : Int) < 256) = true := decide_eq_true q1
        have HM := Lib.hid cm
        have HTT := Lib.hid hT
        have HK2 := Lib.hid (And.intro kR (And.intro k3 (And.intro k4 kq)))
        by_cases hlt : b.toNat < c.toNat
        · have hf := HGAP.out b hm1 hlt
          rw [hf] at i0
          clear cm hT kR k3 k4 kq hf
          gi_wp2
          refine region_mix_round l' [1, 2, 5, 6, 7, 9, 10] [0, 1, 3, 7, 7, 15, 47, 127, 255, 511, 1023] [0, 1, 2, 3, 5, 6, 4, 7, 8, 9, 10] (by kernel_rfl) (by kernel_rfl) (by kernel_rfl) ?_
          refine mix_step (by simp only [List.getElem?_toArray, List.getElem?_cons_zero] <;> rfl) (by kernel_rfl) (fun K hK => ?_)
          go_simp
          refine hK _ _ ?_
          clear hK K
          refine mix_pure (v := ?_) (by simp only [List.getElem?_toArray, List.getElem?_cons_succ, List.getElem?_cons_zero] <;> rfl) (by kernel_rfl) ⟨Or.inl ⟨by kernel_rfl, ?_⟩, fun _ => (by rfl)⟩ ?_; rotate_left 1; focus (intro w; go_simp; try with_reducible rfl)
          simp only [Act.put, List.setIfInBounds_toArray, List.set_cons_zero, List.set_cons_succ]
          refine mix_pure (v := ?_) (by simp only [List.getElem?_toArray, List.getElem?_cons_succ, List.getElem?_cons_zero] <;> rfl) (by kernel_rfl) ⟨Or.inl ⟨by kernel_rfl, ?_⟩, fun _ => (by rfl)⟩ ?_; rotate_left 1; focus (intro w; go_simp; try with_reducible rfl)
          simp only [Act.put, List.setIfInBounds_toArray, List.set_cons_zero, List.set_cons_succ]
          refine mix_step (by simp only [List.getElem?_toArray, List.getElem?_cons_succ, List.getElem?_cons_zero] <;> rfl) (by kernel_rfl) (fun K hK => ?_)
          go_simp
          refine hK _ _ ?_
          clear hK K
          refine mix_pure (v := ?_) (by simp only [List.getElem?_toArray, List.getElem?_cons_succ, List.getElem?_cons_zero] <;> rfl) (by kernel_rfl) ⟨Or.inl ⟨by kernel_rfl, ?_⟩, fun _ => (by rfl)⟩ ?_; rotate_left 1; focus (intro w; go_simp; try with_reducible rfl)
          simp only [Act.put, List.setIfInBounds_toArray, List.set_cons_zero, List.set_cons_succ]
          refine mix_pure (v := ?_) (by simp only [List.getElem?_toArray, List.getElem?_cons_succ, List.getElem?_cons_zero] <;> rfl) (by kernel_rfl) ⟨Or.inl ⟨by kernel_rfl, ?_⟩, fun _ => (by rfl)⟩ ?_; rotate_left 1; focus (intro w; go_simp; try with_reducible rfl)
          simp only [Act.put, List.setIfInBounds_toArray, List.set_cons_zero, List.set_cons_succ]
          refine mix_step (by simp only [List.getElem?_toArray, List.getElem?_cons_succ, List.getElem?_cons_zero] <;> rfl) (by kernel_rfl) (fun K hK => ?_)
          go_simp
          refine hK _ _ ?_
          clear hK K
          refine mix_pure (v := ?_) (by simp only [List.getElem?_toArray, List.getElem?_cons_succ, List.getElem?_cons_zero] <;> rfl) (by kernel_rfl) ⟨Or.inl ⟨by kernel_rfl, ?_⟩, fun _ => (by rfl)⟩ ?_; rotate_left 1; focus (intro w; go_simp; try with_reducible rfl)
          simp only [Act.put, List.setIfInBounds_toArray, List.set_cons_zero, List.set_cons_succ]
          refine mix_step (by simp only [List.getElem?_toArray, List.getElem?_cons_succ, List.getElem?_cons_zero] <;> rfl) (by kernel_rfl) (fun K hK => ?_)
          go_simp
          refine hK _ _ ?_
          clear hK K
          refine mix_pure (v := ?_) (by simp only [List.getElem?_toArray, List.getElem?_cons_succ, List.getElem?_cons_zero] <;> rfl) (by kernel_rfl) ⟨Or.inl ⟨by kernel_rfl, ?_⟩, fun _ => (by rfl)⟩ ?_; rotate_left 1; focus (intro w; go_simp; try with_reducible rfl)
          simp only [Act.put, List.setIfInBounds_toArray, List.set_cons_zero, List.set_cons_succ]
          refine mix_pure (v := ?_) (by simp only [List.getElem?_toArray, List.getElem?_cons_succ, List.getElem?_cons_zero] <;> rfl) (by kernel_rfl) ⟨Or.inl ⟨by kernel_rfl, ?_⟩, fun _ => (by rfl)⟩ ?_; rotate_left 1; focus (intro w; go_simp; try with_reducible rfl)
          simp only [Act.put, List.setIfInBounds_toArray, List.set_cons_zero, List.set_cons_succ]
          refine mix_end ?_
          gi_wp2
          go_roundw
          case rel => exact ⟨b.toNat + 1, by omega, by omega, by have := HM.out.set 0 (.int .i64 ((b.toNat : Int) + 1)); exact Fresh.drew (by simpa using this), Turned.drew (HTT.out.setCell (p := W2.heap.size) (.inl (by simp)) 0 _)⟩
          case measure =>
            have h1 := ((HM.out.set 0 (.int .i64 ((b.toNat : Int) + 1))).drew).cell 0
            simp only [List.setIfInBounds_toArray, List.set_cons_zero, List.getElem?_toArray, List.getElem?_cons_zero] at h1
            rw [h1, d5]
            simp [intOf]
            omega
        · obtain rfl : b = c := UInt8.toNat_inj.1 (by omega)
          rw [HIN.out.1] at i0
          obtain ⟨s', g', hs', hg', hat⟩ := kR.ref b
          have hat := hat HIN.out.1
          rw [HIN.out.2] at hat
          cases hat
          have HFIN : Hid (∀ W', Turned [W2.heap.size] W5 W' → Fresh W' W2.heap.size #[.int .i64 ((b.toNat : Int) + 1)] 3 → KeepsFrom WL.heap.size W5 W' ∧ Turned [W2.heap.size, WL.heap.size + 1] W5 W' ∧ MidS W B W.heap.size W2.heap.size l (room : Int) (pre ++ [(b, s, g)]) W') := by
            intro W' hT' hF'
            obtain ⟨a1, a2, a3, a4⟩ := HKP.out _ hT'
            have hBn := HBn.out
            have h2 := hs2.out
            have h3 := HSZ.out
            exact ⟨KeepsFrom.of_turned hT' (by intro k hk; simp at hk; omega), hT'.wide (by intro k hk; simp at hk; simp [hk]), k + 1, HNX.out.1, HNX.out.2.1, by rw [HNX.out.2.2]; exact hF', a1, a2, a3, Turned.below HB.out hT' (by intro k hk; simp at hk; omega) HB.out.size⟩
          clear cm hT kR k3 k4 kq hlt hm2
          have q3 : decide ((255 : Int) < (b.toNat : Int)) = false := decide_eq_false (by omega)
          gi_wp2
          refine region_mix_round l' [1, 2, 5, 6, 7, 9, 10] [0, 1, 3, 7, 7, 15, 47, 127, 255, 511, 1023] [0, 1, 2, 3, 5, 6, 4, 7, 8, 9, 10] (by kernel_rfl) (by kernel_rfl) (by kernel_rfl) ?_
          refine mix_step (by simp only [List.getElem?_toArray, List.getElem?_cons_zero] <;> rfl) (by kernel_rfl) (fun K hK => ?_)
          go_simp
          refine hK _ _ ?_
          clear hK K
          refine mix_pure (v := ?_) (by simp only [List.getElem?_toArray, List.getElem?_cons_succ, List.getElem?_cons_zero] <;> rfl) (by kernel_rfl) ⟨Or.inl ⟨by kernel_rfl, ?_⟩, fun _ => (by rfl)⟩ ?_; rotate_left 1; focus (intro w; go_simp; try with_reducible rfl)
          simp only [Act.put, List.setIfInBounds_toArray, List.set_cons_zero, List.set_cons_succ]
          refine mix_pure (v := ?_) (by simp only [List.getElem?_toArray, List.getElem?_cons_succ, List.getElem?_cons_zero] <;> rfl) (by kernel_rfl) ⟨Or.inl ⟨by kernel_rfl, ?_⟩, fun _ => (by rfl)⟩ ?_; rotate_left 1; focus (intro w; go_simp; try with_reducible rfl)
          simp only [Act.put, List.setIfInBounds_toArray, List.set_cons_zero, List.set_cons_succ]
          refine mix_step (by simp only [List.getElem?_toArray, List.getElem?_cons_succ, List.getElem?_cons_zero] <;> rfl) (by kernel_rfl) (fun K hK => ?_)
          go_simp
          refine hK _ _ ?_
          clear hK K
          refine mix_pure (v := ?_) (by simp only [List.getElem?_toArray, List.getElem?_cons_succ, List.getElem?_cons_zero] <;> rfl) (by kernel_rfl) ⟨Or.inl ⟨by kernel_rfl, ?_⟩, fun _ => (by rfl)⟩ ?_; rotate_left 1; focus (intro w; go_simp; try with_reducible rfl)
          simp only [Act.put, List.setIfInBounds_toArray, List.set_cons_zero, List.set_cons_succ]
          refine mix_pure (v := ?_) (by simp only [List.getElem?_toArray, List.getElem?_cons_succ, List.getElem?_cons_zero] <;> rfl) (by kernel_rfl) ⟨Or.inl ⟨by kernel_rfl, ?_⟩, fun _ => (by rfl)⟩ ?_; rotate_left 1; focus (intro w; go_simp; try with_reducible rfl)
          simp only [Act.put, List.setIfInBounds_toArray, List.set_cons_zero, List.set_cons_succ]
          refine mix_step (by simp only [List.getElem?_toArray, List.getElem?_cons_succ, List.getElem?_cons_zero] <;> rfl) (by kernel_rfl) (fun K hK => ?_)
          go_simp
          refine hK _ _ ?_
          clear hK K
          refine mix_pure (v := ?_) (by simp only [List.getElem?_toArray, List.getElem?_cons_succ, List.getElem?_cons_zero] <;> rfl) (by kernel_rfl) ⟨Or.inl ⟨by kernel_rfl, ?_⟩, fun _ => (by rfl)⟩ ?_; rotate_left 1; focus (intro w; go_simp; try with_reducible rfl)
          simp only [Act.put, List.setIfInBounds_toArray, List.set_cons_zero, List.set_cons_succ]
          refine mix_step (by simp only [List.getElem?_toArray, List.getElem?_cons_succ, List.getElem?_cons_zero] <;> rfl) (by kernel_rfl) (fun K hK => ?_)
          go_simp
          refine hK _ _ ?_
          clear hK K
          refine mix_pure (v := ?_) (by simp only [List.getElem?_toArray, List.getElem?_cons_succ, List.getElem?_cons_zero] <;> rfl) (by kernel_rfl) ⟨Or.inl ⟨by kernel_rfl, ?_⟩, fun _ => (by rfl)⟩ ?_; rotate_left 1; focus (intro w; go_simp; try with_reducible rfl)
          simp only [Act.put, List.setIfInBounds_toArray, List.set_cons_zero, List.set_cons_succ]
          refine mix_pure (v := ?_) (by simp only [List.getElem?_toArray, List.getElem?_cons_succ, List.getElem?_cons_zero] <;> rfl) (by kernel_rfl) ⟨Or.inl ⟨by kernel_rfl, ?_⟩, fun _ => (by rfl)⟩ ?_; rotate_left 1; focus (intro w; go_simp; try with_reducible rfl)
          simp only [Act.put, List.setIfInBounds_toArray, List.set_cons_zero, List.set_cons_succ]
          refine mix_end ?_
          gi_wp2
          refine region_mix_round l' [1, 2, 3, 4, 6, 7, 8, 12, 13, 14, 16, 17] [0, 1, 3, 7, 15, 7, 63, 127, 255, 511, 511, 511, 1535, 5631, 15871, 32255, 65535, 131071] [0, 1, 2, 3, 4, 5, 6, 7, 8, 9, 10, 12, 13, 11, 14, 15, 16, 17] (by kernel_rfl) (by kernel_rfl) (by kernel_rfl) ?_
          refine mix_step (by simp only [List.getElem?_toArray, List.getElem?_cons_zero] <;> rfl) (by kernel_rfl) (fun K hK => ?_)
          go_simp
          refine hK _ _ ?_
          clear hK K
          refine mix_pure (v := ?_) (by simp only [List.getElem?_toArray, List.getElem?_cons_succ, List.getElem?_cons_zero] <;> rfl) (by kernel_rfl) ⟨Or.inl ⟨by kernel_rfl, ?_⟩, fun _ => (by rfl)⟩ ?_; rotate_left 1; focus (intro w; go_simp; try with_reducible rfl)
          simp only [Act.put, List.setIfInBounds_toArray, List.set_cons_zero, List.set_cons_succ]
          refine mix_pure (v := ?_) (by simp only [List.getElem?_toArray, List.getElem?_cons_succ, List.getElem?_cons_zero] <;> rfl) (by kernel_rfl) ⟨Or.inl ⟨by kernel_rfl, ?_⟩, fun _ => (by rfl)⟩ ?_; rotate_left 1; focus (intro w; go_simp; try with_reducible rfl)
          simp only [Act.put, List.setIfInBounds_toArray, List.set_cons_zero, List.set_cons_succ]
          refine mix_pure (v := ?_) (by simp only [List.getElem?_toArray, List.getElem?_cons_succ, List.getElem?_cons_zero] <;> rfl) (by kernel_rfl) ⟨Or.inl ⟨by kernel_rfl, ?_⟩, fun _ => (by rfl)⟩ ?_; rotate_left 1; focus (intro w; go_simp; try with_reducible rfl)
          simp only [Act.put, List.setIfInBounds_toArray, List.set_cons_zero, List.set_cons_succ]
          refine mix_pure (v := ?_) (by simp only [List.getElem?_toArray, List.getElem?_cons_succ, List.getElem?_cons_zero] <;> rfl) (by kernel_rfl) ⟨Or.inl ⟨by kernel_rfl, ?_⟩, fun _ => (by rfl)⟩ ?_; rotate_left 1; focus (intro w; go_simp; try with_reducible rfl)
          simp only [Act.put, List.setIfInBounds_toArray, List.set_cons_zero, List.set_cons_succ]
          refine mix_step (by simp only [List.getElem?_toArray, List.getElem?_cons_succ, List.getElem?_cons_zero] <;> rfl) (by kernel_rfl) (fun K hK => ?_)
          go_simp
          refine hK _ _ ?_
          clear hK K
          refine mix_pure (v := ?_) (by simp only [List.getElem?_toArray, List.getElem?_cons_succ, List.getElem?_cons_zero] <;> rfl) (by kernel_rfl) ⟨Or.inl ⟨by kernel_rfl, ?_⟩, fun _ => (by rfl)⟩ ?_; rotate_left 1; focus (intro w; go_simp; try with_reducible rfl)
          simp only [Act.put, List.setIfInBounds_toArray, List.set_cons_zero, List.set_cons_succ]
          refine mix_pure (v := ?_) (by simp only [List.getElem?_toArray, List.getElem?_cons_succ, List.getElem?_cons_zero] <;> rfl) (by kernel_rfl) ⟨Or.inl ⟨by kernel_rfl, ?_⟩, fun _ => (by rfl)⟩ ?_; rotate_left 1; focus (intro w; go_simp; try with_reducible rfl)
          simp only [Act.put, List.setIfInBounds_toArray, List.set_cons_zero, List.set_cons_succ]
          refine mix_pure (v := ?_) (by simp only [List.getElem?_toArray, List.getElem?_cons_succ, List.getElem?_cons_zero] <;> rfl) (by kernel_rfl) ⟨Or.inl ⟨by kernel_rfl, ?_⟩, fun _ => (by rfl)⟩ ?_; rotate_left 1; focus (intro w; go_simp; try with_reducible rfl)
          simp only [Act.put, List.setIfInBounds_toArray, List.set_cons_zero, List.set_cons_succ]
          refine mix_step (by simp only [List.getElem?_toArray, List.getElem?_cons_succ, List.getElem?_cons_zero] <;> rfl) (by kernel_rfl) (fun K hK => ?_)
          go_simp
          refine hK _ _ ?_
          clear hK K
          refine mix_step (by simp only [List.getElem?_toArray, List.getElem?_cons_succ, List.getElem?_cons_zero] <;> rfl) (by kernel_rfl) (fun K hK => ?_)
          go_simp
          refine hK _ _ ?_
          clear hK K
          refine mix_pure (v := ?_) (by simp only [List.getElem?_toArray, List.getElem?_cons_succ, List.getElem?_cons_zero] <;> rfl) (by kernel_rfl) ⟨Or.inl ⟨by kernel_rfl, ?_⟩, fun _ => (by rfl)⟩ ?_; rotate_left 1; focus (intro w; go_simp; try with_reducible rfl)
          simp only [Act.put, List.setIfInBounds_toArray, List.set_cons_zero, List.set_cons_succ]
          refine mix_pure (v := ?_) (by simp only [List.getElem?_toArray, List.getElem?_cons_succ, List.getElem?_cons_zero] <;> rfl) (by kernel_rfl) ⟨Or.inl ⟨by kernel_rfl, ?_⟩, fun _ => (by rfl)⟩ ?_; rotate_left 1; focus (intro w; go_simp; try with_reducible rfl)
          simp only [Act.put, List.setIfInBounds_toArray, List.set_cons_zero, List.set_cons_succ]
          refine mix_step (by simp only [List.getElem?_toArray, List.getElem?_cons_succ, List.getElem?_cons_zero] <;> rfl) (by kernel_rfl) (fun K hK => ?_)
          go_simp
          refine hK _ _ ?_
          clear hK K
          refine mix_pure (v := ?_) (by simp only [List.getElem?_toArray, List.getElem?_cons_succ, List.getElem?_cons_zero] <;> rfl) (by kernel_rfl) ⟨Or.inl ⟨by kernel_rfl, ?_⟩, fun _ => (by rfl)⟩ ?_; rotate_left 1; focus (intro w; go_simp; try with_reducible rfl)
          simp only [Act.put, List.setIfInBounds_toArray, List.set_cons_zero, List.set_cons_succ]
          refine mix_step (by simp only [List.getElem?_toArray, List.getElem?_cons_succ, List.getElem?_cons_zero] <;> rfl) (by kernel_rfl) (fun K hK => ?_)
          go_simp
          refine hK _ _ ?_
          clear hK K
          refine mix_pure (v := ?_) (by simp only [List.getElem?_toArray, List.getElem?_cons_succ, List.getElem?_cons_zero] <;> rfl) (by kernel_rfl) ⟨Or.inl ⟨by kernel_rfl, ?_⟩, fun _ => (by rfl)⟩ ?_; rotate_left 1; focus (intro w; go_simp; try with_reducible rfl)
          simp only [Act.put, List.setIfInBounds_toArray, List.set_cons_zero, List.set_cons_succ]
          refine mix_pure (v := ?_) (by simp only [List.getElem?_toArray, List.getElem?_cons_succ, List.getElem?_cons_zero] <;> rfl) (by kernel_rfl) ⟨Or.inl ⟨by kernel_rfl, ?_⟩, fun _ => (by rfl)⟩ ?_; rotate_left 1; focus (intro w; go_simp; try with_reducible rfl)
          simp only [Act.put, List.setIfInBounds_toArray, List.set_cons_zero, List.set_cons_succ]
          refine mix_end ?_
          gi_wp2
          exact HFIN.out _ (Turned.drew (Turned.drew (HTT.out.setCell (p := W2.heap.size) (.inl (by simp)) 0 (.int .i64 ((b.toNat : Int) + 1))))) (by have := HM.out.set 0 (.int .i64 ((b.toNat : Int) + 1)); exact Fresh.drew (Fresh.drew (by simpa using this)))
    case done =>
      rintro D xs W5 hD hxs ⟨k, hk, hpre, c5, cR, c3, c4, cB⟩ hD0
      obtain rfl : k = l.length := by
        have := congrArg List.length (hpre.symm.trans hxs)
        rw [List.length_take] at this
        omega
      have hgap : ∀ c : UInt8, fromN l l.length ≤ c.toNat → isIn c l = false := fun c h1 => from_gap HS.out (Nat.le_refl _) c h1 (fun h => absurd h (Nat.lt_irrefl _))
      have hf0 := fromN_le l l.length
      obtain ⟨f0, hff⟩ : ∃ f0, fromN l l.length = f0 := ⟨_, rfl⟩
      rw [hff] at hgap hf0 c5
      have hBn := HBn.out
      have hb5 : B ≠ W2.heap.size := by omega
      have h35 : W.heap.size ≠ W2.heap.size := by omega
      have h45 : W.heap.size + 1 ≠ W2.heap.size := by omega
      have kept : ∀ wr, Turned [W2.heap.size] W5 wr → RefAt wr B l (room : Int) ∧ Fresh wr W.heap.size #[.pointer (some ⟨B, 0, none⟩)] 28 ∧ Fresh wr (W.heap.size + 1) #[.bool false] 4 := fun wr hT =>
        ⟨cR.turned hT (by simpa using hb5), hT.other c3 (by simpa using h35), hT.other c4 (by simpa using h45)⟩
      have HKP := Lib.hid kept
      have HGAP := Lib.hid hgap
      have HC5 := Lib.hid c5
      have HB := Lib.hid cB
      have HD := Lib.hid hD0
      have HDS := Lib.hid hD
      have HLW := Lib.hid hf0
      clear kept hgap c5 cB hb5 h35 h45 cR c3 c4 hpre hk hff hf0 hBn f5 fs AL RL l3 l4 BW szL g2 hxs hD hD0
      go_wp2_with fail
      go_loopw [59] (fun v wr => ∃ m : Nat, f0 ≤ m ∧ m ≤ 256 ∧ Fresh wr W2.heap.size #[.int .i64 (m : Int)] 3 ∧ Turned [W2.heap.size] W5 wr) (fun _ wr => 256 - (intOf ((wr.cell? ⟨W2.heap.size, 0, none⟩).getD undef)).toNat)
      case atStart => exact ⟨f0, Nat.le_refl _, HLW.out, HC5.out, Turned.refl _ _⟩
      case round =>
        obtain ⟨m, hm1, hm2, cm, hT⟩ := hrel
        obtain ⟨kR, k3, k4⟩ := HKP.out _ hT
        have d5 := cm.cell 0
        have d5' := cm.thawed 0
        have d3 := k3.cell 0
        have d4 := k4.cell 0
        have d4' := k4.thawed 0
        simp only [List.getElem?_toArray, List.getElem?_cons_zero] at d5 d3 d4
        have HM := Lib.hid cm
        have HTT := Lib.hid hT
        have HK2 := Lib.hid (And.intro kR (And.intro k3 k4))
        by_cases hlt : m < 256
        · obtain ⟨b, rfl⟩ := byte_of hlt
          have i0 := kR.is b
          have q0 : (0 : Int) ≤ (b.toNat : Int) := Int.natCast_nonneg _
          have q1 : (b.toNat : Int) < 256 := by omega
          have q2 : decide ((b.toNat : Int) < 256) = true := decide_eq_true q1
          have hf := HGAP.out b hm1
          rw [hf] at i0
          clear cm hT kR k3 k4 hf
          go_wp2_with fail
          refine (wpIn_wide (n := 10)).1 ?_
          refine region_mix [1, 2, 5, 6, 7, 9, 10] [0, 1, 3, 7, 7, 15, 47, 127, 255, 511, 1023] [0, 1, 2, 3, 5, 6, 4, 7, 8, 9, 10] (by kernel_rfl) rfl (by kernel_rfl) ?_
          refine mix_step (by simp only [List.getElem?_toArray, List.getElem?_cons_zero] <;> rfl) (by kernel_rfl) (fun K hK => ?_)
          go_simp
          refine hK _ _ ?_
          clear hK K
          refine mix_pure (v := ?_) (by simp only [List.getElem?_toArray, List.getElem?_cons_succ, List.getElem?_cons_zero] <;> rfl) (by kernel_rfl) ⟨Or.inl ⟨by kernel_rfl, ?_⟩, fun _ => (by rfl)⟩ ?_; rotate_left 1; focus (intro w; go_simp; try with_reducible rfl)
          simp only [Act.put, List.setIfInBounds_toArray, List.set_cons_zero, List.set_cons_succ]
          refine mix_pure (v := ?_) (by simp only [List.getElem?_toArray, List.getElem?_cons_succ, List.getElem?_cons_zero] <;> rfl) (by kernel_rfl) ⟨Or.inl ⟨by kernel_rfl, ?_⟩, fun _ => (by rfl)⟩ ?_; rotate_left 1; focus (intro w; go_simp; try with_reducible rfl)
          simp only [Act.put, List.setIfInBounds_toArray, List.set_cons_zero, List.set_cons_succ]
          refine mix_step (by simp only [List.getElem?_toArray, List.getElem?_cons_succ, List.getElem?_cons_zero] <;> rfl) (by kernel_rfl) (fun K hK => ?_)
          go_simp
          refine hK _ _ ?_
          clear hK K
          refine mix_pure (v := ?_) (by simp only [List.getElem?_toArray, List.getElem?_cons_succ, List.getElem?_cons_zero] <;> rfl) (by kernel_rfl) ⟨Or.inl ⟨by kernel_rfl, ?_⟩, fun _ => (by rfl)⟩ ?_; rotate_left 1; focus (intro w; go_simp; try with_reducible rfl)
          simp only [Act.put, List.setIfInBounds_toArray, List.set_cons_zero, List.set_cons_succ]
          refine mix_pure (v := ?_) (by simp only [List.getElem?_toArray, List.getElem?_cons_succ, List.getElem?_cons_zero] <;> rfl) (by kernel_rfl) ⟨Or.inl ⟨by kernel_rfl, ?_⟩, fun _ => (by rfl)⟩ ?_; rotate_left 1; focus (intro w; go_simp; try with_reducible rfl)
          simp only [Act.put, List.setIfInBounds_toArray, List.set_cons_zero, List.set_cons_succ]
          refine mix_step (by simp only [List.getElem?_toArray, List.getElem?_cons_succ, List.getElem?_cons_zero] <;> rfl) (by kernel_rfl) (fun K hK => ?_)
          go_simp
          refine hK _ _ ?_
          clear hK K
          refine mix_pure (v := ?_) (by simp only [List.getElem?_toArray, List.getElem?_cons_succ, List.getElem?_cons_zero] <;> rfl) (by kernel_rfl) ⟨Or.inl ⟨by kernel_rfl, ?_⟩, fun _ => (by rfl)⟩ ?_; rotate_left 1; focus (intro w; go_simp; try with_reducible rfl)
          simp only [Act.put, List.setIfInBounds_toArray, List.set_cons_zero, List.set_cons_succ]
          refine mix_step (by simp only [List.getElem?_toArray, List.getElem?_cons_succ, List.getElem?_cons_zero] <;> rfl) (by kernel_rfl) (fun K hK => ?_)
          go_simp
          refine hK _ _ ?_
          clear hK K
          refine mix_pure (v := ?_) (by simp only [List.getElem?_toArray, List.getElem?_cons_succ, List.getElem?_cons_zero] <;> rfl) (by kernel_rfl) ⟨Or.inl ⟨by kernel_rfl, ?_⟩, fun _ => (by rfl)⟩ ?_; rotate_left 1; focus (intro w; go_simp; try with_reducible rfl)
          simp only [Act.put, List.setIfInBounds_toArray, List.set_cons_zero, List.set_cons_succ]
          refine mix_pure (v := ?_) (by simp only [List.getElem?_toArray, List.getElem?_cons_succ, List.getElem?_cons_zero] <;> rfl) (by kernel_rfl) ⟨Or.inl ⟨by kernel_rfl, ?_⟩, fun _ => (by rfl)⟩ ?_; rotate_left 1; focus (intro w; go_simp; try with_reducible rfl)
          simp only [Act.put, List.setIfInBounds_toArray, List.set_cons_zero, List.set_cons_succ]
          refine mix_end ?_
          go_wp2_with fail
          go_roundw
          case rel => exact ⟨b.toNat + 1, by omega, by omega, by have := HM.out.set 0 (.int .i64 ((b.toNat : Int) + 1)); exact Fresh.drew (by simpa using this), Turned.drew (HTT.out.setCell (p := W2.heap.size) (.inl (by simp)) 0 _)⟩
          case measure =>
            have h1 := ((HM.out.set 0 (.int .i64 ((b.toNat : Int) + 1))).drew).cell 0
            simp only [List.setIfInBounds_toArray, List.set_cons_zero, List.getElem?_toArray, List.getElem?_cons_zero] at h1
            rw [h1, d5]
            simp [intOf]
            omega
        · obtain rfl : m = 256 := by omega
          clear cm hT kR k3 k4
          go_wp2_with fail
          refine (wpIn_wide (n := 10)).1 ?_
          refine region_mix [1, 2, 3, 4, 5, 6, 7, 8, 9, 10] [0, 1, 3, 7, 7, 15, 47, 127, 255, 511, 1023] [0, 1, 2, 3, 4, 5, 6, 7, 8, 9, 10] (by kernel_rfl) rfl (by kernel_rfl) ?_
          refine mix_step (by simp only [List.getElem?_toArray, List.getElem?_cons_zero] <;> rfl) (by kernel_rfl) (fun K hK => ?_)
          go_simp
          refine hK _ _ ?_
          clear hK K
          refine mix_pure (v := ?_) (by simp only [List.getElem?_toArray, List.getElem?_cons_succ, List.getElem?_cons_zero] <;> rfl) (by kernel_rfl) ⟨Or.inl ⟨by kernel_rfl, ?_⟩, fun _ => (by rfl)⟩ ?_; rotate_left 1; focus (intro w; go_simp; try with_reducible rfl)
          simp only [Act.put, List.setIfInBounds_toArray, List.set_cons_zero, List.set_cons_succ]
          refine mix_pure (v := ?_) (by simp only [List.getElem?_toArray, List.getElem?_cons_succ, List.getElem?_cons_zero] <;> rfl) (by kernel_rfl) ⟨Or.inl ⟨by kernel_rfl, ?_⟩, fun _ => (by rfl)⟩ ?_; rotate_left 1; focus (intro w; go_simp; try with_reducible rfl)
          simp only [Act.put, List.setIfInBounds_toArray, List.set_cons_zero, List.set_cons_succ]
          refine mix_pure (v := undef) (by simp only [List.getElem?_toArray, List.getElem?_cons_succ, List.getElem?_cons_zero] <;> rfl) (by kernel_rfl) ⟨Or.inr ⟨by kernel_rfl, rfl⟩, fun _ => (by rfl)⟩ ?_
          simp only [Act.put, List.setIfInBounds_toArray, List.set_cons_zero, List.set_cons_succ]
          refine mix_pure (v := undef) (by simp only [List.getElem?_toArray, List.getElem?_cons_succ, List.getElem?_cons_zero] <;> rfl) (by kernel_rfl) ⟨Or.inr ⟨by kernel_rfl, rfl⟩, fun _ => (by rfl)⟩ ?_
          simp only [Act.put, List.setIfInBounds_toArray, List.set_cons_zero, List.set_cons_succ]
          refine mix_pure (v := undef) (by simp only [List.getElem?_toArray, List.getElem?_cons_succ, List.getElem?_cons_zero] <;> rfl) (by kernel_rfl) ⟨Or.inr ⟨by kernel_rfl, rfl⟩, fun _ => (by rfl)⟩ ?_
          simp only [Act.put, List.setIfInBounds_toArray, List.set_cons_zero, List.set_cons_succ]
          refine mix_pure (v := undef) (by simp only [List.getElem?_toArray, List.getElem?_cons_succ, List.getElem?_cons_zero] <;> rfl) (by kernel_rfl) ⟨Or.inr ⟨by kernel_rfl, rfl⟩, fun _ => (by rfl)⟩ ?_
          simp only [Act.put, List.setIfInBounds_toArray, List.set_cons_zero, List.set_cons_succ]
          refine mix_pure (v := undef) (by simp only [List.getElem?_toArray, List.getElem?_cons_succ, List.getElem?_cons_zero] <;> rfl) (by kernel_rfl) ⟨Or.inr ⟨by kernel_rfl, rfl⟩, fun _ => (by rfl)⟩ ?_
          simp only [Act.put, List.setIfInBounds_toArray, List.set_cons_zero, List.set_cons_succ]
          refine mix_pure (v := undef) (by simp only [List.getElem?_toArray, List.getElem?_cons_succ, List.getElem?_cons_zero] <;> rfl) (by kernel_rfl) ⟨Or.inr ⟨by kernel_rfl, rfl⟩, fun _ => (by rfl)⟩ ?_
          simp only [Act.put, List.setIfInBounds_toArray, List.set_cons_zero, List.set_cons_succ]
          refine mix_pure (v := undef) (by simp only [List.getElem?_toArray, List.getElem?_cons_succ, List.getElem?_cons_zero] <;> rfl) (by kernel_rfl) ⟨Or.inr ⟨by kernel_rfl, rfl⟩, fun _ => (by rfl)⟩ ?_
          simp only [Act.put, List.setIfInBounds_toArray, List.set_cons_zero, List.set_cons_succ]
          refine mix_pure (v := ?_) (by simp only [List.getElem?_toArray, List.getElem?_cons_succ, List.getElem?_cons_zero] <;> rfl) (by kernel_rfl) ⟨Or.inl ⟨by kernel_rfl, ?_⟩, fun _ => (by rfl)⟩ ?_; rotate_left 1; focus (intro w; go_simp; try with_reducible rfl)
          simp only [Act.put, List.setIfInBounds_toArray, List.set_cons_zero, List.set_cons_succ]
          refine mix_end ?_
          go_wp2_with fail
          obtain ⟨W9, hW9⟩ : ∃ W9, W9 = (wr.setCell ⟨W.heap.size + 1, 0, none⟩ (.bool true)).drew := ⟨_, rfl⟩
          rw [← hW9]
          have hBn := HBn.out
          have hDS := HDS.out
          have hSZ := HSZ.out
          have T9 : Turned [W2.heap.size, W.heap.size + 1] W5 W9 := by
            rw [hW9]
            exact ((HTT.out.wide (S' := [W2.heap.size, W.heap.size + 1]) (by simp)).setCell (p := W.heap.size + 1) (.inl (by simp)) 0 (.bool true)).drew
          have F9 : Fresh W9 (W.heap.size + 1) #[.bool true] 4 := by
            rw [hW9]
            have := HK2.out.2.2.set 0 (.bool true)
            exact Fresh.drew (by simpa using this)
          have hD9 : W9.heap[D]? = some (.deferred (some [])) := (T9.block D (Array.getElem?_eq_some_iff.1 HD.out).1 (by simp; omega)).trans HD.out
          have B9 : Below W.heap.size W W9 := Turned.below HB.out T9 (by intro k hk; simp at hk; omega) HB.out.size
          have low : Below W.heap.size W (W9.putObj D (.deferred none)) := below_put B9 (by omega)
          have rc : (W9.putObj D (.deferred none)).cell? ⟨W.heap.size + 1, 0, none⟩ = some (.bool true) := by
            rw [cell_same (W := W9) (p := ⟨W.heap.size + 1, 0, none⟩) (World.putObj_heap_other (by show W.heap.size + 1 ≠ D; omega))]
            exact (F9.cell 0).trans rfl
          clear hW9 T9 F9 B9
          refine calm_ret1 (v := .bool true) rfl hD9 ?_ ⟨rfl, low⟩
          rw [results_cell1 rfl]
          go_simp
    case stop => exact fun _ _ _ _ _ _ h => h.elim
end Go.Proofs.Ytiifogbdoajnoaa
