/- The law's awake. -/
import Derived.Test.YtjaijomkdgoenaaDoorGNe
import Derived.Deep.DeepCutAuto
import Derived.Deep.RegionHeld3
namespace Go.Proofs.YtjaijomkdgoenaaDoor.Nd
open Go.RowKit
open Mn
set_option maxRecDepth 1000000
set_option maxHeartbeats 4000000

def l4 : List En := [(1, 0, 1), (2, 1, 1), (3, 2, 1), (4, 3, 1)]
def l5 : List En := [(0, 9, 1), (1, 0, 1), (2, 1, 1), (3, 2, 1), (4, 3, 1)]
def l4b : List En := [(0, 9, 1), (1, 0, 1), (2, 1, 1), (4, 3, 1)]
/-- The first i references at the first i bytes. -/
def ents (i : Nat) : List En := (List.range i).map fun (j : Nat) => (UInt8.ofNat j, (j : Int), 1)
theorem ents_len (i : Nat) : (ents i).length = i := by simp [ents]
theorem u8_nat {i : Nat} (h : i < 256) : (UInt8.ofNat i).toNat = i := by simp [UInt8.toNat_ofNat]; omega
theorem ents_srt {i : Nat} (h : i ≤ 256) : Srt (ents i) := by
  unfold Srt ents
  rw [List.pairwise_map]
  refine (List.pairwise_lt_range (n := i)).imp_of_mem ?_
  intro a b ha hb hab
  rw [List.mem_range] at ha hb
  dsimp only
  rw [u8_nat (by omega), u8_nat (by omega)]
  exact hab
theorem ref_ok {j : Int} (h0 : 0 ≤ j) (h : j < 4096) : impR j 1 = false := by
  unfold impR
  rw [decide_eq_false (by omega), decide_eq_false (by omega)]
  rfl
theorem ents_ok {i : Nat} (h : i ≤ 256) : okR (ents i) := by
  intro x hx
  unfold ents at hx
  obtain ⟨j, hj, rfl⟩ := List.mem_map.1 hx
  rw [List.mem_range] at hj
  exact ref_ok (by dsimp only; omega) (by dsimp only; omega)
theorem ents_not {i : Nat} (h : i < 256) : isIn (UInt8.ofNat i) (ents i) = false := by
  cases hx : isIn (UInt8.ofNat i) (ents i) with
  | false => rfl
  | true =>
    obtain ⟨x, hm, he⟩ := (isIn_iff (ents_srt (by omega))).1 hx
    unfold ents at hm
    obtain ⟨j, hj, rfl⟩ := List.mem_map.1 hm
    rw [List.mem_range] at hj
    have := congrArg UInt8.toNat he
    dsimp only at this
    rw [u8_nat (by omega), u8_nat h] at this
    omega
theorem ents_put {i : Nat} (h : i < 256) : (ents i).insertIdx (placeIx (UInt8.ofNat i) (ents i)) (UInt8.ofNat i, (i : Int), 1) = ents (i + 1) := by
  have hn : putS (UInt8.ofNat i) (i : Int) 1 ((ents (i + 1)).take i) 256 = (ents (i + 1)).take (i + 1) := by
    refine put_next (ents_srt (by omega)) ?_ (by rw [ents_len]; omega)
    unfold ents
    rw [List.getElem?_map, List.getElem?_range (by omega)]
    rfl
  have e1 : (ents (i + 1)).take i = ents i := by
    unfold ents
    rw [← List.map_take, List.take_range, Nat.min_eq_left (by omega)]
  have e2 : (ents (i + 1)).take (i + 1) = ents (i + 1) := List.take_of_length_le (by rw [ents_len]; omega)
  rw [e1, e2] at hn
  rw [← hn, putS, if_neg]
  rintro (h1 | h1)
  · rw [ents_not h] at h1; cases h1
  · rw [ents_len] at h1; omega
theorem n4_right : (nb 2 ⟨#[]⟩ l4).rightInner = true := nb_right (p := ⟨#[]⟩) (l := l4) (by decide) (by decide) (by decide) (by decide) (by unfold okR; decide)
theorem n5_right : (nb 3 ⟨#[]⟩ l5).rightInner = true := nb_right (p := ⟨#[]⟩) (l := l5) (by decide) (by decide) (by decide) (by decide) (by unfold okR; decide)
theorem n4_full : (nb 2 ⟨#[]⟩ l4).full = true := by unfold No.full; rw [nb_len]; decide
theorem n4_add : addE (nb 2 ⟨#[]⟩ l4) 0 9 1 false = 0 ∧ addN (nb 2 ⟨#[]⟩ l4) 0 9 1 false = nb 3 ⟨#[]⟩ l5 :=
  nb_add (usable_of_right n4_right) (by decide) (by decide) false (by simp)
theorem n5_cut : cutE (nb 3 ⟨#[]⟩ l5) 3 = 0 ∧ cutN (nb 3 ⟨#[]⟩ l5) 3 false = nb 2 ⟨#[]⟩ l4b :=
  nb_cut (usable_of_right n5_right) (by decide) false
theorem top_add {i : Nat} (h : i < 17) : addE (nb 5 ⟨#[]⟩ (ents i)) (UInt8.ofNat i) (i : Int) 1 true = 0 ∧ addN (nb 5 ⟨#[]⟩ (ents i)) (UInt8.ofNat i) (i : Int) 1 true = nb 5 ⟨#[]⟩ (ents (i + 1)) := by
  have := nb_add (k := 5) (p := ⟨#[]⟩) (l := ents i) (usable_of_anchor (nb_top (by rw [ents_len]; omega) (ents_srt (by omega)) (ents_ok (by omega)))) (ref_ok (j := (i : Int)) (by omega) (by omega)) (ents_not (by omega)) true (fun _ => by
    rw [ents_len]
    show (i : Int) ≠ 256
    omega)
  rw [ents_put (by omega)] at this
  exact this
theorem inner4 : innerNo 2 ⟨#[]⟩ [1, 2, 3, 4] = nb 2 ⟨#[]⟩ l4 := by rw [innerNo_nb]; rfl
theorem inner0 : innerNo 5 ⟨#[]⟩ [] = nb 5 ⟨#[]⟩ (ents 0) := by rw [innerNo_nb]; rfl

/-- What stands in awake's loop behind c rounds. -/
def AwS (W wr : World) (P1 P2 P3 P4 : Nat) (ba1 : Option Addr) (bc1 : Nat) (ka1 : Option Addr) (kc1 : Nat) (ba2 : Option Addr) (bc2 : Nat) (ka2 : Option Addr) (kc2 : Nat) (ba3 : Option Addr) (bc3 : Nat) (ka3 : Option Addr) (kc3 : Nat) (c : Nat) : Prop :=
  Below W.heap.size W wr ∧ NBx wr P1 2 ⟨#[]⟩ l4 ba1 4 bc1 ka1 kc1 ∧ NBx wr P2 3 ⟨#[]⟩ l5 ba2 5 bc2 ka2 kc2 ∧ NBx wr P3 2 ⟨#[]⟩ l4b ba3 4 bc3 ka3 kc3 ∧
    (∃ ba bc ka kc, NBx wr P4 5 ⟨#[]⟩ (ents c) ba c bc ka kc ∧ (P1 < P4 ∧ P2 < P4 ∧ P3 < P4 ∧ W.heap.size ≤ P4))

structure AwR (W wr : World) (P1 P2 P3 P4 : Nat) (ba1 : Option Addr) (bc1 : Nat) (ka1 : Option Addr) (kc1 : Nat) (ba2 : Option Addr) (bc2 : Nat) (ka2 : Option Addr) (kc2 : Nat) (ba3 : Option Addr) (bc3 : Nat) (ka3 : Option Addr) (kc3 : Nat) (cv : Value) : Prop where
  ex : ∃ c : Nat, cv = .int .i64 c ∧ c ≤ 17 ∧ AwS W wr P1 P2 P3 P4 ba1 bc1 ka1 kc1 ba2 bc2 ka2 kc2 ba3 bc3 ka3 kc3 c
theorem AwR.of {W wr : World} {P1 P2 P3 P4 : Nat} {ba1 : Option Addr} {bc1 : Nat} {ka1 : Option Addr} {kc1 : Nat} {ba2 : Option Addr} {bc2 : Nat} {ka2 : Option Addr} {kc2 : Nat} {ba3 : Option Addr} {bc3 : Nat} {ka3 : Option Addr} {kc3 : Nat} {cv : Value} (c : Nat) (h1 : cv = .int .i64 c) (h2 : c ≤ 17) (h3 : AwS W wr P1 P2 P3 P4 ba1 bc1 ka1 kc1 ba2 bc2 ka2 kc2 ba3 bc3 ka3 kc3 c) : AwR W wr P1 P2 P3 P4 ba1 bc1 ka1 kc1 ba2 bc2 ka2 kc2 ba3 bc3 ka3 kc3 cv := ⟨⟨c, h1, h2, h3⟩⟩

theorem awake_any (W : World) (hrm : Rm W) : Calls Tryd.prog 5 #[] W fun e w' => e = .returned (.bool true) ∧ Below W.heap.size W w' := by
  have HRM := Lib.hid (fun w (hb : Below W.heap.size W w) => hrm.on hb)
  obtain ⟨W1, hW1⟩ : ∃ W1, W1 = W.alloc (.cells #[.int .u8 1, .int .u8 2, .int .u8 3, .int .u8 4] 5) := ⟨_, rfl⟩
  have B1 : Below W.heap.size W W1 := by rw [hW1]; exact Below.new (Below.refl _ _) _
  have F1 : Fresh W1 W.heap.size #[.int .u8 1, .int .u8 2, .int .u8 3, .int .u8 4] 5 := by rw [hW1]; exact Fresh.new _ _ _ _ rfl
  have b1 : BR W1 [1, 2, 3, 4] (.slice (some ⟨W.heap.size, 0, none⟩) 4 4) := by
    refine ⟨_, 4, rfl, ?_⟩
    intro j k hj
    refine ⟨_, 0, rfl, F1.lt, ?_⟩
    rw [Nat.zero_add, F1.cell j]
    rcases j with _ | _ | _ | _ | j <;> simp at hj
    all_goals subst hj; rfl
  have HI := Lib.hid (linner_any 2 ⟨#[]⟩ [1, 2, 3, 4] (some ⟨W.heap.size, 0, none⟩) 4 W1 (HRM.out _ B1) b1 (by decide))
  rw [inner4] at HI
  have HW1 := Lib.hid hW1
  have HB1 := Lib.hid B1
  clear hW1 B1 F1 b1 hrm
  go_enter Tryd.func5, Tryd.ntmps5
  go_upto_region 2 with (go_at_call 15; rw [← HW1.out]; refine HI.out.mono ?_; rintro e2 w2 ⟨ka, kc, rfl, hb2, hn2⟩; rw [nb_val (m := 4) rfl]; have HB2 := Lib.hid (Below.step HB1.out hb2); have HN2 := Lib.hid (NBx.new (m := 4) rfl hn2); clear hb2 hn2)
  obtain ⟨P1, hP1⟩ : ∃ P1, w2.heap.size = P1 := ⟨_, rfl⟩
  obtain ⟨W3, hW3⟩ : ∃ W3, W3 = w2.alloc (.cells #[.int .i64 2, .string ⟨#[]⟩, .string ⟨#[]⟩, .string ⟨#[]⟩, .slice (some ⟨W.heap.size, 0, none⟩) 4 4, .slice ka 4 kc] 26) := ⟨_, rfl⟩
  have B3 : Below W.heap.size W W3 := by rw [hW3]; exact Below.new HB2.out _
  rw [← hW3, hP1] at HN2 ⊢
  have HB3 := Lib.hid B3
  have HLT1 : Hid (W.heap.size ≤ P1) := by rw [← hP1]; exact HB2.out.size
  clear hW3 B3 HB2
  obtain ⟨⟨x0, x1, x2, x3, x4, x5⟩, -⟩ := HN2.out.cells
  have HRf := Lib.hid (fun w => ref_any 9 w)
  have HA : Hid (∀ w, Below W3.heap.size W3 w → Calls Tryd.prog 9 #[.agg #[.int .i64 2, .string ⟨#[]⟩, .string ⟨#[]⟩, .string ⟨#[]⟩, .slice (some ⟨W.heap.size, 0, none⟩) 4 4, .slice ka 4 kc], .int .u8 0, .agg #[.int .i64 9, .int .u32 1], .bool false] w fun e w' => ∃ ba bc ka kc, e = .returned (.tuple #[.agg #[.int .i64 3, .string ⟨#[]⟩, .string ⟨#[]⟩, .string ⟨#[]⟩, .slice ba 5 bc, .slice ka 5 kc], .int .i64 0]) ∧ Below w.heap.size w w' ∧ NdAt w' (nb 3 ⟨#[]⟩ l5) ba bc ka kc) := by
    intro w hb
    refine (nbAdd_any rfl (HN2.out.nd.below hb) 0 9 1 false).mono ?_
    rw [n4_add.1, n4_add.2]
    exact fun e w' h => mk_nb rfl h
  have HRM3 : Hid (Rm W3) := HRM.out _ HB3.out
  have KS : Hid (∀ w, Below W3.heap.size W3 w → (w.cell? ⟨P1, 0, none⟩ = some (.int .i64 2) ∧ w.cell? ⟨P1, 1, none⟩ = some (.string ⟨#[]⟩) ∧ w.cell? ⟨P1, 2, none⟩ = some (.string ⟨#[]⟩) ∧ w.cell? ⟨P1, 3, none⟩ = some (.string ⟨#[]⟩) ∧ w.cell? ⟨P1, 4, none⟩ = some (.slice (some ⟨W.heap.size, 0, none⟩) 4 4) ∧ w.cell? ⟨P1, 5, none⟩ = some (.slice ka 4 kc))) := fun w hb => (HN2.out.below hb).cells.1
  clear x0 x1 x2 x3 x4 x5
  go_cut [2, 3] (fun s2 s3 wx => ∃ P2 ba bc ka kc, s2 = .pointer (some ⟨P2, 0, none⟩) ∧ s3 = .int .i64 0 ∧ Below W3.heap.size W3 wx ∧ NBx wx P2 3 ⟨#[]⟩ l5 ba 5 bc ka kc)
  case first =>
    refine wp_region_held_drew (S := fun W' => W'.cell? ⟨P1, 0, none⟩ = some (.int .i64 2) ∧ W'.cell? ⟨P1, 1, none⟩ = some (.string ⟨#[]⟩) ∧ W'.cell? ⟨P1, 2, none⟩ = some (.string ⟨#[]⟩) ∧ W'.cell? ⟨P1, 3, none⟩ = some (.string ⟨#[]⟩) ∧ W'.cell? ⟨P1, 4, none⟩ = some (.slice (some ⟨W.heap.size, 0, none⟩) 4 4) ∧ W'.cell? ⟨P1, 5, none⟩ = some (.slice ka 4 kc)) (by kernel_rfl) ?_ (fun hHeld => ?_)
    · (try dsimp only)
      exact KS.out _ (Below.refl W3.heap.size W3).drew
    refine wpAnyH_take (i := 0) (oi := ?_) (v := ?_) ?_ (by kernel_rfl) (by kernel_rfl) (by kernel_rfl) ?_ (Or.inl ⟨?_, ?_⟩) (by assumption) ?_
    rotate_left 2
    · simp only [List.getElem?_toArray, List.getElem?_cons_succ, List.getElem?_cons_zero] <;> rfl
    · exact fun _ _ _ h => h
    · rfl
    · (intro w hSw; (try dsimp only at hSw); go_simp; try (with_reducible rfl))
    try simp only [Act.put, List.setIfInBounds_toArray, List.set_cons_zero, List.set_cons_succ]
    refine wpAnyH_ready (rs := [1, 6]) (by kernel_rfl) (by simp) ?_
    refine AllReadyH.cons (o := _) (by simp only [List.getElem?_toArray, List.getElem?_cons_succ, List.getElem?_cons_zero] <;> rfl) (fun K hK => ?_) ?_
    · go_simp
      refine (HRf.out _).mono ?_
      rintro e4 w4 ⟨rfl, hb4⟩
      have HB4 := Lib.hid (Below.step (w := W3) ((Below.refl W3.heap.size W3).drew) hb4)
      clear hb4
      go_wp2_with fail
      refine hK.out _ _ ?_ (fun hHeld => ?_)
      · (try dsimp only)
        exact KS.out _ HB4.out
      clear hK K
      try simp only [Act.put, List.setIfInBounds_toArray, List.set_cons_zero, List.set_cons_succ]
      refine wpAnyH_ready (rs := [2, 6]) (by kernel_rfl) (by simp) ?_
      refine AllReadyH.cons (o := _) (by simp only [List.getElem?_toArray, List.getElem?_cons_succ, List.getElem?_cons_zero] <;> rfl) (fun K hK => ?_) ?_
      · go_simp
        refine (HA.out _ HB4.out).mono ?_
        rintro e5 w5 ⟨ba5, bc5, ka5, kc5, rfl, hb5, hn5⟩
        have HB5 := Lib.hid (Below.step (w := W3) (HB4.out) hb5)
        have HN5 := Lib.hid hn5
        clear hb5 hn5
        go_wp2_with fail
        refine hK.out _ _ ?_ (fun hHeld => ?_)
        · (try dsimp only)
          exact KS.out _ HB5.out
        clear hK K
        try simp only [Act.put, List.setIfInBounds_toArray, List.set_cons_zero, List.set_cons_succ]
        refine wpAnyH_take (i := 3) (oi := ?_) (v := ?_) ?_ (by kernel_rfl) (by kernel_rfl) (by kernel_rfl) ?_ (Or.inl ⟨?_, ?_⟩) (by assumption) ?_
        rotate_left 2
        · simp only [List.getElem?_toArray, List.getElem?_cons_succ, List.getElem?_cons_zero] <;> rfl
        · exact fun _ _ _ h => h
        · rfl
        · (intro w hSw; (try dsimp only at hSw); go_simp; try (with_reducible rfl))
        try simp only [Act.put, List.setIfInBounds_toArray, List.set_cons_zero, List.set_cons_succ]
        refine wpAnyH_take (i := 4) (oi := ?_) (v := ?_) ?_ (by kernel_rfl) (by kernel_rfl) (by kernel_rfl) ?_ (Or.inl ⟨?_, ?_⟩) (by assumption) ?_
        rotate_left 2
        · simp only [List.getElem?_toArray, List.getElem?_cons_succ, List.getElem?_cons_zero] <;> rfl
        · exact fun _ _ _ h => h
        · rfl
        · (intro w hSw; (try dsimp only at hSw); go_simp; try (with_reducible rfl))
        try simp only [Act.put, List.setIfInBounds_toArray, List.set_cons_zero, List.set_cons_succ]
        refine wpAnyH_take (i := 5) (oi := ?_) (v := ?_) ?_ (by kernel_rfl) (by kernel_rfl) (by kernel_rfl) ?_ (Or.inl ⟨?_, ?_⟩) (by assumption) ?_
        rotate_left 2
        · simp only [List.getElem?_toArray, List.getElem?_cons_succ, List.getElem?_cons_zero] <;> rfl
        · exact fun _ _ _ h => h
        · rfl
        · (intro w hSw; (try dsimp only at hSw); go_simp; try (with_reducible rfl))
        try simp only [Act.put, List.setIfInBounds_toArray, List.set_cons_zero, List.set_cons_succ]
        refine wpAnyH_ready (rs := [6]) (by kernel_rfl) (by simp) ?_
        refine AllReadyH.cons (o := _) (by simp only [List.getElem?_toArray, List.getElem?_cons_succ, List.getElem?_cons_zero] <;> rfl) (fun K hK => ?_) ?_
        · go_simp
          refine hK.out _ _ ?_ (fun hHeld => ?_)
          · (try dsimp only)
            exact KS.out _ (Below.new (HB5.out) _)
          clear hK K
          try simp only [Act.put, List.setIfInBounds_toArray, List.set_cons_zero, List.set_cons_succ]
          refine wpAnyH_ready (rs := [7]) (by kernel_rfl) (by simp) ?_
          refine AllReadyH.cons (o := _) (by simp only [List.getElem?_toArray, List.getElem?_cons_succ, List.getElem?_cons_zero] <;> rfl) (fun K hK => ?_) ?_
          · go_simp
            refine hK.out _ _ ?_ (fun hHeld => ?_)
            · (try dsimp only)
              exact KS.out _ (leaf_new HB5.out (l := l5) (m := 5) rfl HN5.out rfl).1
            clear hK K
            try simp only [Act.put, List.setIfInBounds_toArray, List.set_cons_zero, List.set_cons_succ]
            refine wpAnyH_take (i := 8) (oi := ?_) (v := ?_) ?_ (by kernel_rfl) (by kernel_rfl) (by kernel_rfl) ?_ (Or.inl ⟨?_, ?_⟩) (by assumption) ?_
            rotate_left 2
            · simp only [List.getElem?_toArray, List.getElem?_cons_succ, List.getElem?_cons_zero] <;> rfl
            · exact fun _ _ _ h => h
            · rfl
            · (intro w hSw; (try dsimp only at hSw); go_simp; try (with_reducible rfl))
            try simp only [Act.put, List.setIfInBounds_toArray, List.set_cons_zero, List.set_cons_succ]
            refine wpAnyH_done (by kernel_rfl) ?_ _
            go_wp2_with fail
            go_meet
            have h := leaf_new HB5.out (l := l5) (m := 5) rfl HN5.out rfl
            exact ⟨_, _, _, _, _, rfl, rfl, h.1, h.2⟩
          exact AllReadyH.nil
        exact AllReadyH.nil
      refine AllReadyH.cons (o := _) (by simp only [List.getElem?_toArray, List.getElem?_cons_succ, List.getElem?_cons_zero] <;> rfl) (fun K hK => ?_) ?_
      · go_simp
        refine hK.out _ _ ?_ (fun hHeld => ?_)
        · (try dsimp only)
          exact KS.out _ (Below.new (HB4.out) _)
        clear hK K
        try simp only [Act.put, List.setIfInBounds_toArray, List.set_cons_zero, List.set_cons_succ]
        refine wpAnyH_ready (rs := [2]) (by kernel_rfl) (by simp) ?_
        refine AllReadyH.cons (o := _) (by simp only [List.getElem?_toArray, List.getElem?_cons_succ, List.getElem?_cons_zero] <;> rfl) (fun K hK => ?_) ?_
        · go_simp
          refine (HA.out _ (Below.new (HB4.out) _)).mono ?_
          rintro e5 w5 ⟨ba5, bc5, ka5, kc5, rfl, hb5, hn5⟩
          have F5 := (Fresh.new w4 w4.heap.size zeroC 26 rfl).below hb5
          obtain ⟨⟨z0, z1, z2, z3, z4, z5⟩, q0, q1, q2, q3, q4, q5⟩ := zcells F5
          have HF5 := Lib.hid (And.intro F5 (HB4.out.size))
          clear F5
          have HB5 := Lib.hid (Below.step (w := W3) ((Below.new (HB4.out) _)) hb5)
          have HN5 := Lib.hid hn5
          clear hb5 hn5
          go_wp2_with fail
          refine hK.out _ _ ?_ (fun hHeld => ?_)
          · (try dsimp only)
            exact KS.out _ HB5.out
          clear hK K
          try simp only [Act.put, List.setIfInBounds_toArray, List.set_cons_zero, List.set_cons_succ]
          refine wpAnyH_take (i := 3) (oi := ?_) (v := ?_) ?_ (by kernel_rfl) (by kernel_rfl) (by kernel_rfl) ?_ (Or.inl ⟨?_, ?_⟩) (by assumption) ?_
          rotate_left 2
          · simp only [List.getElem?_toArray, List.getElem?_cons_succ, List.getElem?_cons_zero] <;> rfl
          · exact fun _ _ _ h => h
          · rfl
          · (intro w hSw; (try dsimp only at hSw); go_simp; try (with_reducible rfl))
          try simp only [Act.put, List.setIfInBounds_toArray, List.set_cons_zero, List.set_cons_succ]
          refine wpAnyH_take (i := 4) (oi := ?_) (v := ?_) ?_ (by kernel_rfl) (by kernel_rfl) (by kernel_rfl) ?_ (Or.inl ⟨?_, ?_⟩) (by assumption) ?_
          rotate_left 2
          · simp only [List.getElem?_toArray, List.getElem?_cons_succ, List.getElem?_cons_zero] <;> rfl
          · exact fun _ _ _ h => h
          · rfl
          · (intro w hSw; (try dsimp only at hSw); go_simp; try (with_reducible rfl))
          try simp only [Act.put, List.setIfInBounds_toArray, List.set_cons_zero, List.set_cons_succ]
          refine wpAnyH_take (i := 5) (oi := ?_) (v := ?_) ?_ (by kernel_rfl) (by kernel_rfl) (by kernel_rfl) ?_ (Or.inl ⟨?_, ?_⟩) (by assumption) ?_
          rotate_left 2
          · simp only [List.getElem?_toArray, List.getElem?_cons_succ, List.getElem?_cons_zero] <;> rfl
          · exact fun _ _ _ h => h
          · rfl
          · (intro w hSw; (try dsimp only at hSw); go_simp; try (with_reducible rfl))
          try simp only [Act.put, List.setIfInBounds_toArray, List.set_cons_zero, List.set_cons_succ]
          refine wpAnyH_ready (rs := [7]) (by kernel_rfl) (by simp) ?_
          refine AllReadyH.cons (o := _) (by simp only [List.getElem?_toArray, List.getElem?_cons_succ, List.getElem?_cons_zero] <;> rfl) (fun K hK => ?_) ?_
          · go_simp
            refine hK.out _ _ ?_ (fun hHeld => ?_)
            · (try dsimp only)
              exact KS.out _ (leaf_fill HB5.out HRM3.out HF5.out.1 HF5.out.2 (l := l5) (m := 5) rfl HN5.out rfl).1
            clear hK K
            try simp only [Act.put, List.setIfInBounds_toArray, List.set_cons_zero, List.set_cons_succ]
            refine wpAnyH_take (i := 8) (oi := ?_) (v := ?_) ?_ (by kernel_rfl) (by kernel_rfl) (by kernel_rfl) ?_ (Or.inl ⟨?_, ?_⟩) (by assumption) ?_
            rotate_left 2
            · simp only [List.getElem?_toArray, List.getElem?_cons_succ, List.getElem?_cons_zero] <;> rfl
            · exact fun _ _ _ h => h
            · rfl
            · (intro w hSw; (try dsimp only at hSw); go_simp; try (with_reducible rfl))
            try simp only [Act.put, List.setIfInBounds_toArray, List.set_cons_zero, List.set_cons_succ]
            refine wpAnyH_done (by kernel_rfl) ?_ _
            go_wp2_with fail
            go_meet
            have h := leaf_fill HB5.out HRM3.out HF5.out.1 HF5.out.2 (l := l5) (m := 5) rfl HN5.out rfl
            exact ⟨_, _, _, _, _, rfl, rfl, h.1, h.2⟩
          exact AllReadyH.nil
        exact AllReadyH.nil
      exact AllReadyH.nil
    refine AllReadyH.cons (o := _) (by simp only [List.getElem?_toArray, List.getElem?_cons_succ, List.getElem?_cons_zero] <;> rfl) (fun K hK => ?_) ?_
    · go_simp
      refine hK.out _ _ ?_ (fun hHeld => ?_)
      · (try dsimp only)
        exact KS.out _ (Below.new ((Below.refl W3.heap.size W3).drew) _)
      clear hK K
      try simp only [Act.put, List.setIfInBounds_toArray, List.set_cons_zero, List.set_cons_succ]
      refine wpAnyH_ready (rs := [1]) (by kernel_rfl) (by simp) ?_
      refine AllReadyH.cons (o := _) (by simp only [List.getElem?_toArray, List.getElem?_cons_succ, List.getElem?_cons_zero] <;> rfl) (fun K hK => ?_) ?_
      · go_simp
        refine (HRf.out _).mono ?_
        rintro e4 w4 ⟨rfl, hb4⟩
        have HF4 := Lib.hid ((Fresh.new W3.drew W3.heap.size zeroC 26 rfl).below hb4)
        have HB4 := Lib.hid (Below.step (w := W3) ((Below.new ((Below.refl W3.heap.size W3).drew) _)) hb4)
        clear hb4
        go_wp2_with fail
        refine hK.out _ _ ?_ (fun hHeld => ?_)
        · (try dsimp only)
          exact KS.out _ HB4.out
        clear hK K
        try simp only [Act.put, List.setIfInBounds_toArray, List.set_cons_zero, List.set_cons_succ]
        refine wpAnyH_ready (rs := [2]) (by kernel_rfl) (by simp) ?_
        refine AllReadyH.cons (o := _) (by simp only [List.getElem?_toArray, List.getElem?_cons_succ, List.getElem?_cons_zero] <;> rfl) (fun K hK => ?_) ?_
        · go_simp
          refine (HA.out _ HB4.out).mono ?_
          rintro e5 w5 ⟨ba5, bc5, ka5, kc5, rfl, hb5, hn5⟩
          have F5 := HF4.out.below hb5
          obtain ⟨⟨z0, z1, z2, z3, z4, z5⟩, q0, q1, q2, q3, q4, q5⟩ := zcells F5
          have HF5 := Lib.hid (And.intro F5 (Nat.le_refl W3.heap.size))
          clear F5
          have HB5 := Lib.hid (Below.step (w := W3) (HB4.out) hb5)
          have HN5 := Lib.hid hn5
          clear hb5 hn5
          go_wp2_with fail
          refine hK.out _ _ ?_ (fun hHeld => ?_)
          · (try dsimp only)
            exact KS.out _ HB5.out
          clear hK K
          try simp only [Act.put, List.setIfInBounds_toArray, List.set_cons_zero, List.set_cons_succ]
          refine wpAnyH_take (i := 3) (oi := ?_) (v := ?_) ?_ (by kernel_rfl) (by kernel_rfl) (by kernel_rfl) ?_ (Or.inl ⟨?_, ?_⟩) (by assumption) ?_
          rotate_left 2
          · simp only [List.getElem?_toArray, List.getElem?_cons_succ, List.getElem?_cons_zero] <;> rfl
          · exact fun _ _ _ h => h
          · rfl
          · (intro w hSw; (try dsimp only at hSw); go_simp; try (with_reducible rfl))
          try simp only [Act.put, List.setIfInBounds_toArray, List.set_cons_zero, List.set_cons_succ]
          refine wpAnyH_take (i := 4) (oi := ?_) (v := ?_) ?_ (by kernel_rfl) (by kernel_rfl) (by kernel_rfl) ?_ (Or.inl ⟨?_, ?_⟩) (by assumption) ?_
          rotate_left 2
          · simp only [List.getElem?_toArray, List.getElem?_cons_succ, List.getElem?_cons_zero] <;> rfl
          · exact fun _ _ _ h => h
          · rfl
          · (intro w hSw; (try dsimp only at hSw); go_simp; try (with_reducible rfl))
          try simp only [Act.put, List.setIfInBounds_toArray, List.set_cons_zero, List.set_cons_succ]
          refine wpAnyH_take (i := 5) (oi := ?_) (v := ?_) ?_ (by kernel_rfl) (by kernel_rfl) (by kernel_rfl) ?_ (Or.inl ⟨?_, ?_⟩) (by assumption) ?_
          rotate_left 2
          · simp only [List.getElem?_toArray, List.getElem?_cons_succ, List.getElem?_cons_zero] <;> rfl
          · exact fun _ _ _ h => h
          · rfl
          · (intro w hSw; (try dsimp only at hSw); go_simp; try (with_reducible rfl))
          try simp only [Act.put, List.setIfInBounds_toArray, List.set_cons_zero, List.set_cons_succ]
          refine wpAnyH_ready (rs := [7]) (by kernel_rfl) (by simp) ?_
          refine AllReadyH.cons (o := _) (by simp only [List.getElem?_toArray, List.getElem?_cons_succ, List.getElem?_cons_zero] <;> rfl) (fun K hK => ?_) ?_
          · go_simp
            refine hK.out _ _ ?_ (fun hHeld => ?_)
            · (try dsimp only)
              exact KS.out _ (leaf_fill HB5.out HRM3.out HF5.out.1 HF5.out.2 (l := l5) (m := 5) rfl HN5.out rfl).1
            clear hK K
            try simp only [Act.put, List.setIfInBounds_toArray, List.set_cons_zero, List.set_cons_succ]
            refine wpAnyH_take (i := 8) (oi := ?_) (v := ?_) ?_ (by kernel_rfl) (by kernel_rfl) (by kernel_rfl) ?_ (Or.inl ⟨?_, ?_⟩) (by assumption) ?_
            rotate_left 2
            · simp only [List.getElem?_toArray, List.getElem?_cons_succ, List.getElem?_cons_zero] <;> rfl
            · exact fun _ _ _ h => h
            · rfl
            · (intro w hSw; (try dsimp only at hSw); go_simp; try (with_reducible rfl))
            try simp only [Act.put, List.setIfInBounds_toArray, List.set_cons_zero, List.set_cons_succ]
            refine wpAnyH_done (by kernel_rfl) ?_ _
            go_wp2_with fail
            go_meet
            have h := leaf_fill HB5.out HRM3.out HF5.out.1 HF5.out.2 (l := l5) (m := 5) rfl HN5.out rfl
            exact ⟨_, _, _, _, _, rfl, rfl, h.1, h.2⟩
          exact AllReadyH.nil
        exact AllReadyH.nil
      exact AllReadyH.nil
    exact AllReadyH.nil
  case rest =>
    obtain ⟨P2, ba2, bc2, ka2, kc2, rfl, rfl, hb6, hn6⟩ := hcut
    have HB6 := Lib.hid hb6
    have HN6 := Lib.hid hn6
    have HN1 := Lib.hid (HN2.out.below hb6)
    obtain ⟨⟨x0, x1, x2, x3, x4, x5⟩, -⟩ := hn6.cells
    have HC : Hid (∀ w, Below wc.heap.size wc w → Calls Tryd.prog 10 #[.agg #[.int .i64 3, .string ⟨#[]⟩, .string ⟨#[]⟩, .string ⟨#[]⟩, .slice ba2 5 bc2, .slice ka2 5 kc2], .int .u8 3, .bool false] w fun e w' => ∃ ba bc ka kc, e = .returned (.tuple #[.agg #[.int .i64 2, .string ⟨#[]⟩, .string ⟨#[]⟩, .string ⟨#[]⟩, .slice ba 4 bc, .slice ka 4 kc], .int .i64 0]) ∧ Below w.heap.size w w' ∧ NdAt w' (nb 2 ⟨#[]⟩ l4b) ba bc ka kc) := by
      intro w hb
      refine (nbCut_any rfl (hn6.nd.below hb) 3 false).mono ?_
      rw [n5_cut.1, n5_cut.2]
      exact fun e w' h => mk_nb rfl h
    have HI0 : Hid (∀ w, Below W.heap.size W w → Calls Tryd.prog 15 #[.int .i64 5, .string ⟨#[]⟩, .slice none 0 0] w fun e w' => ∃ ka kc, e = .returned (.agg #[.int .i64 5, .string ⟨#[]⟩, .string ⟨#[]⟩, .string ⟨#[]⟩, .slice none 0 0, .slice ka 0 kc]) ∧ Below w.heap.size w w' ∧ NdAt w' (nb 5 ⟨#[]⟩ (ents 0)) none 0 ka kc) := by
      intro w hb
      have := linner_any 5 ⟨#[]⟩ [] none 0 w (HRM.out _ hb) (BR.nil w) (by decide)
      rw [inner0] at this
      refine this.mono ?_
      rintro e w' ⟨ka, kc, h1, h2, h3⟩
      rw [nb_val (m := 0) rfl] at h1
      exact ⟨ka, kc, h1, h2, h3⟩
    clear hb6 hn6 HA HRf HI KS HN2 HW1
    go_upto_region 5 with (first
      | (go_at_call 10; refine (HC.out _ (Below.refl _ _)).mono ?_; rintro e7 w7 ⟨ba7, bc7, ka7, kc7, rfl, hb7, hn7⟩; have HN7 := Lib.hid (NBx.new (l := l4b) (m := 4) rfl hn7); have HSZ : Hid (wc.heap.size ≤ w7.heap.size) := hb7.size; have HB7 := Lib.hid (Below.new hb7 (.cells #[.int .i64 2, .string ⟨#[]⟩, .string ⟨#[]⟩, .string ⟨#[]⟩, .slice ba7 4 bc7, .slice ka7 4 kc7] 26)); clear hb7 hn7)
      | (go_at_call 15; refine (HI0.out _ (Below.step HB3.out (Below.step HB6.out HB7.out))).mono ?_; rintro e9 w9 ⟨ka9, kc9, rfl, hb9, hn9⟩; have HN9 := Lib.hid (NBx.new (l := ents 0) (m := 0) rfl hn9); have HSZ9 := Lib.hid hb9.size; have HB9 := Lib.hid (Below.new hb9 (.cells #[.int .i64 5, .string ⟨#[]⟩, .string ⟨#[]⟩, .string ⟨#[]⟩, .slice none 0 0, .slice ka9 0 kc9] 26)); clear hb9 hn9))
    obtain ⟨P3, hP3⟩ : ∃ P3, w7.heap.size = P3 := ⟨_, rfl⟩
    obtain ⟨P4, hP4⟩ : ∃ P4, w9.heap.size = P4 := ⟨_, rfl⟩
    rw [hP3] at HN7 ⊢
    rw [hP4] at HN9 ⊢
    obtain ⟨W8, hW8⟩ : ∃ W8, W8 = w7.alloc (.cells #[.int .i64 2, .string ⟨#[]⟩, .string ⟨#[]⟩, .string ⟨#[]⟩, .slice ba7 4 bc7, .slice ka7 4 kc7] 26) := ⟨_, rfl⟩
    obtain ⟨W0, hW0⟩ : ∃ W0, W0 = w9.alloc (.cells #[.int .i64 5, .string ⟨#[]⟩, .string ⟨#[]⟩, .string ⟨#[]⟩, .slice none 0 0, .slice ka9 0 kc9] 26) := ⟨_, rfl⟩
    rw [← hW8] at HN7 HB7 HB9 HSZ9
    rw [← hW0] at HN9 HB9 ⊢
    have S0 : AwS W W0 P1 P2 P3 P4 (some ⟨W.heap.size, 0, none⟩) 4 ka kc ba2 bc2 ka2 kc2 ba7 bc7 ka7 kc7 0 := by
      have B8 := Below.step HB6.out HB7.out
      refine ⟨Below.step HB3.out (Below.step B8 HB9.out), (HN1.out.below HB7.out).below HB9.out, (HN6.out.below HB7.out).below HB9.out, HN7.out.below HB9.out, none, 0, ka9, kc9, HN9.out, ?_⟩
      have a1 := HN1.out.box.lt
      have a2 := HN6.out.box.lt
      have a3 := HN7.out.box.lt
      have a4 := HLT1.out
      have a5 := HB3.out.size
      have a6 := HB6.out.size
      have a7 := HB7.out.size
      have a8 : wc.heap.size ≤ P3 := by rw [← hP3]; exact HSZ.out
      have a9 : W8.heap.size ≤ P4 := by rw [← hP4]; exact HSZ9.out
      exact ⟨by omega, by omega, by omega⟩
    have HS0 := Lib.hid S0
    clear S0 hW8 hW0 hP3 hP4 x0 x1 x2 x3 x4 x5
    go_wp2_with fail
    go_loopw [7, 8, 9] (fun cv u8 u9 wr => AwR W wr P1 P2 P3 P4 (some ⟨W.heap.size, 0, none⟩) 4 ka kc ba2 bc2 ka2 kc2 ba7 bc7 ka7 kc7 cv) (fun cv _ _ _ => 17 - (intOf cv).toNat)
    case atStart => exact ⟨⟨0, rfl, by omega, HS0.out⟩⟩
    case round =>
      obtain ⟨⟨c, rfl, hc, hS⟩⟩ := hrel
      obtain ⟨hlow, hN1, hN2, hN3, bt, bct, kt, kct, hN4, hPs⟩ := hS
      have HRMr : Hid (Rm wr) := HRM.out _ hlow
      have HLow := Lib.hid hlow
      have HN1 := Lib.hid hN1
      have HN2 := Lib.hid hN2
      have HN3 := Lib.hid hN3
      have HN4 := Lib.hid hN4
      have HPs := Lib.hid hPs
      have KS : Hid (∀ w, Below wr.heap.size wr w → (w.cell? ⟨P4, 0, none⟩ = some (.int .i64 5) ∧ w.cell? ⟨P4, 1, none⟩ = some (.string ⟨#[]⟩) ∧ w.cell? ⟨P4, 2, none⟩ = some (.string ⟨#[]⟩) ∧ w.cell? ⟨P4, 3, none⟩ = some (.string ⟨#[]⟩) ∧ w.cell? ⟨P4, 4, none⟩ = some (.slice bt c bct) ∧ w.cell? ⟨P4, 5, none⟩ = some (.slice kt c kct))) := fun w hb => (hN4.below hb).cells.1
      by_cases hlt : c < 17
      · have hwr : IntKind.u8.wrap (c : Int) = (c : Int) := by unfold IntKind.wrap; simp [IntKind.bits, IntKind.signed]; omega
        have cI : (c : Int) < 17 := by omega
        have c0 : (0 : Int) ≤ (c : Int) := by omega
        have dlt : decide ((c : Int) < 17) = true := decide_eq_true cI
        have HA8 : Hid (∀ w, Below wr.heap.size wr w → Calls Tryd.prog 9 #[.agg #[.int .i64 5, .string ⟨#[]⟩, .string ⟨#[]⟩, .string ⟨#[]⟩, .slice bt c bct, .slice kt c kct], .int .u8 (c : Int), .agg #[.int .i64 (c : Int), .int .u32 1], .bool true] w fun e w' => ∃ ba bc ka kc, e = .returned (.tuple #[.agg #[.int .i64 5, .string ⟨#[]⟩, .string ⟨#[]⟩, .string ⟨#[]⟩, .slice ba (c + 1) bc, .slice ka (c + 1) kc], .int .i64 0]) ∧ Below w.heap.size w w' ∧ NdAt w' (nb 5 ⟨#[]⟩ (ents (c + 1))) ba bc ka kc) := by
          intro w hb
          have h1 := nbAdd_any (ents_len c) (hN4.nd.below hb) (UInt8.ofNat c) (c : Int) 1 true
          rw [(top_add hlt).1, (top_add hlt).2, u8_nat (by omega)] at h1
          exact h1.mono fun e w' h => mk_nb (ents_len _) h
        clear hlow hN1 hN2 hN3 hN4 hPs
        go_upto_region 8 with fail
        go_cut [8, 9] (fun s8 s9 wx => ∃ P8 ba bc ka kc, s8 = .pointer (some ⟨P8, 0, none⟩) ∧ s9 = .int .i64 0 ∧ Below wr.heap.size wr wx ∧ NBx wx P8 5 ⟨#[]⟩ (ents (c + 1)) ba (c + 1) bc ka kc)
        case first =>
          refine wp_region_held_drew (S := fun W' => W'.cell? ⟨P4, 0, none⟩ = some (.int .i64 5) ∧ W'.cell? ⟨P4, 1, none⟩ = some (.string ⟨#[]⟩) ∧ W'.cell? ⟨P4, 2, none⟩ = some (.string ⟨#[]⟩) ∧ W'.cell? ⟨P4, 3, none⟩ = some (.string ⟨#[]⟩) ∧ W'.cell? ⟨P4, 4, none⟩ = some (.slice bt c bct) ∧ W'.cell? ⟨P4, 5, none⟩ = some (.slice kt c kct)) (by kernel_rfl) ?_ (fun hHeld => ?_)
          · (try dsimp only)
            exact KS.out _ (Below.refl wr.heap.size wr).drew
          refine wpAnyH_take (i := 0) (oi := ?_) (v := ?_) ?_ (by kernel_rfl) (by kernel_rfl) (by kernel_rfl) ?_ (Or.inl ⟨?_, ?_⟩) (by assumption) ?_
          rotate_left 2
          · simp only [List.getElem?_toArray, List.getElem?_cons_succ, List.getElem?_cons_zero] <;> rfl
          · exact fun _ _ _ h => h
          · rfl
          · (intro w hSw; (try dsimp only at hSw); go_simp; try (with_reducible rfl))
          try simp only [Act.put, List.setIfInBounds_toArray, List.set_cons_zero, List.set_cons_succ]
          refine wpAnyH_take (i := 1) (oi := ?_) (v := ?_) ?_ (by kernel_rfl) (by kernel_rfl) (by kernel_rfl) ?_ (Or.inl ⟨?_, ?_⟩) (by assumption) ?_
          rotate_left 2
          · simp only [List.getElem?_toArray, List.getElem?_cons_succ, List.getElem?_cons_zero] <;> rfl
          · exact fun _ _ _ h => h
          · rfl
          · (intro w hSw; (try dsimp only at hSw); go_simp; try (with_reducible rfl))
          try simp only [Act.put, List.setIfInBounds_toArray, List.set_cons_zero, List.set_cons_succ]
          refine wpAnyH_take (i := 2) (oi := ?_) (v := ?_) ?_ (by kernel_rfl) (by kernel_rfl) (by kernel_rfl) ?_ (Or.inl ⟨?_, ?_⟩) (by assumption) ?_
          rotate_left 2
          · simp only [List.getElem?_toArray, List.getElem?_cons_succ, List.getElem?_cons_zero] <;> rfl
          · exact fun _ _ _ h => h
          · rfl
          · (intro w hSw; (try dsimp only at hSw); go_simp; try (with_reducible rfl))
          try simp only [Act.put, List.setIfInBounds_toArray, List.set_cons_zero, List.set_cons_succ]
          refine wpAnyH_take (i := 3) (oi := ?_) (v := ?_) ?_ (by kernel_rfl) (by kernel_rfl) (by kernel_rfl) ?_ (Or.inl ⟨?_, ?_⟩) (by assumption) ?_
          rotate_left 2
          · simp only [List.getElem?_toArray, List.getElem?_cons_succ, List.getElem?_cons_zero] <;> rfl
          · exact fun _ _ _ h => h
          · rfl
          · (intro w hSw; (try dsimp only at hSw); go_simp; try (with_reducible rfl))
          try simp only [Act.put, List.setIfInBounds_toArray, List.set_cons_zero, List.set_cons_succ]
          refine wpAnyH_ready (rs := [4, 9]) (by kernel_rfl) (by simp) ?_
          refine AllReadyH.cons (o := _) (by simp only [List.getElem?_toArray, List.getElem?_cons_succ, List.getElem?_cons_zero] <;> rfl) (fun K hK => ?_) ?_
          · go_simp
            refine (ref_any (c : Int) _).mono ?_
            rintro e4 w4 ⟨rfl, hb4⟩
            have HB4 := Lib.hid (Below.step (w := wr) ((Below.refl wr.heap.size wr).drew) hb4)
            clear hb4
            go_wp2_with fail
            refine hK.out _ _ ?_ (fun hHeld => ?_)
            · (try dsimp only)
              exact KS.out _ HB4.out
            clear hK K
            try simp only [Act.put, List.setIfInBounds_toArray, List.set_cons_zero, List.set_cons_succ]
            refine wpAnyH_ready (rs := [5, 9]) (by kernel_rfl) (by simp) ?_
            refine AllReadyH.cons (o := _) (by simp only [List.getElem?_toArray, List.getElem?_cons_succ, List.getElem?_cons_zero] <;> rfl) (fun K hK => ?_) ?_
            · go_simp
              refine (HA8.out _ HB4.out).mono ?_
              rintro e5 w5 ⟨ba5, bc5, ka5, kc5, rfl, hb5, hn5⟩
              have HB5 := Lib.hid (Below.step (w := wr) (HB4.out) hb5)
              have HN5 := Lib.hid hn5
              clear hb5 hn5
              go_wp2_with fail
              refine hK.out _ _ ?_ (fun hHeld => ?_)
              · (try dsimp only)
                exact KS.out _ HB5.out
              clear hK K
              try simp only [Act.put, List.setIfInBounds_toArray, List.set_cons_zero, List.set_cons_succ]
              refine wpAnyH_take (i := 6) (oi := ?_) (v := ?_) ?_ (by kernel_rfl) (by kernel_rfl) (by kernel_rfl) ?_ (Or.inl ⟨?_, ?_⟩) (by assumption) ?_
              rotate_left 2
              · simp only [List.getElem?_toArray, List.getElem?_cons_succ, List.getElem?_cons_zero] <;> rfl
              · exact fun _ _ _ h => h
              · rfl
              · (intro w hSw; (try dsimp only at hSw); go_simp; try (with_reducible rfl))
              try simp only [Act.put, List.setIfInBounds_toArray, List.set_cons_zero, List.set_cons_succ]
              refine wpAnyH_take (i := 7) (oi := ?_) (v := ?_) ?_ (by kernel_rfl) (by kernel_rfl) (by kernel_rfl) ?_ (Or.inl ⟨?_, ?_⟩) (by assumption) ?_
              rotate_left 2
              · simp only [List.getElem?_toArray, List.getElem?_cons_succ, List.getElem?_cons_zero] <;> rfl
              · exact fun _ _ _ h => h
              · rfl
              · (intro w hSw; (try dsimp only at hSw); go_simp; try (with_reducible rfl))
              try simp only [Act.put, List.setIfInBounds_toArray, List.set_cons_zero, List.set_cons_succ]
              refine wpAnyH_take (i := 8) (oi := ?_) (v := ?_) ?_ (by kernel_rfl) (by kernel_rfl) (by kernel_rfl) ?_ (Or.inl ⟨?_, ?_⟩) (by assumption) ?_
              rotate_left 2
              · simp only [List.getElem?_toArray, List.getElem?_cons_succ, List.getElem?_cons_zero] <;> rfl
              · exact fun _ _ _ h => h
              · rfl
              · (intro w hSw; (try dsimp only at hSw); go_simp; try (with_reducible rfl))
              try simp only [Act.put, List.setIfInBounds_toArray, List.set_cons_zero, List.set_cons_succ]
              refine wpAnyH_ready (rs := [9]) (by kernel_rfl) (by simp) ?_
              refine AllReadyH.cons (o := _) (by simp only [List.getElem?_toArray, List.getElem?_cons_succ, List.getElem?_cons_zero] <;> rfl) (fun K hK => ?_) ?_
              · go_simp
                refine hK.out _ _ ?_ (fun hHeld => ?_)
                · (try dsimp only)
                  exact KS.out _ (Below.new (HB5.out) _)
                clear hK K
                try simp only [Act.put, List.setIfInBounds_toArray, List.set_cons_zero, List.set_cons_succ]
                refine wpAnyH_ready (rs := [10]) (by kernel_rfl) (by simp) ?_
                refine AllReadyH.cons (o := _) (by simp only [List.getElem?_toArray, List.getElem?_cons_succ, List.getElem?_cons_zero] <;> rfl) (fun K hK => ?_) ?_
                · go_simp
                  refine hK.out _ _ ?_ (fun hHeld => ?_)
                  · (try dsimp only)
                    exact KS.out _ (leaf_new HB5.out (l := ents (c + 1)) (m := c + 1) (ents_len _) HN5.out rfl).1
                  clear hK K
                  try simp only [Act.put, List.setIfInBounds_toArray, List.set_cons_zero, List.set_cons_succ]
                  refine wpAnyH_take (i := 11) (oi := ?_) (v := ?_) ?_ (by kernel_rfl) (by kernel_rfl) (by kernel_rfl) ?_ (Or.inl ⟨?_, ?_⟩) (by assumption) ?_
                  rotate_left 2
                  · simp only [List.getElem?_toArray, List.getElem?_cons_succ, List.getElem?_cons_zero] <;> rfl
                  · exact fun _ _ _ h => h
                  · rfl
                  · (intro w hSw; (try dsimp only at hSw); go_simp; try (with_reducible rfl))
                  try simp only [Act.put, List.setIfInBounds_toArray, List.set_cons_zero, List.set_cons_succ]
                  refine wpAnyH_done (by kernel_rfl) ?_ _
                  go_wp2_with fail
                  go_meet
                  have h := leaf_new HB5.out (l := ents (c + 1)) (m := c + 1) (ents_len _) HN5.out rfl
                  exact ⟨_, _, _, _, _, rfl, rfl, h.1, h.2⟩
                exact AllReadyH.nil
              exact AllReadyH.nil
            refine AllReadyH.cons (o := _) (by simp only [List.getElem?_toArray, List.getElem?_cons_succ, List.getElem?_cons_zero] <;> rfl) (fun K hK => ?_) ?_
            · go_simp
              refine hK.out _ _ ?_ (fun hHeld => ?_)
              · (try dsimp only)
                exact KS.out _ (Below.new (HB4.out) _)
              clear hK K
              try simp only [Act.put, List.setIfInBounds_toArray, List.set_cons_zero, List.set_cons_succ]
              refine wpAnyH_ready (rs := [5]) (by kernel_rfl) (by simp) ?_
              refine AllReadyH.cons (o := _) (by simp only [List.getElem?_toArray, List.getElem?_cons_succ, List.getElem?_cons_zero] <;> rfl) (fun K hK => ?_) ?_
              · go_simp
                refine (HA8.out _ (Below.new (HB4.out) _)).mono ?_
                rintro e5 w5 ⟨ba5, bc5, ka5, kc5, rfl, hb5, hn5⟩
                have F5 := (Fresh.new w4 w4.heap.size zeroC 26 rfl).below hb5
                obtain ⟨⟨z0, z1, z2, z3, z4, z5⟩, q0, q1, q2, q3, q4, q5⟩ := zcells F5
                have HF5 := Lib.hid (And.intro F5 (HB4.out.size))
                clear F5
                have HB5 := Lib.hid (Below.step (w := wr) ((Below.new (HB4.out) _)) hb5)
                have HN5 := Lib.hid hn5
                clear hb5 hn5
                go_wp2_with fail
                refine hK.out _ _ ?_ (fun hHeld => ?_)
                · (try dsimp only)
                  exact KS.out _ HB5.out
                clear hK K
                try simp only [Act.put, List.setIfInBounds_toArray, List.set_cons_zero, List.set_cons_succ]
                refine wpAnyH_take (i := 6) (oi := ?_) (v := ?_) ?_ (by kernel_rfl) (by kernel_rfl) (by kernel_rfl) ?_ (Or.inl ⟨?_, ?_⟩) (by assumption) ?_
                rotate_left 2
                · simp only [List.getElem?_toArray, List.getElem?_cons_succ, List.getElem?_cons_zero] <;> rfl
                · exact fun _ _ _ h => h
                · rfl
                · (intro w hSw; (try dsimp only at hSw); go_simp; try (with_reducible rfl))
                try simp only [Act.put, List.setIfInBounds_toArray, List.set_cons_zero, List.set_cons_succ]
                refine wpAnyH_take (i := 7) (oi := ?_) (v := ?_) ?_ (by kernel_rfl) (by kernel_rfl) (by kernel_rfl) ?_ (Or.inl ⟨?_, ?_⟩) (by assumption) ?_
                rotate_left 2
                · simp only [List.getElem?_toArray, List.getElem?_cons_succ, List.getElem?_cons_zero] <;> rfl
                · exact fun _ _ _ h => h
                · rfl
                · (intro w hSw; (try dsimp only at hSw); go_simp; try (with_reducible rfl))
                try simp only [Act.put, List.setIfInBounds_toArray, List.set_cons_zero, List.set_cons_succ]
                refine wpAnyH_take (i := 8) (oi := ?_) (v := ?_) ?_ (by kernel_rfl) (by kernel_rfl) (by kernel_rfl) ?_ (Or.inl ⟨?_, ?_⟩) (by assumption) ?_
                rotate_left 2
                · simp only [List.getElem?_toArray, List.getElem?_cons_succ, List.getElem?_cons_zero] <;> rfl
                · exact fun _ _ _ h => h
                · rfl
                · (intro w hSw; (try dsimp only at hSw); go_simp; try (with_reducible rfl))
                try simp only [Act.put, List.setIfInBounds_toArray, List.set_cons_zero, List.set_cons_succ]
                refine wpAnyH_ready (rs := [10]) (by kernel_rfl) (by simp) ?_
                refine AllReadyH.cons (o := _) (by simp only [List.getElem?_toArray, List.getElem?_cons_succ, List.getElem?_cons_zero] <;> rfl) (fun K hK => ?_) ?_
                · go_simp
                  refine hK.out _ _ ?_ (fun hHeld => ?_)
                  · (try dsimp only)
                    exact KS.out _ (leaf_fill HB5.out HRMr.out HF5.out.1 HF5.out.2 (l := ents (c + 1)) (m := c + 1) (ents_len _) HN5.out rfl).1
                  clear hK K
                  try simp only [Act.put, List.setIfInBounds_toArray, List.set_cons_zero, List.set_cons_succ]
                  refine wpAnyH_take (i := 11) (oi := ?_) (v := ?_) ?_ (by kernel_rfl) (by kernel_rfl) (by kernel_rfl) ?_ (Or.inl ⟨?_, ?_⟩) (by assumption) ?_
                  rotate_left 2
                  · simp only [List.getElem?_toArray, List.getElem?_cons_succ, List.getElem?_cons_zero] <;> rfl
                  · exact fun _ _ _ h => h
                  · rfl
                  · (intro w hSw; (try dsimp only at hSw); go_simp; try (with_reducible rfl))
                  try simp only [Act.put, List.setIfInBounds_toArray, List.set_cons_zero, List.set_cons_succ]
                  refine wpAnyH_done (by kernel_rfl) ?_ _
                  go_wp2_with fail
                  go_meet
                  have h := leaf_fill HB5.out HRMr.out HF5.out.1 HF5.out.2 (l := ents (c + 1)) (m := c + 1) (ents_len _) HN5.out rfl
                  exact ⟨_, _, _, _, _, rfl, rfl, h.1, h.2⟩
                exact AllReadyH.nil
              exact AllReadyH.nil
            exact AllReadyH.nil
          refine AllReadyH.cons (o := _) (by simp only [List.getElem?_toArray, List.getElem?_cons_succ, List.getElem?_cons_zero] <;> rfl) (fun K hK => ?_) ?_
          · go_simp
            refine hK.out _ _ ?_ (fun hHeld => ?_)
            · (try dsimp only)
              exact KS.out _ (Below.new ((Below.refl wr.heap.size wr).drew) _)
            clear hK K
            try simp only [Act.put, List.setIfInBounds_toArray, List.set_cons_zero, List.set_cons_succ]
            refine wpAnyH_ready (rs := [4]) (by kernel_rfl) (by simp) ?_
            refine AllReadyH.cons (o := _) (by simp only [List.getElem?_toArray, List.getElem?_cons_succ, List.getElem?_cons_zero] <;> rfl) (fun K hK => ?_) ?_
            · go_simp
              refine (ref_any (c : Int) _).mono ?_
              rintro e4 w4 ⟨rfl, hb4⟩
              have HF4 := Lib.hid ((Fresh.new wr.drew wr.heap.size zeroC 26 rfl).below hb4)
              have HB4 := Lib.hid (Below.step (w := wr) ((Below.new ((Below.refl wr.heap.size wr).drew) _)) hb4)
              clear hb4
              go_wp2_with fail
              refine hK.out _ _ ?_ (fun hHeld => ?_)
              · (try dsimp only)
                exact KS.out _ HB4.out
              clear hK K
              try simp only [Act.put, List.setIfInBounds_toArray, List.set_cons_zero, List.set_cons_succ]
              refine wpAnyH_ready (rs := [5]) (by kernel_rfl) (by simp) ?_
              refine AllReadyH.cons (o := _) (by simp only [List.getElem?_toArray, List.getElem?_cons_succ, List.getElem?_cons_zero] <;> rfl) (fun K hK => ?_) ?_
              · go_simp
                refine (HA8.out _ HB4.out).mono ?_
                rintro e5 w5 ⟨ba5, bc5, ka5, kc5, rfl, hb5, hn5⟩
                have F5 := HF4.out.below hb5
                obtain ⟨⟨z0, z1, z2, z3, z4, z5⟩, q0, q1, q2, q3, q4, q5⟩ := zcells F5
                have HF5 := Lib.hid (And.intro F5 (Nat.le_refl wr.heap.size))
                clear F5
                have HB5 := Lib.hid (Below.step (w := wr) (HB4.out) hb5)
                have HN5 := Lib.hid hn5
                clear hb5 hn5
                go_wp2_with fail
                refine hK.out _ _ ?_ (fun hHeld => ?_)
                · (try dsimp only)
                  exact KS.out _ HB5.out
                clear hK K
                try simp only [Act.put, List.setIfInBounds_toArray, List.set_cons_zero, List.set_cons_succ]
                refine wpAnyH_take (i := 6) (oi := ?_) (v := ?_) ?_ (by kernel_rfl) (by kernel_rfl) (by kernel_rfl) ?_ (Or.inl ⟨?_, ?_⟩) (by assumption) ?_
                rotate_left 2
                · simp only [List.getElem?_toArray, List.getElem?_cons_succ, List.getElem?_cons_zero] <;> rfl
                · exact fun _ _ _ h => h
                · rfl
                · (intro w hSw; (try dsimp only at hSw); go_simp; try (with_reducible rfl))
                try simp only [Act.put, List.setIfInBounds_toArray, List.set_cons_zero, List.set_cons_succ]
                refine wpAnyH_take (i := 7) (oi := ?_) (v := ?_) ?_ (by kernel_rfl) (by kernel_rfl) (by kernel_rfl) ?_ (Or.inl ⟨?_, ?_⟩) (by assumption) ?_
                rotate_left 2
                · simp only [List.getElem?_toArray, List.getElem?_cons_succ, List.getElem?_cons_zero] <;> rfl
                · exact fun _ _ _ h => h
                · rfl
                · (intro w hSw; (try dsimp only at hSw); go_simp; try (with_reducible rfl))
                try simp only [Act.put, List.setIfInBounds_toArray, List.set_cons_zero, List.set_cons_succ]
                refine wpAnyH_take (i := 8) (oi := ?_) (v := ?_) ?_ (by kernel_rfl) (by kernel_rfl) (by kernel_rfl) ?_ (Or.inl ⟨?_, ?_⟩) (by assumption) ?_
                rotate_left 2
                · simp only [List.getElem?_toArray, List.getElem?_cons_succ, List.getElem?_cons_zero] <;> rfl
                · exact fun _ _ _ h => h
                · rfl
                · (intro w hSw; (try dsimp only at hSw); go_simp; try (with_reducible rfl))
                try simp only [Act.put, List.setIfInBounds_toArray, List.set_cons_zero, List.set_cons_succ]
                refine wpAnyH_ready (rs := [10]) (by kernel_rfl) (by simp) ?_
                refine AllReadyH.cons (o := _) (by simp only [List.getElem?_toArray, List.getElem?_cons_succ, List.getElem?_cons_zero] <;> rfl) (fun K hK => ?_) ?_
                · go_simp
                  refine hK.out _ _ ?_ (fun hHeld => ?_)
                  · (try dsimp only)
                    exact KS.out _ (leaf_fill HB5.out HRMr.out HF5.out.1 HF5.out.2 (l := ents (c + 1)) (m := c + 1) (ents_len _) HN5.out rfl).1
                  clear hK K
                  try simp only [Act.put, List.setIfInBounds_toArray, List.set_cons_zero, List.set_cons_succ]
                  refine wpAnyH_take (i := 11) (oi := ?_) (v := ?_) ?_ (by kernel_rfl) (by kernel_rfl) (by kernel_rfl) ?_ (Or.inl ⟨?_, ?_⟩) (by assumption) ?_
                  rotate_left 2
                  · simp only [List.getElem?_toArray, List.getElem?_cons_succ, List.getElem?_cons_zero] <;> rfl
                  · exact fun _ _ _ h => h
                  · rfl
                  · (intro w hSw; (try dsimp only at hSw); go_simp; try (with_reducible rfl))
                  try simp only [Act.put, List.setIfInBounds_toArray, List.set_cons_zero, List.set_cons_succ]
                  refine wpAnyH_done (by kernel_rfl) ?_ _
                  go_wp2_with fail
                  go_meet
                  have h := leaf_fill HB5.out HRMr.out HF5.out.1 HF5.out.2 (l := ents (c + 1)) (m := c + 1) (ents_len _) HN5.out rfl
                  exact ⟨_, _, _, _, _, rfl, rfl, h.1, h.2⟩
                exact AllReadyH.nil
              exact AllReadyH.nil
            exact AllReadyH.nil
          exact AllReadyH.nil
        case rest =>
          obtain ⟨P8, ba8, bc8, ka8, kc8, rfl, rfl, hb8, hn8⟩ := hcut
          obtain ⟨⟨x0, x1, x2, x3, x4, x5⟩, -⟩ := hn8.cells
          have h4 := HN4.out.below hb8
          obtain ⟨⟨y0, y1, y2, y3, y4, y5⟩, t0, t1, t2, t3, t4, t5⟩ := h4.cells
          have h1 := HN1.out.below hb8
          have h2 := HN2.out.below hb8
          have h3 := HN3.out.below hb8
          have hrm8 := HRMr.out.on hb8
          have FIN : Hid (∀ W', W' = (((((wc.setCell ⟨P4, 0, none⟩ (.int .i64 5)).setCell ⟨P4, 1, none⟩ (.string ⟨#[]⟩)).setCell ⟨P4, 2, none⟩ (.string ⟨#[]⟩)).setCell ⟨P4, 3, none⟩ (.string ⟨#[]⟩)).setCell ⟨P4, 4, none⟩ (.slice ba8 (c + 1) bc8)).setCell ⟨P4, 5, none⟩ (.slice ka8 (c + 1) kc8) →
              AwS W W' P1 P2 P3 P4 (some ⟨W.heap.size, 0, none⟩) 4 ka kc ba2 bc2 ka2 kc2 ba7 bc7 ka7 kc7 (c + 1)) := by
            intro W' hW'
            have hb0 : Below W.heap.size W wc := Below.step HLow.out hb8
            have hps := HPs.out
            have hT : ∀ w, Turned [P4] wc w → Below W.heap.size W w := fun w ht => ht.below hb0 (by intro x hx; simp at hx; omega) hb0.size
            obtain ⟨T, N⟩ := h4.set (ents_len (c + 1)) hn8.nd (fun w ht => HRM.out _ (hT w ht)) hW'
            have hr' := HRM.out _ (hT _ T)
            exact ⟨hT _ T, h1.turned T hr' (by omega) h4.box, h2.turned T hr' (by omega) h4.box, h3.turned T hr' (by omega) h4.box, ba8, bc8, ka8, kc8, N, hps⟩
          clear hb8 hn8 h4 h1 h2 h3 hrm8 HA8 hwr
          go_wp2_with fail
          go_roundw
          case rel => exact AwR.of (c + 1) (by simp) (by omega) (FIN.out _ rfl)
          case measure => simp [intOf]; omega
      · obtain rfl : c = 17 := by omega
        have HR1 : Hid (∀ w, Below wr.heap.size wr w → Calls Tryd.prog 14 #[.agg #[.int .i64 2, .string ⟨#[]⟩, .string ⟨#[]⟩, .string ⟨#[]⟩, .slice (some ⟨W.heap.size, 0, none⟩) 4 4, .slice ka 4 kc]] w fun e w' => e = .returned (.bool true) ∧ Below w.heap.size w w') := by
          intro w hb
          have h1 := nbFull_any (m := 4) rfl (hN1.nd.below hb)
          rw [usable_of_right n4_right, n4_full] at h1
          exact h1
        have HR2 : Hid (∀ w, Below wr.heap.size wr w → Calls Tryd.prog 7 #[.agg #[.int .i64 2, .string ⟨#[]⟩, .string ⟨#[]⟩, .string ⟨#[]⟩, .slice (some ⟨W.heap.size, 0, none⟩) 4 4, .slice ka 4 kc]] w fun e w' => e = .returned (.bool true) ∧ Below w.heap.size w w') := by
          intro w hb
          have h1 := nbRight_any (m := 4) rfl (hN1.nd.below hb)
          rw [right_of_right n4_right] at h1
          exact h1
        have HR3 : Hid (∀ w, Below wr.heap.size wr w → Calls Tryd.prog 18 #[.agg #[.int .i64 5, .string ⟨#[]⟩, .string ⟨#[]⟩, .string ⟨#[]⟩, .slice bt 17 bct, .slice kt 17 kct]] w fun e w' => e = .returned (.bool true) ∧ Below w.heap.size w w') := by
          intro w hb
          have h1 := nbAnchor_any (m := 17) (ents_len 17) (hN4.nd.below hb)
          rw [nb_top (by rw [ents_len]; omega) (ents_srt (by omega)) (ents_ok (by omega))] at h1
          exact h1
        have HR4 : Hid (∀ w, Below wr.heap.size wr w → Calls Tryd.prog 7 #[.agg #[.int .i64 5, .string ⟨#[]⟩, .string ⟨#[]⟩, .string ⟨#[]⟩, .slice bt 17 bct, .slice kt 17 kct]] w fun e w' => e = .returned (.bool false) ∧ Below w.heap.size w w') := by
          intro w hb
          have h1 := nbRight_any (m := 17) (ents_len 17) (hN4.nd.below hb)
          rw [top_not_right (by rw [ents_len]; omega)] at h1
          exact h1
        obtain ⟨ab, cb, eb, hcell⟩ := hN2.nd.b
        obtain ⟨blk, off, hba2, hblt, hb0⟩ := hcell 0 0 rfl
        have HB0 : Hid (∀ w, Below wr.heap.size wr w → w.cell? ⟨blk, off, none⟩ = some (.int .u8 0)) := fun w hb => (hb.cell (p := ⟨blk, off + 0, none⟩) hblt).trans hb0
        cases eb
        subst hba2
        have HCs : Hid (∀ w, Below wr.heap.size wr w → (w.cell? ⟨P1, 0, none⟩ = some (.int .i64 2) ∧ w.cell? ⟨P1, 1, none⟩ = some (.string ⟨#[]⟩) ∧ w.cell? ⟨P1, 2, none⟩ = some (.string ⟨#[]⟩) ∧ w.cell? ⟨P1, 3, none⟩ = some (.string ⟨#[]⟩) ∧ w.cell? ⟨P1, 4, none⟩ = some (.slice (some ⟨W.heap.size, 0, none⟩) 4 4) ∧ w.cell? ⟨P1, 5, none⟩ = some (.slice ka 4 kc)) ∧
            (w.cell? ⟨P2, 0, none⟩ = some (.int .i64 3) ∧ w.cell? ⟨P2, 4, none⟩ = some (.slice (some ⟨blk, off, none⟩) 5 bc2) ∧ w.cell? ⟨P2, 5, none⟩ = some (.slice ka2 5 kc2)) ∧ (w.cell? ⟨P3, 0, none⟩ = some (.int .i64 2) ∧ w.cell? ⟨P3, 5, none⟩ = some (.slice ka7 4 kc7)) ∧ (w.cell? ⟨P4, 0, none⟩ = some (.int .i64 5) ∧ w.cell? ⟨P4, 1, none⟩ = some (.string ⟨#[]⟩) ∧ w.cell? ⟨P4, 2, none⟩ = some (.string ⟨#[]⟩) ∧ w.cell? ⟨P4, 3, none⟩ = some (.string ⟨#[]⟩) ∧ w.cell? ⟨P4, 4, none⟩ = some (.slice bt 17 bct) ∧ w.cell? ⟨P4, 5, none⟩ = some (.slice kt 17 kct)) ∧ w.cell? ⟨blk, off, none⟩ = some (.int .u8 0)) := fun w hb =>
          ⟨(hN1.below hb).cells.1, ⟨(hN2.below hb).cells.1.1, (hN2.below hb).cells.1.2.2.2.2.1, (hN2.below hb).cells.1.2.2.2.2.2⟩, ⟨(hN3.below hb).cells.1.1, (hN3.below hb).cells.1.2.2.2.2.2⟩, (hN4.below hb).cells.1, HB0.out w hb⟩
        have HRes := Lib.hid hlow
        have f0 := HCs.out _ (Below.refl _ _)
        clear hlow hN1 hN2 hN3 hN4 hPs hblt hb0 hcell HN1 HN2 HN3 HN4 hlt hc
        obtain ⟨⟨x0, x1, x2, x3, x4, x5⟩, ⟨y0, y1, y2⟩, ⟨z0, z1⟩, ⟨v0, v1, v2, v3, v4, v5⟩, b0⟩ := f0
        rw [show ((17 : Nat) : Int) = 17 from rfl]
        go_upto_region 12 with fail
        simp only [List.append_eq, List.cons_append, List.nil_append]
        go_wp2_with (first
          | (go_at_call 14; refine (HR1.out _ (Below.refl _ _)).mono ?_; rintro e1 w1 ⟨rfl, hb1⟩; have G1 := Lib.hid hb1; obtain ⟨⟨x0, x1, x2, x3, x4, x5⟩, ⟨y0, y1, y2⟩, ⟨z0, z1⟩, ⟨v0, v1, v2, v3, v4, v5⟩, b0⟩ := HCs.out _ hb1; clear hb1)
          | (have _t := G3; go_at_call 7; refine (HR4.out _ G3.out).mono ?_; rintro e4 w4 ⟨rfl, hb4⟩; have G4 := Lib.hid (Below.step G3.out hb4); clear hb4)
          | (go_at_call 7; refine (HR2.out _ G1.out).mono ?_; rintro e2 w2 ⟨rfl, hb2⟩; have G2 := Lib.hid (Below.step G1.out hb2); obtain ⟨⟨x0, x1, x2, x3, x4, x5⟩, ⟨y0, y1, y2⟩, ⟨z0, z1⟩, ⟨v0, v1, v2, v3, v4, v5⟩, b0⟩ := HCs.out _ G2.out; clear hb2)
          | (go_at_call 18; refine (HR3.out _ G2.out).mono ?_; rintro e3 w3 ⟨rfl, hb3⟩; have G3 := Lib.hid (Below.step G2.out hb3); obtain ⟨⟨x0, x1, x2, x3, x4, x5⟩, ⟨y0, y1, y2⟩, ⟨z0, z1⟩, ⟨v0, v1, v2, v3, v4, v5⟩, b0⟩ := HCs.out _ G3.out; clear hb3))
        go_ret
        exact ⟨by first | rfl | simp, Below.step HRes.out G4.out⟩
end Go.Proofs.YtjaijomkdgoenaaDoor.Nd
