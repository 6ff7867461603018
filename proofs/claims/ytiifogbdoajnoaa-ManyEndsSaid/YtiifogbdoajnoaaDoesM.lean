/- does: each operation on the row and on its reference. -/
import Derived.Test.YtiifogbdoajnoaaRefF3
import Derived.Test.YtiifogbdoajnoaaRefF4
import Derived.Test.YtiifogbdoajnoaaNextWm
import Derived.Test.YtiifogbdoajnoaaPick
import Derived.Deep.DeepCutAuto
import Derived.Deep.RegionHeld3
namespace Go.Proofs.Ytiifogbdoajnoaa
open Go.RowKit Go.Shelf
attribute [local go_sem] Oper.semAt_some
set_option maxRecDepth 100000
set_option maxHeartbeats 4000000

/-- What does leaves: a row (the same, or a copy) that agrees with the reference. -/
def DoesQ (W : World) (q eb B room : Nat) (e : Ending) (w' : World) : Prop :=
  ∃ (p' q' e' : Nat) (l' : List En), e = .returned (.tuple #[.pointer (some ⟨p', 0, none⟩), .bool true]) ∧ Turned [q, eb, B] W w' ∧ ManyAt w' p' q' e' l' room ∧ RefAt w' B l' (room : Int) ∧ Srt l' ∧ l'.length ≤ room ∧ (q' = q ∨ W.heap.size ≤ q') ∧ (e' = eb ∨ W.heap.size ≤ e') ∧ p' ≠ B ∧ q' ≠ B ∧ e' ≠ B
theorem many_ref_ne {W : World} {p q eb B : Nat} {l l' : List En} {room : Nat} {r : Int} (h : ManyAt W p q eb l room) (hr : RefAt W B l' r) : p ≠ B ∧ q ≠ B := by
  constructor
  · rintro rfl
    have := h.cell
    rw [hr.room] at this
    cases this
  · rintro rfl
    obtain ⟨es, cs, v, hw, _⟩ := h.row
    obtain ⟨n, h1, _⟩ := hw.tab 0
    have h2 := (hw.box.cell 0).trans h1
    rw [hr.room] at h2
    cases h2
theorem Turned.grow {S S' : List Nat} {W A X : World} (h : Turned S W A) (k : Turned S' A X) (hs : ∀ b ∈ S', b ∈ S ∨ W.heap.size ≤ b) : Turned S W X :=
  ⟨k.os.trans h.os, k.tape.trans h.tape, k.output.trans h.output, Nat.le_trans h.size k.size, fun b hb hn => (k.block b (Nat.lt_of_lt_of_le hb h.size) (fun e => by rcases hs b e with h1 | h1; exact hn h1; omega)).trans (h.block b hb hn)⟩
theorem does_any {W : World} {p q eb B : Nat} {l : List En} {room : Nat} (h : ManyAt W p q eb l room) (hr : RefAt W B l (room : Int)) (hs : Srt l) (hne : eb ≠ B) (h16 : room ≤ 256) (hle : l.length ≤ room) (what from' s g : Int) (b : UInt8) :
    Calls Try.prog 10 #[.pointer (some ⟨p, 0, none⟩), .pointer (some ⟨B, 0, none⟩), .agg #[.int .i64 what, .int .u8 (b.toNat : Int), .int .i64 from', .int .i64 s, .int .u32 g]] W (DoesQ W q eb B room) := by
  refine (callsIn_wide (n := 10)).1 ?_
  refine callsIn_of_wp_marks Try.func10 rfl trivial ?_ rfl
  simp only [Try.ntmps10, List.size_toArray, List.length_cons, List.length_nil, Nat.reduceAdd, Nat.reduceSub, Array.replicate_succ, Array.replicate_zero, List.push_toArray, List.append_toArray, List.nil_append, List.cons_append]
  refine wpIn_wide.2 ?_
  refine wp_mono (Q := calmQ _) ?_ calmQ_out
  obtain ⟨W1, hW1⟩ : ∃ W1, W1 = (W.alloc (.cells #[.pointer (some ⟨p, 0, none⟩)] 24)).alloc (.cells #[.int .i64 what, .int .u8 (b.toNat : Int), .int .i64 from', .int .i64 s, .int .u32 g] 37) := ⟨_, rfl⟩
  have B1 : Below W.heap.size W W1 := by rw [hW1]; exact Below.new (Below.new (Below.refl _ _) _) _
  have f3 : Fresh W1 W.heap.size #[.pointer (some ⟨p, 0, none⟩)] 24 := by rw [hW1]; exact (Fresh.new _ _ _ _ rfl).alloc _
  have f5 : Fresh W1 (W.heap.size + 1) #[.int .i64 what, .int .u8 (b.toNat : Int), .int .i64 from', .int .i64 s, .int .u32 g] 37 := by rw [hW1]; exact Fresh.new _ _ _ _ (by simp)
  have A1 := h.below B1
  have R1 := hr.below B1
  have s1 : W1.heap.size = W.heap.size + 2 := by rw [hW1]; simp
  obtain ⟨x0, x1, hx⟩ := refOf_agg b l
  obtain ⟨u, hu⟩ : ∃ u, isIn b l = u := ⟨_, rfl⟩
  have K2 : ∀ X, Below W1.heap.size W1 X → Calls Try.prog 23 #[.pointer (some ⟨B, 0, none⟩), .int .u8 (b.toNat : Int)] X fun e w' => e = .returned (.tuple #[.agg #[.int .i64 x0, .int .u32 x1], .bool u]) ∧ Below X.heap.size X w' := fun X hX => by
    have := rfind_any (R1.below hX) b
    rw [hx, hu] at this
    exact this
  have K1 : Calls Try.prog 15 #[.pointer (some ⟨p, 0, none⟩), .int .u8 (b.toNat : Int)] W1 fun e w' => e = .returned (.tuple #[.agg #[.int .i64 x0, .int .u32 x1], .bool u]) ∧ Below W1.heap.size W1 w' := by
    have := finds_any A1 b
    rw [hx, hu] at this
    exact this
  obtain ⟨z, hz0, hz6, hP⟩ : ∃ z : Int, 0 ≤ z ∧ z < 6 ∧ ∀ w, Calls Try.prog 22 #[.int .i64 what, .int .i64 6] w fun e w' => e = .returned (.int .i64 z) ∧ w' = w :=
    ⟨what % 6, Int.emod_nonneg _ (by decide), Int.emod_lt_of_pos _ (by decide), fun w => pick_any what 6 (by omega) (by omega) w⟩
  have HP := Lib.hid hP
  have H1 := Lib.hid K1
  have H2 := Lib.hid K2
  have HW1 := Lib.hid hW1
  have HF := Lib.hid (And.intro B1 (And.intro A1 (And.intro R1 (And.intro f3 (And.intro f5 s1)))))
  have HS := Lib.hid (And.intro hs (And.intro h16 (And.intro hle ((fun k : p ≠ B ∧ q ≠ B => And.intro k.1 (And.intro k.2 hne)) (many_ref_ne h hr)))))
  have HZ := Lib.hid (And.intro hz0 hz6)
  obtain ⟨d3, d0, d1, d2, d4, d5⟩ : W1.cell? ⟨W.heap.size, 0, none⟩ = some (.pointer (some ⟨p, 0, none⟩)) ∧ W1.cell? ⟨W.heap.size + 1, 0, none⟩ = some (.int .i64 what) ∧ W1.cell? ⟨W.heap.size + 1, 1, none⟩ = some (.int .u8 (b.toNat : Int)) ∧ W1.cell? ⟨W.heap.size + 1, 2, none⟩ = some (.int .i64 from') ∧ W1.cell? ⟨W.heap.size + 1, 3, none⟩ = some (.int .i64 s) ∧ W1.cell? ⟨W.heap.size + 1, 4, none⟩ = some (.int .u32 g) :=
    ⟨f3.cell 0, f5.cell 0, f5.cell 1, f5.cell 2, f5.cell 3, f5.cell 4⟩
  have h' := h
  have hr' := hr
  clear K1 K2 hW1 B1 A1 R1 f3 f5 s1 h hr hs hx hu hne h16 hle hP hz0 hz6
  have hql := h'.lt
  have hBl := hr'.lt
  have HFX : Hid (∀ X, Turned [q, eb, B] W1 X → X.cell? ⟨W.heap.size, 0, none⟩ = some (.pointer (some ⟨p, 0, none⟩)) ∧ X.cell? ⟨W.heap.size + 1, 0, none⟩ = some (.int .i64 what) ∧ X.cell? ⟨W.heap.size + 1, 1, none⟩ = some (.int .u8 (b.toNat : Int)) ∧ X.cell? ⟨W.heap.size + 1, 2, none⟩ = some (.int .i64 from') ∧ X.cell? ⟨W.heap.size + 1, 3, none⟩ = some (.int .i64 s) ∧ X.cell? ⟨W.heap.size + 1, 4, none⟩ = some (.int .u32 g)) := by
    intro X hX
    obtain ⟨a1, a2, a3, a4, a5, a6⟩ := HF.out
    have a4 := hX.other a4 (by simp; omega)
    have a5 := hX.other a5 (by simp; omega)
    exact ⟨a4.cell 0, a5.cell 0, a5.cell 1, a5.cell 2, a5.cell 3, a5.cell 4⟩
  have HFB : Hid (∀ X, Below W1.heap.size W1 X → ManyAt X p q eb l room ∧ RefAt X B l (room : Int) ∧ Below W.heap.size W X) := by
    intro X hX
    obtain ⟨a1, a2, a3, a4, a5, a6⟩ := HF.out
    exact ⟨a2.below hX, a3.below hX, Below.step a1 hX⟩
  clear h' hr' hql hBl
  have hHS := HF.out.2.2.2.2.2
  have HSZ := Lib.hid hHS
  clear hHS HF
  go_upto_region 2 with (first
    | (rw [← HW1.out]; go_at_call 15; refine H1.out.mono ?_; rintro e w2 ⟨rfl, hb2⟩))
  obtain ⟨V2, hV2⟩ : ∃ V2, V2 = w2.alloc (.cells #[.int .i64 x0, .int .u32 x1] 35) := ⟨_, rfl⟩
  rw [← hV2]
  have bV2 : Below W1.heap.size W1 V2 := by rw [hV2]; exact Below.new hb2 _
  have X8 : Fresh V2 w2.heap.size #[.int .i64 x0, .int .u32 x1] 35 := by rw [hV2]; exact Fresh.new _ _ _ _ rfl
  obtain ⟨b8, hb8⟩ : ∃ b8, w2.heap.size = b8 := ⟨_, rfl⟩
  rw [hb8] at X8 ⊢
  obtain ⟨e3, e0, e1, e2, e4, e5⟩ := HFX.out V2 (Turned.of_below bV2)
  have HV2 := Lib.hid (And.intro bV2 X8)
  clear hV2 bV2 X8 hb8 hb2 d3 d0 d1 d2 d4 d5
  go_upto_region 3 with (first
    | (go_at_call 23; refine (H2.out _ HV2.out.1).mono ?_; rintro e w3 ⟨rfl, hb3⟩))
  obtain ⟨V3, hV3⟩ : ∃ V3, V3 = w3.alloc (.cells #[.int .i64 x0, .int .u32 x1] 35) := ⟨_, rfl⟩
  rw [← hV3]
  have bV23 : Below V2.heap.size V2 V3 := by rw [hV3]; exact Below.new hb3 _
  have bV3 := Below.step HV2.out.1 bV23
  have X10 : Fresh V3 w3.heap.size #[.int .i64 x0, .int .u32 x1] 35 := by rw [hV3]; exact Fresh.new _ _ _ _ rfl
  have X8 := HV2.out.2.below bV23
  obtain ⟨b10, hb10⟩ : ∃ b10, w3.heap.size = b10 := ⟨_, rfl⟩
  rw [hb10] at X10 ⊢
  obtain ⟨c3, c0, c1, c2, c4, c5⟩ := HFX.out V3 (Turned.of_below bV3)
  have F3 := HFB.out V3 bV3
  obtain ⟨y0, y1, _, _⟩ := X8.box2
  obtain ⟨y2, y3, _, _⟩ := X10.box2
  have HV3 := Lib.hid (And.intro bV3 F3)
  clear hV3 bV23 bV3 X10 X8 hb10 hb3 e3 e0 e1 e2 e4 e5 HV2 H1 H2 F3 HW1
  go_upto_region 6 with (first
    | (refine (HP.out _).mono ?_; rintro e w4 ⟨rfl, hw4⟩; replace hw4 := hw4.symm; subst hw4))
  clear y0 y1 y2 y3 HP
  have hz := HZ.out
  by_cases h2 : z = 2
  · subst h2
    clear hz
    have K1 : ∀ X, ManyAt X p q eb l room → Calls Try.prog 17 #[.pointer (some ⟨p, 0, none⟩), .int .u8 (b.toNat : Int), .agg #[.int .i64 s, .int .u32 g]] X fun e w' => e = .returned (.int .i64 (if isIn b l = true then 0 else 5)) ∧ ∃ e2, (e2 = eb ∨ X.heap.size ≤ e2) ∧ Turned [q, eb] X w' ∧ ManyAt w' p q e2 (turnS b s g l) room := fun X hX => (turn_any hX b s g).mono (by rintro e w' ⟨h1, h2, h3⟩; exact ⟨h1, eb, .inl rfl, h2, h3⟩)
    have K2 : ∀ X, RefAt X B l (room : Int) → Calls Try.prog 24 #[.pointer (some ⟨B, 0, none⟩), .int .u8 (b.toNat : Int), .agg #[.int .i64 s, .int .u32 g]] X fun e w' => e = .returned (.int .i64 (if isIn b l = true then 0 else 5)) ∧ Turned [B] X w' ∧ RefAt w' B (turnS b s g l) (room : Int) := fun X hX => rturn_any hX HS.out.1 b s g
    have K3 : Srt (turnS b s g l) ∧ (turnS b s g l).length ≤ room := ⟨srt_turn HS.out.1 s g, by have := HS.out.2.2.1; unfold turnS; split; rw [List.length_set]; exact this; exact this⟩
    obtain ⟨v, hv⟩ : ∃ v : Int, (if isIn b l = true then 0 else 5) = v := ⟨_, rfl⟩
    obtain ⟨l2, hl2⟩ : ∃ l2, turnS b s g l = l2 := ⟨_, rfl⟩
    rw [hl2] at K3
    simp only [hv, hl2] at K1 K2
    have H1 := Lib.hid K1
    have H2 := Lib.hid K2
    have H3 := Lib.hid K3
    clear K1 K2 K3 hv hl2
    go_upto_region 7 with fail
    refine wp_region_held_drew (S := (fun W' => W'.cell? ⟨W.heap.size, 0, none⟩ = some (.pointer (some ⟨p, 0, none⟩)) ∧ W'.cell? ⟨W.heap.size + 1, 1, none⟩ = some (.int .u8 (b.toNat : Int)) ∧ W'.cell? ⟨W.heap.size + 1, 3, none⟩ = some (.int .i64 s) ∧ W'.cell? ⟨W.heap.size + 1, 4, none⟩ = some (.int .u32 g))) (by kernel_rfl) ?_ (fun hHeld => ?_)
    · (try dsimp only)
      exact ⟨c3, c1, c4, c5⟩
    refine wpAnyH_take (i := 0) (oi := ?_) (v := ?_) ?_ (by kernel_rfl) (by kernel_rfl) (by kernel_rfl) ?_ (Or.inl ⟨?_, ?_⟩) (by assumption) ?_
    rotate_left 2
    · simp only [List.getElem?_toArray, List.getElem?_cons_succ, List.getElem?_cons_zero] <;> rfl
    · exact fun _ _ _ h => h
    · rfl
    · (intro w hSw; (try dsimp only at hSw); go_simp; try (with_reducible rfl))
    try simp only [Act.put, List.setIfInBounds_toArray, List.set_cons_zero, List.set_cons_succ]
    refine wpAnyH_take (i := 1) (oi := ?_) (v := ?_) ?_ (by kernel_rfl) (by kernel_rfl) (by kernel_rfl) ?_ (Or.inl ⟨?_, ?_⟩) (by assumption) ?_
    rotate_left 2
    · simp only [List.getElem?_toArray, List.getElem?_cons_succ, List.getElem?_cons_zero] <;> rfl
    · exact fun _ _ _ h => h
    · rfl
    · (intro w hSw; (try dsimp only at hSw); go_simp; try (with_reducible rfl))
    try simp only [Act.put, List.setIfInBounds_toArray, List.set_cons_zero, List.set_cons_succ]
    refine wpAnyH_take (i := 2) (oi := ?_) (v := ?_) ?_ (by kernel_rfl) (by kernel_rfl) (by kernel_rfl) ?_ (Or.inl ⟨?_, ?_⟩) (by assumption) ?_
    rotate_left 2
    · simp only [List.getElem?_toArray, List.getElem?_cons_succ, List.getElem?_cons_zero] <;> rfl
    · exact fun _ _ _ h => h
    · rfl
    · (intro w hSw; (try dsimp only at hSw); go_simp; try (with_reducible rfl))
    try simp only [Act.put, List.setIfInBounds_toArray, List.set_cons_zero, List.set_cons_succ]
    refine wpAnyH_take (i := 3) (oi := ?_) (v := ?_) ?_ (by kernel_rfl) (by kernel_rfl) (by kernel_rfl) ?_ (Or.inl ⟨?_, ?_⟩) (by assumption) ?_
    rotate_left 2
    · simp only [List.getElem?_toArray, List.getElem?_cons_succ, List.getElem?_cons_zero] <;> rfl
    · exact fun _ _ _ h => h
    · rfl
    · (intro w hSw; (try dsimp only at hSw); go_simp; try (with_reducible rfl))
    try simp only [Act.put, List.setIfInBounds_toArray, List.set_cons_zero, List.set_cons_succ]
    refine wpAnyH_take (i := 4) (oi := ?_) (v := ?_) ?_ (by kernel_rfl) (by kernel_rfl) (by kernel_rfl) ?_ (Or.inl ⟨?_, ?_⟩) (by assumption) ?_
    rotate_left 2
    · simp only [List.getElem?_toArray, List.getElem?_cons_succ, List.getElem?_cons_zero] <;> rfl
    · exact fun _ _ _ h => h
    · rfl
    · (intro w hSw; (try dsimp only at hSw); go_simp; try (with_reducible rfl))
    try simp only [Act.put, List.setIfInBounds_toArray, List.set_cons_zero, List.set_cons_succ]
    refine wpAnyH_take (i := 5) (oi := ?_) (v := ?_) ?_ (by kernel_rfl) (by kernel_rfl) (by kernel_rfl) ?_ (Or.inl ⟨?_, ?_⟩) (by assumption) ?_
    rotate_left 2
    · simp only [List.getElem?_toArray, List.getElem?_cons_succ, List.getElem?_cons_zero] <;> rfl
    · exact fun _ _ _ h => h
    · rfl
    · (intro w hSw; (try dsimp only at hSw); go_simp; try (with_reducible rfl))
    try simp only [Act.put, List.setIfInBounds_toArray, List.set_cons_zero, List.set_cons_succ]
    refine wpAnyH_take (i := 7) (oi := ?_) (v := ?_) ?_ (by kernel_rfl) (by kernel_rfl) (by kernel_rfl) ?_ (Or.inl ⟨?_, ?_⟩) (by assumption) ?_
    rotate_left 2
    · simp only [List.getElem?_toArray, List.getElem?_cons_succ, List.getElem?_cons_zero] <;> rfl
    · exact fun _ _ _ h => h
    · rfl
    · (intro w hSw; (try dsimp only at hSw); go_simp; try (with_reducible rfl))
    try simp only [Act.put, List.setIfInBounds_toArray, List.set_cons_zero, List.set_cons_succ]
    refine wpAnyH_take (i := 8) (oi := ?_) (v := ?_) ?_ (by kernel_rfl) (by kernel_rfl) (by kernel_rfl) ?_ (Or.inl ⟨?_, ?_⟩) (by assumption) ?_
    rotate_left 2
    · simp only [List.getElem?_toArray, List.getElem?_cons_succ, List.getElem?_cons_zero] <;> rfl
    · exact fun _ _ _ h => h
    · rfl
    · (intro w hSw; (try dsimp only at hSw); go_simp; try (with_reducible rfl))
    try simp only [Act.put, List.setIfInBounds_toArray, List.set_cons_zero, List.set_cons_succ]
    refine wpAnyH_take (i := 9) (oi := ?_) (v := ?_) ?_ (by kernel_rfl) (by kernel_rfl) (by kernel_rfl) ?_ (Or.inl ⟨?_, ?_⟩) (by assumption) ?_
    rotate_left 2
    · simp only [List.getElem?_toArray, List.getElem?_cons_succ, List.getElem?_cons_zero] <;> rfl
    · exact fun _ _ _ h => h
    · rfl
    · (intro w hSw; (try dsimp only at hSw); go_simp; try (with_reducible rfl))
    try simp only [Act.put, List.setIfInBounds_toArray, List.set_cons_zero, List.set_cons_succ]
    refine wpAnyH_take (i := 10) (oi := ?_) (v := ?_) ?_ (by kernel_rfl) (by kernel_rfl) (by kernel_rfl) ?_ (Or.inl ⟨?_, ?_⟩) (by assumption) ?_
    rotate_left 2
    · simp only [List.getElem?_toArray, List.getElem?_cons_succ, List.getElem?_cons_zero] <;> rfl
    · exact fun _ _ _ h => h
    · rfl
    · (intro w hSw; (try dsimp only at hSw); go_simp; try (with_reducible rfl))
    try simp only [Act.put, List.setIfInBounds_toArray, List.set_cons_zero, List.set_cons_succ]
    refine wpAnyH_take (i := 11) (oi := ?_) (v := ?_) ?_ (by kernel_rfl) (by kernel_rfl) (by kernel_rfl) ?_ (Or.inl ⟨?_, ?_⟩) (by assumption) ?_
    rotate_left 2
    · simp only [List.getElem?_toArray, List.getElem?_cons_succ, List.getElem?_cons_zero] <;> rfl
    · exact fun _ _ _ h => h
    · rfl
    · (intro w hSw; (try dsimp only at hSw); go_simp; try (with_reducible rfl))
    try simp only [Act.put, List.setIfInBounds_toArray, List.set_cons_zero, List.set_cons_succ]
    refine wpAnyH_ready (rs := [6]) (by kernel_rfl) (by simp) ?_
    refine AllReadyH.cons (o := _) (by simp only [List.getElem?_toArray, List.getElem?_cons_succ, List.getElem?_cons_zero] <;> rfl) (fun K hK => ?_) ?_
    · go_simp
      go_at_call 17
      refine (H1.out _ HV3.out.2.1.drew).mono ?_
      rintro e w4 ⟨rfl, e2, he2, hT0, hA0⟩
      have HE2 : Hid (e2 ≠ B ∧ (e2 = eb ∨ W.heap.size ≤ e2)) := by
        have h1 := HV3.out.2.2.1.lt
        have h2 := HV3.out.2.2.2.size
        have h3 := HS.out.2.2.2.2.2
        have h4 : V3.drew.heap.size = V3.heap.size := rfl
        show _ ∧ _
        omega
      have G4 : Hid (RefAt w4 B l (room : Int)) := (HV3.out.2.2.1.same (W' := V3.drew) rfl).turned hT0 (by simp; exact ⟨HS.out.2.2.2.2.1.symm, HS.out.2.2.2.2.2.symm⟩)
      have T4 : Turned [q, eb, B] V3 w4 := (Turned.refl [q, eb, B] V3).drew.trans (hT0.wide (by intro k hk; simp at hk; simp; omega))
      obtain ⟨m3, m0, m1, m2, m4, m5⟩ := HFX.out w4 ((Turned.of_below HV3.out.1).trans T4)
      have H4 := Lib.hid (And.intro hA0 T4)
      clear hT0 hA0 T4 m0 m2
      go_wp2_with fail
      refine hK.out _ _ ?_ (fun hHeld => ?_)
      · (try dsimp only)
        exact ⟨m3, m1, m4, m5⟩
      clear hK K
      try simp only [Act.put, List.setIfInBounds_toArray, List.set_cons_zero, List.set_cons_succ]
      refine wpAnyH_ready (rs := [12]) (by kernel_rfl) (by simp) ?_
      refine AllReadyH.cons (o := _) (by simp only [List.getElem?_toArray, List.getElem?_cons_succ, List.getElem?_cons_zero] <;> rfl) (fun K hK => ?_) ?_
      · go_simp
        go_at_call 24
        refine (H2.out _ G4.out).mono ?_
        rintro e w5 ⟨rfl, hT1, hA1⟩
        have T5 : Turned [q, eb, B] V3 w5 := H4.out.2.trans (hT1.wide (by intro k hk; simp at hk; simp; omega))
        obtain ⟨n3, n0, n1, n2, n4, n5⟩ := HFX.out w5 ((Turned.of_below HV3.out.1).trans T5)
        have G5 := Lib.hid (And.intro (H4.out.1.turned hT1 (by simp; exact HS.out.2.2.2.1) (by simp; exact HS.out.2.2.2.2.1) (by simp; exact HE2.out.1)) hA1)
        have H5 := Lib.hid T5
        clear hT1 hA1 T5 n0 n2
        go_wp2_with fail
        refine hK.out _ _ ?_ (fun hHeld => ?_)
        · (try dsimp only)
          exact ⟨n3, n1, n4, n5⟩
        clear hK K
        try simp only [Act.put, List.setIfInBounds_toArray, List.set_cons_zero, List.set_cons_succ]
        refine wpAnyH_take (i := 13) (oi := ?_) (v := ?_) ?_ (by kernel_rfl) (by kernel_rfl) (by kernel_rfl) ?_ (Or.inl ⟨?_, ?_⟩) (by assumption) ?_
        rotate_left 2
        · simp only [List.getElem?_toArray, List.getElem?_cons_succ, List.getElem?_cons_zero] <;> rfl
        · exact fun _ _ _ h => h
        · rfl
        · (intro w hSw; (try dsimp only at hSw); go_simp; try (with_reducible rfl))
        try simp only [Act.put, List.setIfInBounds_toArray, List.set_cons_zero, List.set_cons_succ]
        refine wpAnyH_take (i := 14) (oi := ?_) (v := ?_) ?_ (by kernel_rfl) (by kernel_rfl) (by kernel_rfl) ?_ (Or.inl ⟨?_, ?_⟩) (by assumption) ?_
        rotate_left 2
        · simp only [List.getElem?_toArray, List.getElem?_cons_succ, List.getElem?_cons_zero] <;> rfl
        · exact fun _ _ _ h => h
        · rfl
        · (intro w hSw; (try dsimp only at hSw); go_simp; try (with_reducible rfl))
        try simp only [Act.put, List.setIfInBounds_toArray, List.set_cons_zero, List.set_cons_succ]
        refine wpAnyH_take (i := 15) (oi := ?_) (v := ?_) ?_ (by kernel_rfl) (by kernel_rfl) (by kernel_rfl) ?_ (Or.inl ⟨?_, ?_⟩) (by assumption) ?_
        rotate_left 2
        · simp only [List.getElem?_toArray, List.getElem?_cons_succ, List.getElem?_cons_zero] <;> rfl
        · exact fun _ _ _ h => h
        · rfl
        · (intro w hSw; (try dsimp only at hSw); go_simp; try (with_reducible rfl))
        try simp only [Act.put, List.setIfInBounds_toArray, List.set_cons_zero, List.set_cons_succ]
        refine wpAnyH_done (by kernel_rfl) ?_ _
        go_wp2_with fail
        refine calm_ret (v := .tuple #[.pointer (some ⟨p, 0, none⟩), .bool true]) rfl (by simp [results, Try.f10, go_sem]) ?_
        exact ⟨p, q, e2, l2, rfl, (Turned.of_below HV3.out.2.2.2).trans H5.out, G5.out.1, G5.out.2, H3.out.1, H3.out.2, .inl rfl, HE2.out.2, HS.out.2.2.2.1, HS.out.2.2.2.2.1, HE2.out.1⟩
      exact AllReadyH.nil
    exact AllReadyH.nil
  have z2 : (z == 2) = false := by simpa using h2
  by_cases h3 : z = 3
  · subst h3
    clear hz h2 z2
    have K1 : ∀ X, ManyAt X p q eb l room → Calls Try.prog 14 #[.pointer (some ⟨p, 0, none⟩), .int .u8 (b.toNat : Int)] X fun e w' => e = .returned (.tuple #[refOf b l, .int .i64 (if isIn b l = true then 0 else 5)]) ∧ Turned [q, eb] X w' ∧ ManyAt w' p q eb (takeS b l) room := fun X hX => take_any hX b
    have K2 : ∀ X, RefAt X B l (room : Int) → Calls Try.prog 25 #[.pointer (some ⟨B, 0, none⟩), .int .u8 (b.toNat : Int)] X fun e w' => e = .returned (.tuple #[refOf b l, .int .i64 (if isIn b l = true then 0 else 5)]) ∧ Turned [B] X w' ∧ RefAt w' B (takeS b l) (room : Int) := fun X hX => rtake_any hX HS.out.1 b
    have K3 : Srt (takeS b l) ∧ (takeS b l).length ≤ room := ⟨srt_take HS.out.1, by have := HS.out.2.2.1; rw [take_len]; split <;> omega⟩
    obtain ⟨v, hv⟩ : ∃ v : Int, (if isIn b l = true then 0 else 5) = v := ⟨_, rfl⟩
    obtain ⟨l2, hl2⟩ : ∃ l2, takeS b l = l2 := ⟨_, rfl⟩
    obtain ⟨v0, v1, hv2⟩ := refOf_agg b l
    rw [hl2] at K3
    simp only [hv, hl2, hv2] at K1 K2
    have H1 := Lib.hid K1
    have H2 := Lib.hid K2
    have H3 := Lib.hid K3
    clear K1 K2 K3 hv hl2 hv2
    go_upto_region 10 with (go_at_call 14; refine (H1.out _ HV3.out.2.1).mono ?_; rintro e w4 ⟨rfl, hT4, hA4⟩)
    obtain ⟨V4, hV4⟩ : ∃ V4, V4 = w4.alloc (.cells #[.int .i64 v0, .int .u32 v1] 35) := ⟨_, rfl⟩
    rw [← hV4]
    have b4 : Below w4.heap.size w4 V4 := by rw [hV4]; exact Below.new (Below.refl _ _) _
    have X12 : Fresh V4 w4.heap.size #[.int .i64 v0, .int .u32 v1] 35 := by rw [hV4]; exact Fresh.new _ _ _ _ rfl
    have T4 : Turned [q, eb, B] V3 V4 := (hT4.wide (by simp)).trans (.of_below b4)
    have R4 : RefAt V4 B l (room : Int) := (HV3.out.2.2.1.turned hT4 (by simp; exact ⟨HS.out.2.2.2.2.1.symm, HS.out.2.2.2.2.2.symm⟩)).below b4
    obtain ⟨m3, m0, m1, m2, m4, m5⟩ := HFX.out V4 ((Turned.of_below HV3.out.1).trans T4)
    have hs4 := hT4.size
    have hs3 := HV3.out.2.2.1.lt
    obtain ⟨b12, hb12⟩ : ∃ b12, w4.heap.size = b12 := ⟨_, rfl⟩
    rw [hb12] at X12 hs4 ⊢
    have H4 := Lib.hid (And.intro (hA4.below b4) (And.intro R4 (And.intro T4 (And.intro X12 (show b12 ≠ B by omega)))))
    clear hV4 b4 X12 T4 R4 hT4 hA4 hs4 hs3 hb12 c3 c0 c1 c2 c4 c5
    go_upto_region 11 with (go_at_call 25; refine (H2.out _ H4.out.2.1).mono ?_; rintro e w5 ⟨rfl, hT5, hA5⟩)
    obtain ⟨V5, hV5⟩ : ∃ V5, V5 = w5.alloc (.cells #[.int .i64 v0, .int .u32 v1] 35) := ⟨_, rfl⟩
    rw [← hV5]
    have b5 : Below w5.heap.size w5 V5 := by rw [hV5]; exact Below.new (Below.refl _ _) _
    have X14 : Fresh V5 w5.heap.size #[.int .i64 v0, .int .u32 v1] 35 := by rw [hV5]; exact Fresh.new _ _ _ _ rfl
    have X12 : Fresh V5 b12 #[.int .i64 v0, .int .u32 v1] 35 := (hT5.other H4.out.2.2.2.1 (by simp; exact H4.out.2.2.2.2)).below b5
    have T5 : Turned [q, eb, B] V3 V5 := (H4.out.2.2.1.trans (hT5.wide (by simp))).trans (.of_below b5)
    have F5 : ManyAt V5 p q eb l2 room := (H4.out.1.turned hT5 (by simp; exact HS.out.2.2.2.1) (by simp; exact HS.out.2.2.2.2.1) (by simp; exact HS.out.2.2.2.2.2)).below b5
    have R5 : RefAt V5 B l2 (room : Int) := hA5.below b5
    obtain ⟨n3, _⟩ := HFX.out V5 ((Turned.of_below HV3.out.1).trans T5)
    obtain ⟨b14, hb14⟩ : ∃ b14, w5.heap.size = b14 := ⟨_, rfl⟩
    rw [hb14] at X14 ⊢
    obtain ⟨y0, y1, _, _⟩ := X12.box2
    obtain ⟨y2, y3, _, _⟩ := X14.box2
    have H5 := Lib.hid (And.intro F5 (And.intro R5 T5))
    clear hV5 b5 X14 X12 T5 F5 R5 hT5 hA5 hb14 m3 m0 m1 m2 m4 m5
    have g3 := fun d os => cell_regrown n3 d os
    have g4 := fun d os => cell_regrown y0 d os
    have g5 := fun d os => cell_regrown y1 d os
    have g6 := fun d os => cell_regrown y2 d os
    have g7 := fun d os => cell_regrown y3 d os
    refine wp_region_quiet_below (by kernel_rfl) (by kernel_rfl) ?_
    repeat (any_goals (first | go_big_quiet_step (fail) | quiet_step (fail)))
    all_goals
      refine wpQuiet_nil ?_
      intro w7 hw7
      have hb7 : Below V5.heap.size V5 w7 := by obtain ⟨p, rfl⟩ := hw7; exact below_regrown _ _ _
      have HB7 := Lib.hid hb7
      clear hw7 hb7 g3 g4 g5 g6 g7
      go_wp2_with fail
      refine calm_ret (v := .tuple #[.pointer (some ⟨p, 0, none⟩), .bool true]) rfl (by simp [results, Try.f10, go_sem]) ?_
      exact ⟨p, q, eb, l2, rfl, (Turned.of_below HV3.out.2.2.2).trans (H5.out.2.2.trans (.of_below HB7.out)), H5.out.1.below HB7.out, H5.out.2.1.below HB7.out, H3.out.1, H3.out.2, .inl rfl, .inl rfl, HS.out.2.2.2.1, HS.out.2.2.2.2.1, HS.out.2.2.2.2.2⟩
  have z3 : (z == 3) = false := by simpa using h3
  by_cases h4 : z = 4
  · subst h4
    clear hz h2 h3
    obtain ⟨nb, v0, v1, is, hV⟩ : ∃ (nb v0 v1 : Int) (is : Bool), nextV from' l = .tuple #[.int .u8 nb, .agg #[.int .i64 v0, .int .u32 v1], .bool is] := by
      unfold nextV
      split
      · exact ⟨_, _, _, _, rfl⟩
      · exact ⟨_, _, _, _, rfl⟩
    have K1 : ∀ X, ManyAt X p q eb l room → Calls Try.prog 16 #[.pointer (some ⟨p, 0, none⟩), .int .i64 from'] X fun e w' => e = .returned (.tuple #[.int .u8 nb, .agg #[.int .i64 v0, .int .u32 v1], .bool is]) ∧ Below X.heap.size X w' := fun X hX => by rw [← hV]; exact next_any hX from'
    have K2 : ∀ X, RefAt X B l (room : Int) → Calls Try.prog 26 #[.pointer (some ⟨B, 0, none⟩), .int .i64 from'] X fun e w' => e = .returned (.tuple #[.int .u8 nb, .agg #[.int .i64 v0, .int .u32 v1], .bool is]) ∧ Below X.heap.size X w' := fun X hX => by rw [← hV]; exact rnext_any hX HS.out.1 from'
    have H1 := Lib.hid K1
    have H2 := Lib.hid K2
    clear K1 K2 hV
    go_upto_region 14 with (go_at_call 16; refine (H1.out _ HV3.out.2.1).mono ?_; rintro e w4 ⟨rfl, hb4⟩)
    obtain ⟨V4, hV4⟩ : ∃ V4, V4 = w4.alloc (.cells #[.int .i64 v0, .int .u32 v1] 35) := ⟨_, rfl⟩
    rw [← hV4]
    have b4 : Below V3.heap.size V3 V4 := by rw [hV4]; exact Below.new hb4 _
    have X12 : Fresh V4 w4.heap.size #[.int .i64 v0, .int .u32 v1] 35 := by rw [hV4]; exact Fresh.new _ _ _ _ rfl
    obtain ⟨m3, m0, m1, m2, m4, m5⟩ := HFX.out V4 (Turned.of_below (Below.step HV3.out.1 b4))
    obtain ⟨b12, hb12⟩ : ∃ b12, w4.heap.size = b12 := ⟨_, rfl⟩
    rw [hb12] at X12 ⊢
    have H4 := Lib.hid (And.intro b4 X12)
    clear hV4 b4 X12 hb12 c3 c0 c1 c2 c4 c5 hb4
    go_upto_region 15 with (go_at_call 26; refine (H2.out _ (HV3.out.2.2.1.below H4.out.1)).mono ?_; rintro e w5 ⟨rfl, hb5⟩)
    obtain ⟨V5, hV5⟩ : ∃ V5, V5 = w5.alloc (.cells #[.int .i64 v0, .int .u32 v1] 35) := ⟨_, rfl⟩
    rw [← hV5]
    have b5 : Below V4.heap.size V4 V5 := by rw [hV5]; exact Below.new hb5 _
    have X14 : Fresh V5 w5.heap.size #[.int .i64 v0, .int .u32 v1] 35 := by rw [hV5]; exact Fresh.new _ _ _ _ rfl
    have X12 : Fresh V5 b12 #[.int .i64 v0, .int .u32 v1] 35 := H4.out.2.below b5
    have B5 := Below.step H4.out.1 b5
    obtain ⟨n3, _⟩ := HFX.out V5 (Turned.of_below (Below.step HV3.out.1 B5))
    obtain ⟨b14, hb14⟩ : ∃ b14, w5.heap.size = b14 := ⟨_, rfl⟩
    rw [hb14] at X14 ⊢
    obtain ⟨y0, y1, _, _⟩ := X12.box2
    obtain ⟨y2, y3, _, _⟩ := X14.box2
    have H5 := Lib.hid B5
    clear hV5 b5 X14 X12 B5 hb5 hb14 m3 m0 m1 m2 m4 m5
    have g3 := fun d os => cell_regrown n3 d os
    have g4 := fun d os => cell_regrown y0 d os
    have g5 := fun d os => cell_regrown y1 d os
    have g6 := fun d os => cell_regrown y2 d os
    have g7 := fun d os => cell_regrown y3 d os
    refine wp_region_quiet_below (by kernel_rfl) (by kernel_rfl) ?_
    repeat (any_goals (first | go_big_quiet_step (fail) | quiet_step (fail)))
    all_goals
      refine wpQuiet_nil ?_
      intro w7 hw7
      have hb7 : Below V5.heap.size V5 w7 := by obtain ⟨p, rfl⟩ := hw7; exact below_regrown _ _ _
      have HB7 := Lib.hid (Below.step H5.out hb7)
      clear hw7 hb7 g3 g4 g5 g6 g7
      go_wp2_with fail
      refine calm_ret (v := .tuple #[.pointer (some ⟨p, 0, none⟩), .bool true]) rfl (by simp [results, Try.f10, go_sem]) ?_
      exact ⟨p, q, eb, l, rfl, Turned.of_below (Below.step HV3.out.2.2.2 HB7.out), HV3.out.2.1.below HB7.out, HV3.out.2.2.1.below HB7.out, HS.out.1, HS.out.2.2.1, .inl rfl, .inl rfl, HS.out.2.2.2.1, HS.out.2.2.2.2.1, HS.out.2.2.2.2.2⟩
  have z4 : (z == 4) = false := by simpa using h4
  by_cases h5 : z = 5
  · subst h5
    clear hz h2 h3 h4
    have hp3 := HV3.out.2.1.lt
    have hB3 := HV3.out.2.2.1.lt
    have HC := Lib.hid (copy_any HV3.out.2.1)
    have HLT := Lib.hid (And.intro hp3 hB3)
    clear hp3 hB3
    go_upto_region 18 with (go_at_call 20; refine HC.out.mono ?_; rintro e w4 ⟨p2, q2, ec, rfl, hb4, hf4, hp2, hq2, hc2⟩)
    have HGE := Lib.hid (And.intro hp2 (And.intro hq2 hc2))
    obtain ⟨m3, m0, m1, m2, m4, m5⟩ := HFX.out w4 (Turned.of_below (Below.step HV3.out.1 hb4))
    have K1 : Calls Try.prog 12 #[.pointer (some ⟨p, 0, none⟩), .int .u8 (b.toNat : Int), .agg #[.int .i64 s, .int .u32 g]] w4 fun e w' => e = .returned (.int .i64 (putE b l room)) ∧ ∃ e2, (e2 = eb ∨ w4.heap.size ≤ e2) ∧ Turned [q, eb] w4 w' ∧ ManyAt w' p q e2 (putS b s g l room) room := put_any (HV3.out.2.1.below hb4) HS.out.2.1 HS.out.2.2.1 b s g
    have H1 := Lib.hid K1
    have H4 := Lib.hid (And.intro hf4 hb4)
    clear K1 hf4 hb4 c3 c0 c1 c2 c4 c5 hp2 hq2 hc2
    go_upto_region 19 with (go_at_call 12; refine H1.out.mono ?_; rintro e w5 ⟨rfl, e5, he5, hT5, hA5⟩)
    have T35 : Turned [q, eb] V3 w5 := (Turned.of_below H4.out.2).trans hT5
    have C5 : ManyAt w5 p2 q2 ec l room := by
      have h1 := HLT.out
      have h2 := HGE.out
      exact H4.out.1.turned hT5 (by simp; omega) (by simp; omega) (by simp; omega)
    have E5 : e5 = eb ∨ V3.heap.size ≤ e5 := by have := H4.out.2.size; omega
    obtain ⟨k3, _⟩ := HFX.out w5 ((Turned.of_below HV3.out.1).trans (T35.wide (by intro k hk; simp at hk; simp; omega)))
    have HCL := Lib.hid C5.lt
    have H5 := Lib.hid (And.intro hA5 (And.intro C5 T35))
    have HE5 := Lib.hid E5
    have HE6 := Lib.hid (And.intro he5 H4.out.1.lt)
    clear hT5 hA5 T35 C5 m3 m0 m1 m2 m4 m5 E5 he5
    go_wp2_with (go_at_call 13; refine (allv_any _ _).mono ?_; rintro e WL ⟨rfl, hWL⟩; have HWL := Lib.hid hWL; clear hWL)
    have szL : WL.heap.size = w5.heap.size + 1 := by rw [HWL.out]; simp
    have BL : Below w5.heap.size w5 WL := by rw [HWL.out]; exact Below.new (Below.refl _ _) _
    have fa : Fresh WL w5.heap.size #[.pointer (some ⟨p, 0, none⟩)] 24 := by rw [HWL.out]; exact Fresh.new _ _ _ _ rfl
    have TL : Turned [q, e5] w5 WL := .of_below BL
    have AL := H5.out.1.below BL
    have hs5 := H5.out.2.2.size
    have hlt := HLT.out
    have hm5 := H5.out.1.lt
    have HSZ : Hid (V3.heap.size ≤ w5.heap.size ∧ w5.heap.size ≤ WL.heap.size ∧ p < V3.heap.size ∧ q < V3.heap.size ∧ eb < V3.heap.size ∧ B < V3.heap.size ∧ e5 < w5.heap.size) := by show _ ∧ _; omega
    have HTW : Hid (∀ X, Turned [q, e5] w5 X → Turned [q, eb, B] W1 X ∧ Turned [q, eb, B] W X) := by
      intro X hX
      have h1 := HV3.out.1.size
      have h2 := HV3.out.2.2.2.size
      have h3 := HE5.out
      have t1 : Turned [q, eb, B] W1 w5 := (Turned.of_below HV3.out.1).trans (H5.out.2.2.wide (by intro k hk; simp at hk; simp; omega))
      have t2 : Turned [q, eb, B] W w5 := (Turned.of_below HV3.out.2.2.2).trans (H5.out.2.2.wide (by intro k hk; simp at hk; simp; omega))
      exact ⟨t1.grow hX (by intro k hk; simp at hk; simp; omega), t2.grow hX (by intro k hk; simp at hk; simp; omega)⟩
    obtain ⟨L0, hL0⟩ : ∃ L0, putS b s g l room = L0 := ⟨_, rfl⟩
    rw [hL0] at AL
    clear k3 HWL BL hs5 hL0 hlt hm5
    refine (wpIn_wide (n := 10)).1 ?_
    generalize hA0 : ({ tmps := _, defers := _ } : Act) = A0
    refine range_box rfl (by omega) (gf := 32) (lb := #[.pointer (some ⟨w5.heap.size, 0, none⟩)]) (by rw [← hA0]; rfl) trivial (enters_of Try.func32 (by kernel_rfl) rfl)
      (all_own kTurned 9 (by omega) w5.heap.size [q, e5, WL.heap.size + 1] L0 room WL p q e5 AL ((fa.cell 0).trans rfl) (fun k h => by have := HSZ.out; simp at h; omega))
      (fun h k => h.trans k) (fun Wc o _ => Turned.put (by simp) o) (Below.refl _ _) (fun _ => rfl)
      (fun _ Wc => ∃ l', ManyAt Wc p q e5 l' room ∧ Turned [q, e5] w5 Wc)
      (fun _ _ _ => False)
      (fun pre X Y row ⟨l', h1, h2⟩ hg hr => ⟨l', h1.kept hg (fun r e => (hr r e).2), h2.kept hg (fun r e => by have := (hr r e).1; have := HSZ.out; omega)⟩)
      (fun _ _ _ _ _ h _ _ => h)
      ⟨L0, AL, TL⟩
      (fun x a' _ => a' = { tmps := ((A0.tmps.setIfInBounds 135 (.int .u8 (x.1.toNat : Int))).setIfInBounds 136 (refV x.2.1 x.2.2)).setIfInBounds 23 (.int .u8 (x.1.toNat : Int)), defers := [] })
      (fun x a' _ X Y row h1 hg hr => h1)
      ?assignment ?round ?done ?stop
    all_goals subst hA0
    case assignment =>
      rintro l' pre x Wc K' hG ⟨l1, h1, h2⟩ hK
      have HK := hK _ Wc ((KeepsOthers.refl _).from _) (Turned.refl _ Wc) ⟨l1, h1, h2⟩ rfl
      clear hK h1 h2 hG szL fa TL AL
      simp only [List.setIfInBounds_toArray, List.set_cons_succ, List.set_cons_zero] at HK
      replace HK := Lib.hid HK
      unfold enV
      gi_wp2
      exact HK.out
    case round =>
      rintro l' pre x a' W5 hG ⟨l1, h1, h2⟩ rfl hz
      simp only [List.setIfInBounds_toArray, List.set_cons_succ, List.set_cons_zero]
      obtain ⟨cx, sx, gx⟩ := x
      dsimp only
      obtain ⟨k3, _⟩ := HFX.out W5 (HTW.out _ h2).1
      have HT : Hid (Calls Try.prog 17 #[.pointer (some ⟨p, 0, none⟩), .int .u8 (cx.toNat : Int), .agg #[.int .i64 99, .int .u32 0]] W5 fun e w' => e = .returned (.int .i64 (if isIn cx l1 = true then 0 else 5)) ∧ Turned [q, e5] W5 w' ∧ ManyAt w' p q e5 (turnS cx 99 0 l1) room) := Lib.hid (turn_any h1 cx 99 0)
      obtain ⟨v9, hv9⟩ : ∃ v : Int, (if isIn cx l1 = true then 0 else 5) = v := ⟨_, rfl⟩
      rw [hv9] at HT
      have HJ2 := Lib.hid h2
      clear h1 h2 hv9 szL fa TL AL hG
      gi_wp2_with (first
        | (refine ⟨trivial, ?_⟩; gi_at_call 17; with_reducible refine (callsIn_round HT.out).mono ?_; rintro e w6 ⟨rfl, hT6, hA6⟩; obtain ⟨k6, _⟩ := HFX.out w6 (HTW.out _ (HJ2.out.trans hT6)).1; have HA6 := Lib.hid (And.intro hA6 hT6); clear hA6 hT6)
        | (refine ⟨trivial, ?_⟩; gi_at_call 14; with_reducible refine (callsIn_round (take_any HA6.out.1 cx)).mono ?_; rintro e w7 ⟨rfl, hT7, hA7⟩))
      have T7 := HA6.out.2.trans hT7
      have hsz := HSZ.out
      exact ⟨KeepsFrom.of_turned T7 (by intro k hk; simp at hk; omega), T7.wide (by intro k hk; simp at hk; simp; omega), _, hA7, HJ2.out.trans T7⟩
    case done =>
      rintro D xs W5 hD hxs ⟨l1, h1, h2⟩ hK
      have HK := Lib.hid hK
      have hsz := HSZ.out
      have hge := HGE.out
      have he6 := HE6.out
      have T5 := (HTW.out _ h2).2
      have C5 : ManyAt W5 p2 q2 ec l room := H5.out.2.1.turned h2 (by simp; omega) (by simp; omega) (by simp; omega)
      have R5 : RefAt W5 B l (room : Int) := by
        have r5 : RefAt w5 B l (room : Int) := HV3.out.2.2.1.turned H5.out.2.2 (by simp; exact ⟨HS.out.2.2.2.2.1.symm, HS.out.2.2.2.2.2.symm⟩)
        refine r5.turned h2 ?_
        have := HS.out.2.2.2
        simp; omega
      have hWs := HV3.out.2.2.2.size
      have H6 := Lib.hid (And.intro C5 (And.intro R5 (And.intro T5 (show W.heap.size ≤ D ∧ W.heap.size ≤ q2 ∧ W.heap.size ≤ ec ∧ p2 ≠ B ∧ q2 ≠ B ∧ ec ≠ B by omega))))
      clear hK h1 h2 hD szL fa TL AL C5 R5 T5 hsz hWs hge he6
      go_wp2_with fail
      have hr' : ∀ r, some D = some r → ∃ o : Obj, W5.heap[r]? = some o ∧ o.isCells = false := fun r e => by cases e; exact ⟨_, HK.out, rfl⟩
      refine calm_ret1 (v := .tuple #[.pointer (some ⟨p2, 0, none⟩), .bool true]) rfl HK.out (by simp [results, Try.f10, go_sem]) ?_
      exact ⟨p2, q2, ec, l, rfl, H6.out.2.2.1.kept (grownBy_putObj' W5 D (.deferred none)) (fun r e => by cases e; exact H6.out.2.2.2.1), H6.out.1.kept (grownBy_putObj' W5 D (.deferred none)) hr', H6.out.2.1.kept (grownBy_putObj' W5 D (.deferred none)) hr', HS.out.1, HS.out.2.2.1, .inr H6.out.2.2.2.2.1, .inr H6.out.2.2.2.2.2.1, H6.out.2.2.2.2.2.2.1, H6.out.2.2.2.2.2.2.2.1, H6.out.2.2.2.2.2.2.2.2⟩
    case stop => exact fun _ _ _ _ _ _ h => h.elim
  have z5 : (z == 5) = false := by simpa using h5
  have K1 : ∀ X, ManyAt X p q eb l room → Calls Try.prog 12 #[.pointer (some ⟨p, 0, none⟩), .int .u8 (b.toNat : Int), .agg #[.int .i64 s, .int .u32 g]] X fun e w' => e = .returned (.int .i64 (putE b l room)) ∧ ∃ e2, (e2 = eb ∨ X.heap.size ≤ e2) ∧ Turned [q, eb] X w' ∧ ManyAt w' p q e2 (putS b s g l room) room := fun X hX => put_any hX HS.out.2.1 HS.out.2.2.1 b s g
  have K2 : ∀ X, RefAt X B l (room : Int) → Calls Try.prog 27 #[.pointer (some ⟨B, 0, none⟩), .int .u8 (b.toNat : Int), .agg #[.int .i64 s, .int .u32 g]] X fun e w' => e = .returned (.int .i64 (putE b l room)) ∧ Turned [B] X w' ∧ RefAt w' B (putS b s g l room) (room : Int) := fun X hX => rput_any hX HS.out.1 (by have := HS.out.2; omega) b s g
  have K3 : Srt (putS b s g l room) ∧ (putS b s g l room).length ≤ room := ⟨srt_put HS.out.1 s g room, by have := HS.out.2.2.1; rw [put_len]; split <;> omega⟩
  obtain ⟨v, hv⟩ : ∃ v : Int, putE b l room = v := ⟨_, rfl⟩
  obtain ⟨l2, hl2⟩ : ∃ l2, putS b s g l room = l2 := ⟨_, rfl⟩
  rw [hl2] at K3
  simp only [hv, hl2] at K1 K2
  have H1 := Lib.hid K1
  have H2 := Lib.hid K2
  have H3 := Lib.hid K3
  clear K1 K2 K3 hv hl2 h2 h3 h4 h5 hz
  go_upto_region 24 with fail
  refine wp_region_held_drew (S := (fun W' => W'.cell? ⟨W.heap.size, 0, none⟩ = some (.pointer (some ⟨p, 0, none⟩)) ∧ W'.cell? ⟨W.heap.size + 1, 1, none⟩ = some (.int .u8 (b.toNat : Int)) ∧ W'.cell? ⟨W.heap.size + 1, 3, none⟩ = some (.int .i64 s) ∧ W'.cell? ⟨W.heap.size + 1, 4, none⟩ = some (.int .u32 g))) (by kernel_rfl) ?_ (fun hHeld => ?_)
  · (try dsimp only)
    exact ⟨c3, c1, c4, c5⟩
  refine wpAnyH_take (i := 0) (oi := ?_) (v := ?_) ?_ (by kernel_rfl) (by kernel_rfl) (by kernel_rfl) ?_ (Or.inl ⟨?_, ?_⟩) (by assumption) ?_
  rotate_left 2
  · simp only [List.getElem?_toArray, List.getElem?_cons_succ, List.getElem?_cons_zero] <;> rfl
  · exact fun _ _ _ h => h
  · rfl
  · (intro w hSw; (try dsimp only at hSw); go_simp; try (with_reducible rfl))
  try simp only [Act.put, List.setIfInBounds_toArray, List.set_cons_zero, List.set_cons_succ]
  refine wpAnyH_take (i := 1) (oi := ?_) (v := ?_) ?_ (by kernel_rfl) (by kernel_rfl) (by kernel_rfl) ?_ (Or.inl ⟨?_, ?_⟩) (by assumption) ?_
  rotate_left 2
  · simp only [List.getElem?_toArray, List.getElem?_cons_succ, List.getElem?_cons_zero] <;> rfl
  · exact fun _ _ _ h => h
  · rfl
  · (intro w hSw; (try dsimp only at hSw); go_simp; try (with_reducible rfl))
  try simp only [Act.put, List.setIfInBounds_toArray, List.set_cons_zero, List.set_cons_succ]
  refine wpAnyH_take (i := 2) (oi := ?_) (v := ?_) ?_ (by kernel_rfl) (by kernel_rfl) (by kernel_rfl) ?_ (Or.inl ⟨?_, ?_⟩) (by assumption) ?_
  rotate_left 2
  · simp only [List.getElem?_toArray, List.getElem?_cons_succ, List.getElem?_cons_zero] <;> rfl
  · exact fun _ _ _ h => h
  · rfl
  · (intro w hSw; (try dsimp only at hSw); go_simp; try (with_reducible rfl))
  try simp only [Act.put, List.setIfInBounds_toArray, List.set_cons_zero, List.set_cons_succ]
  refine wpAnyH_take (i := 3) (oi := ?_) (v := ?_) ?_ (by kernel_rfl) (by kernel_rfl) (by kernel_rfl) ?_ (Or.inl ⟨?_, ?_⟩) (by assumption) ?_
  rotate_left 2
  · simp only [List.getElem?_toArray, List.getElem?_cons_succ, List.getElem?_cons_zero] <;> rfl
  · exact fun _ _ _ h => h
  · rfl
  · (intro w hSw; (try dsimp only at hSw); go_simp; try (with_reducible rfl))
  try simp only [Act.put, List.setIfInBounds_toArray, List.set_cons_zero, List.set_cons_succ]
  refine wpAnyH_take (i := 4) (oi := ?_) (v := ?_) ?_ (by kernel_rfl) (by kernel_rfl) (by kernel_rfl) ?_ (Or.inl ⟨?_, ?_⟩) (by assumption) ?_
  rotate_left 2
  · simp only [List.getElem?_toArray, List.getElem?_cons_succ, List.getElem?_cons_zero] <;> rfl
  · exact fun _ _ _ h => h
  · rfl
  · (intro w hSw; (try dsimp only at hSw); go_simp; try (with_reducible rfl))
  try simp only [Act.put, List.setIfInBounds_toArray, List.set_cons_zero, List.set_cons_succ]
  refine wpAnyH_take (i := 5) (oi := ?_) (v := ?_) ?_ (by kernel_rfl) (by kernel_rfl) (by kernel_rfl) ?_ (Or.inl ⟨?_, ?_⟩) (by assumption) ?_
  rotate_left 2
  · simp only [List.getElem?_toArray, List.getElem?_cons_succ, List.getElem?_cons_zero] <;> rfl
  · exact fun _ _ _ h => h
  · rfl
  · (intro w hSw; (try dsimp only at hSw); go_simp; try (with_reducible rfl))
  try simp only [Act.put, List.setIfInBounds_toArray, List.set_cons_zero, List.set_cons_succ]
  refine wpAnyH_take (i := 7) (oi := ?_) (v := ?_) ?_ (by kernel_rfl) (by kernel_rfl) (by kernel_rfl) ?_ (Or.inl ⟨?_, ?_⟩) (by assumption) ?_
  rotate_left 2
  · simp only [List.getElem?_toArray, List.getElem?_cons_succ, List.getElem?_cons_zero] <;> rfl
  · exact fun _ _ _ h => h
  · rfl
  · (intro w hSw; (try dsimp only at hSw); go_simp; try (with_reducible rfl))
  try simp only [Act.put, List.setIfInBounds_toArray, List.set_cons_zero, List.set_cons_succ]
  refine wpAnyH_take (i := 8) (oi := ?_) (v := ?_) ?_ (by kernel_rfl) (by kernel_rfl) (by kernel_rfl) ?_ (Or.inl ⟨?_, ?_⟩) (by assumption) ?_
  rotate_left 2
  · simp only [List.getElem?_toArray, List.getElem?_cons_succ, List.getElem?_cons_zero] <;> rfl
  · exact fun _ _ _ h => h
  · rfl
  · (intro w hSw; (try dsimp only at hSw); go_simp; try (with_reducible rfl))
  try simp only [Act.put, List.setIfInBounds_toArray, List.set_cons_zero, List.set_cons_succ]
  refine wpAnyH_take (i := 9) (oi := ?_) (v := ?_) ?_ (by kernel_rfl) (by kernel_rfl) (by kernel_rfl) ?_ (Or.inl ⟨?_, ?_⟩) (by assumption) ?_
  rotate_left 2
  · simp only [List.getElem?_toArray, List.getElem?_cons_succ, List.getElem?_cons_zero] <;> rfl
  · exact fun _ _ _ h => h
  · rfl
  · (intro w hSw; (try dsimp only at hSw); go_simp; try (with_reducible rfl))
  try simp only [Act.put, List.setIfInBounds_toArray, List.set_cons_zero, List.set_cons_succ]
  refine wpAnyH_take (i := 10) (oi := ?_) (v := ?_) ?_ (by kernel_rfl) (by kernel_rfl) (by kernel_rfl) ?_ (Or.inl ⟨?_, ?_⟩) (by assumption) ?_
  rotate_left 2
  · simp only [List.getElem?_toArray, List.getElem?_cons_succ, List.getElem?_cons_zero] <;> rfl
  · exact fun _ _ _ h => h
  · rfl
  · (intro w hSw; (try dsimp only at hSw); go_simp; try (with_reducible rfl))
  try simp only [Act.put, List.setIfInBounds_toArray, List.set_cons_zero, List.set_cons_succ]
  refine wpAnyH_take (i := 11) (oi := ?_) (v := ?_) ?_ (by kernel_rfl) (by kernel_rfl) (by kernel_rfl) ?_ (Or.inl ⟨?_, ?_⟩) (by assumption) ?_
  rotate_left 2
  · simp only [List.getElem?_toArray, List.getElem?_cons_succ, List.getElem?_cons_zero] <;> rfl
  · exact fun _ _ _ h => h
  · rfl
  · (intro w hSw; (try dsimp only at hSw); go_simp; try (with_reducible rfl))
  try simp only [Act.put, List.setIfInBounds_toArray, List.set_cons_zero, List.set_cons_succ]
  refine wpAnyH_ready (rs := [6]) (by kernel_rfl) (by simp) ?_
  refine AllReadyH.cons (o := _) (by simp only [List.getElem?_toArray, List.getElem?_cons_succ, List.getElem?_cons_zero] <;> rfl) (fun K hK => ?_) ?_
  · go_simp
    go_at_call 12
    refine (H1.out _ HV3.out.2.1.drew).mono ?_
    rintro e w4 ⟨rfl, e2, he2, hT0, hA0⟩
    have HE2 : Hid (e2 ≠ B ∧ (e2 = eb ∨ W.heap.size ≤ e2)) := by
      have h1 := HV3.out.2.2.1.lt
      have h2 := HV3.out.2.2.2.size
      have h3 := HS.out.2.2.2.2.2
      have h4 : V3.drew.heap.size = V3.heap.size := rfl
      show _ ∧ _
      omega
    have G4 : Hid (RefAt w4 B l (room : Int)) := (HV3.out.2.2.1.same (W' := V3.drew) rfl).turned hT0 (by simp; exact ⟨HS.out.2.2.2.2.1.symm, HS.out.2.2.2.2.2.symm⟩)
    have T4 : Turned [q, eb, B] V3 w4 := (Turned.refl [q, eb, B] V3).drew.trans (hT0.wide (by intro k hk; simp at hk; simp; omega))
    obtain ⟨m3, m0, m1, m2, m4, m5⟩ := HFX.out w4 ((Turned.of_below HV3.out.1).trans T4)
    have H4 := Lib.hid (And.intro hA0 T4)
    clear hT0 hA0 T4 m0 m2
    go_wp2_with fail
    refine hK.out _ _ ?_ (fun hHeld => ?_)
    · (try dsimp only)
      exact ⟨m3, m1, m4, m5⟩
    clear hK K
    try simp only [Act.put, List.setIfInBounds_toArray, List.set_cons_zero, List.set_cons_succ]
    refine wpAnyH_ready (rs := [12]) (by kernel_rfl) (by simp) ?_
    refine AllReadyH.cons (o := _) (by simp only [List.getElem?_toArray, List.getElem?_cons_succ, List.getElem?_cons_zero] <;> rfl) (fun K hK => ?_) ?_
    · go_simp
      go_at_call 27
      refine (H2.out _ G4.out).mono ?_
      rintro e w5 ⟨rfl, hT1, hA1⟩
      have T5 : Turned [q, eb, B] V3 w5 := H4.out.2.trans (hT1.wide (by intro k hk; simp at hk; simp; omega))
      obtain ⟨n3, n0, n1, n2, n4, n5⟩ := HFX.out w5 ((Turned.of_below HV3.out.1).trans T5)
      have G5 := Lib.hid (And.intro (H4.out.1.turned hT1 (by simp; exact HS.out.2.2.2.1) (by simp; exact HS.out.2.2.2.2.1) (by simp; exact HE2.out.1)) hA1)
      have H5 := Lib.hid T5
      clear hT1 hA1 T5 n0 n2
      go_wp2_with fail
      refine hK.out _ _ ?_ (fun hHeld => ?_)
      · (try dsimp only)
        exact ⟨n3, n1, n4, n5⟩
      clear hK K
      try simp only [Act.put, List.setIfInBounds_toArray, List.set_cons_zero, List.set_cons_succ]
      refine wpAnyH_take (i := 13) (oi := ?_) (v := ?_) ?_ (by kernel_rfl) (by kernel_rfl) (by kernel_rfl) ?_ (Or.inl ⟨?_, ?_⟩) (by assumption) ?_
      rotate_left 2
      · simp only [List.getElem?_toArray, List.getElem?_cons_succ, List.getElem?_cons_zero] <;> rfl
      · exact fun _ _ _ h => h
      · rfl
      · (intro w hSw; (try dsimp only at hSw); go_simp; try (with_reducible rfl))
      try simp only [Act.put, List.setIfInBounds_toArray, List.set_cons_zero, List.set_cons_succ]
      refine wpAnyH_take (i := 14) (oi := ?_) (v := ?_) ?_ (by kernel_rfl) (by kernel_rfl) (by kernel_rfl) ?_ (Or.inl ⟨?_, ?_⟩) (by assumption) ?_
      rotate_left 2
      · simp only [List.getElem?_toArray, List.getElem?_cons_succ, List.getElem?_cons_zero] <;> rfl
      · exact fun _ _ _ h => h
      · rfl
      · (intro w hSw; (try dsimp only at hSw); go_simp; try (with_reducible rfl))
      try simp only [Act.put, List.setIfInBounds_toArray, List.set_cons_zero, List.set_cons_succ]
      refine wpAnyH_take (i := 15) (oi := ?_) (v := ?_) ?_ (by kernel_rfl) (by kernel_rfl) (by kernel_rfl) ?_ (Or.inl ⟨?_, ?_⟩) (by assumption) ?_
      rotate_left 2
      · simp only [List.getElem?_toArray, List.getElem?_cons_succ, List.getElem?_cons_zero] <;> rfl
      · exact fun _ _ _ h => h
      · rfl
      · (intro w hSw; (try dsimp only at hSw); go_simp; try (with_reducible rfl))
      try simp only [Act.put, List.setIfInBounds_toArray, List.set_cons_zero, List.set_cons_succ]
      refine wpAnyH_done (by kernel_rfl) ?_ _
      go_wp2_with fail
      refine calm_ret (v := .tuple #[.pointer (some ⟨p, 0, none⟩), .bool true]) rfl (by simp [results, Try.f10, go_sem]) ?_
      exact ⟨p, q, e2, l2, rfl, (Turned.of_below HV3.out.2.2.2).trans H5.out, G5.out.1, G5.out.2, H3.out.1, H3.out.2, .inl rfl, HE2.out.2, HS.out.2.2.2.1, HS.out.2.2.2.2.1, HE2.out.1⟩
    exact AllReadyH.nil
  exact AllReadyH.nil
end Go.Proofs.Ytiifogbdoajnoaa
