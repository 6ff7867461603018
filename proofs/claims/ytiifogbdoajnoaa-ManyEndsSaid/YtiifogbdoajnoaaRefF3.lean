/- The reference's row: the methods Turn, Take, Put, Next. -/
import Derived.Test.YtiifogbdoajnoaaRefF2
import Derived.Laws.Cover1
namespace Go.Proofs.Ytiifogbdoajnoaa
open Go.RowKit
set_option maxRecDepth 100000
set_option maxHeartbeats 2000000

theorem rtake_any {W : World} {B : Nat} {l : List En} {room : Int} (h : RefAt W B l room) (hs : Srt l) (b : UInt8) :
    Calls Try.prog 25 #[.pointer (some ⟨B, 0, none⟩), .int .u8 (b.toNat : Int)] W fun e w' => e = .returned (.tuple #[refOf b l, .int .i64 (if isIn b l = true then 0 else 5)]) ∧ Turned [B] W w' ∧ RefAt w' B (takeS b l) room := by
  obtain ⟨W0, hW0⟩ : ∃ W0, W0 = W.alloc (.cells #[.int .i64 0, .int .u32 0] 35) := ⟨_, rfl⟩
  have hB0 : Below W.heap.size W W0 := by rw [hW0]; exact Below.new (Below.refl _ _) _
  have hbox : Fresh W0 W.heap.size #[.int .i64 0, .int .u32 0] 35 := by rw [hW0]; exact Fresh.new _ _ _ _ rfl
  have h0 := h.below hB0
  have k0 : (0 : Int) ≤ (b.toNat : Int) := Int.natCast_nonneg _
  have k1 : (b.toNat : Int) < 256 := by have := b.toNat_lt; omega
  have k2 : b.toNat < 256 := b.toNat_lt
  have hF := Lib.hid (rfind_any h0 b)
  obtain ⟨s, g, hr⟩ : ∃ s g : Int, refOf b l = refV s g := by unfold refOf; split; exact ⟨_, _, rfl⟩; exact ⟨_, _, rfl⟩
  rw [hr] at hF ⊢
  have hlt := h.lt
  obtain ⟨u, hu⟩ : ∃ u, isIn b l = u := ⟨_, rfl⟩
  have HU := Lib.hid hu
  rw [hu] at hF ⊢
  have HW0 := Lib.hid hW0
  have HB0 := Lib.hid hB0
  have HBX := Lib.hid hbox
  have H0 := Lib.hid h0
  have HS := Lib.hid hs
  clear hW0 hB0 hbox h0 h hr hu hs
  go_enter Try.func25, Try.ntmps25
  go_upto_region 2 with (rw [← HW0.out]; go_at_call 23; refine hF.out.mono ?_; rintro e w1 ⟨rfl, hb1⟩; have H1 := Lib.hid hb1; clear hb1)
  obtain ⟨w2, hw2⟩ : ∃ w2, w2 = w1.alloc (.cells #[.int .i64 s, .int .u32 g] 35) := ⟨_, rfl⟩
  rw [← hw2]
  have b2 : Below w1.heap.size w1 w2 := by rw [hw2]; exact Below.new (Below.refl _ _) _
  have F2 : Fresh w2 w1.heap.size #[.int .i64 s, .int .u32 g] 35 := by rw [hw2]; exact Fresh.new _ _ _ _ rfl
  have b02 := Below.step H1.out b2
  have h2 := H0.out.below b02
  have X2 := HBX.out.below b02
  have i2 := h2.is b
  have f2 := h2.thaw (1 + b.toNat) (by omega)
  rw [HU.out] at i2
  obtain ⟨r0, r1, _, _⟩ := F2.box2
  obtain ⟨c0, c1, f0, f1⟩ := X2.box2
  have hsz : W.heap.size < w1.heap.size := by have := H1.out.size; have := HBX.out.lt; omega
  have low2 := Below.step HB0.out b02
  have HA := Lib.hid (And.intro h2 (And.intro F2 (And.intro X2 low2)))
  clear hw2 b2 F2 b02 h2 X2 low2
  cases u
  · have HT : Hid (takeS b l = l) := by
      show takeS b l = l
      rw [takeS, HU.out, if_neg (by simp)]
    go_wp2_with fail
    obtain ⟨W3, hW3⟩ : ∃ W3, W3 = (w2.setCell ⟨W.heap.size, 0, none⟩ (.int .i64 s)).setCell ⟨W.heap.size, 1, none⟩ (.int .u32 g) := ⟨_, rfl⟩
    have F3 : Fresh W3 W.heap.size #[.int .i64 s, .int .u32 g] 35 := by rw [hW3]; exact (HA.out.2.2.1.set 0 _).set 1 _
    have B3 : Below W.heap.size W W3 := by rw [hW3]; exact (HA.out.2.2.2.setCell (Nat.le_refl _) _).setCell (Nat.le_refl _) _
    have R3 : RefAt W3 B (takeS b l) room := by
      rw [HT.out]
      exact HA.out.1.same (by rw [hW3, Below.heap_setCell _ _ _ _ (by show B ≠ W.heap.size; omega), Below.heap_setCell _ _ _ _ (by show B ≠ W.heap.size; omega)])
    obtain ⟨g0, g1, _, _⟩ := F3.box2
    have FIN := Lib.hid (And.intro (Turned.of_below (S := [B]) B3) R3)
    rw [← hW3]
    clear hW3 F3 B3 R3
    refine bodyPost_ret (v := .tuple #[refV s g, .int .i64 5]) ?_ rfl ⟨rfl, FIN.out⟩
    rw [results_cell_tmp rfl]
    go_simp
  · go_upto_region 5 with fail
    obtain ⟨w3, hw3⟩ : ∃ w3, w3 = w2.setCell ⟨B, 1 + b.toNat, none⟩ (.bool false) := ⟨_, rfl⟩
    rw [← hw3]
    have R3 : RefAt w3 B (takeS b l) room := by rw [hw3]; exact HA.out.1.take HS.out b
    have T3 : Turned [B] W w3 := by rw [hw3]; exact (Turned.of_below HA.out.2.2.2).setCell (.inl (by simp)) _ _
    have F3 : Fresh w3 w1.heap.size #[.int .i64 s, .int .u32 g] 35 := by rw [hw3]; exact HA.out.2.1.other (by omega) _ _
    have X3 : Fresh w3 W.heap.size #[.int .i64 0, .int .u32 0] 35 := by rw [hw3]; exact HA.out.2.2.1.other (by omega) _ _
    obtain ⟨r0, r1, _, _⟩ := F3.box2
    obtain ⟨c0, c1, f0, f1⟩ := X3.box2
    have HB := Lib.hid (And.intro R3 (And.intro T3 X3))
    clear hw3 R3 T3 F3 X3 HA i2 f2
    go_wp2_with fail
    obtain ⟨W3, hW3⟩ : ∃ W3, W3 = (w3.setCell ⟨W.heap.size, 0, none⟩ (.int .i64 s)).setCell ⟨W.heap.size, 1, none⟩ (.int .u32 g) := ⟨_, rfl⟩
    have F3 : Fresh W3 W.heap.size #[.int .i64 s, .int .u32 g] 35 := by rw [hW3]; exact (HB.out.2.2.set 0 _).set 1 _
    have T4 : Turned [B] W W3 := by rw [hW3]; exact (HB.out.2.1.setCell (.inr (Nat.le_refl _)) _ _).setCell (.inr (Nat.le_refl _)) _ _
    have R4 : RefAt W3 B (takeS b l) room := HB.out.1.same (by rw [hW3, Below.heap_setCell _ _ _ _ (by show B ≠ W.heap.size; omega), Below.heap_setCell _ _ _ _ (by show B ≠ W.heap.size; omega)])
    obtain ⟨g0, g1, _, _⟩ := F3.box2
    have FIN := Lib.hid (And.intro T4 R4)
    rw [← hW3]
    clear hW3 F3 T4 R4
    refine bodyPost_ret (v := .tuple #[refV s g, .int .i64 0]) ?_ rfl ⟨rfl, FIN.out⟩
    rw [results_cell_tmp rfl]
    go_simp

theorem rturn_any {W : World} {B : Nat} {l : List En} {room : Int} (h : RefAt W B l room) (hs : Srt l) (b : UInt8) (s g : Int) :
    Calls Try.prog 24 #[.pointer (some ⟨B, 0, none⟩), .int .u8 (b.toNat : Int), refV s g] W fun e w' => e = .returned (.int .i64 (if isIn b l = true then 0 else 5)) ∧ Turned [B] W w' ∧ RefAt w' B (turnS b s g l) room := by
  obtain ⟨W0, hW0⟩ : ∃ W0, W0 = W.alloc (.cells #[.int .i64 s, .int .u32 g] 35) := ⟨_, rfl⟩
  have hB0 : Below W.heap.size W W0 := by rw [hW0]; exact Below.new (Below.refl _ _) _
  have hbox : Fresh W0 W.heap.size #[.int .i64 s, .int .u32 g] 35 := by rw [hW0]; exact Fresh.new _ _ _ _ rfl
  have h0 := h.below hB0
  have k0 : (0 : Int) ≤ (b.toNat : Int) := Int.natCast_nonneg _
  have k1 : (b.toNat : Int) < 256 := by have := b.toNat_lt; omega
  have k2 : b.toNat < 256 := b.toNat_lt
  have i0 := h0.is b
  obtain ⟨s', g', hs', hg', _⟩ := h0.ref b
  obtain ⟨c0, c1, _, _⟩ := hbox.box2
  have f0 := h0.thaw (257 + b.toNat * 2) (by omega)
  have f1 := h0.thaw (257 + b.toNat * 2 + 1) (by omega)
  obtain ⟨u, hu⟩ : ∃ u, isIn b l = u := ⟨_, rfl⟩
  have HU := Lib.hid hu
  rw [hu] at i0 ⊢
  have HW0 := Lib.hid hW0
  cases u
  · have hT : turnS b s g l = l := by rw [turnS, hu, if_neg (by simp)]
    have FIN := Lib.hid (And.intro (Turned.of_below (S := [B]) hB0) h0)
    rw [hT, if_neg (by simp)]
    clear hT hW0 hB0 hbox h0 h hu hs
    go_enter Try.func24, Try.ntmps24
    go_wp2_with (rw [← HW0.out])
    go_ret
    exact ⟨rfl, FIN.out⟩
  · obtain ⟨W3, hW3⟩ : ∃ W3, W3 = (W0.setCell ⟨B, 257 + b.toNat * 2, none⟩ (.int .i64 s)).setCell ⟨B, 257 + b.toNat * 2 + 1, none⟩ (.int .u32 g) := ⟨_, rfl⟩
    have T3 : Turned [B] W W3 := by rw [hW3]; exact ((Turned.of_below hB0).setCell (.inl (by simp)) _ _).setCell (.inl (by simp)) _ _
    have R3 : RefAt W3 B (turnS b s g l) room := by rw [hW3]; exact h0.turn hs b hu s g
    have FIN := Lib.hid (And.intro T3 R3)
    have HW3 := Lib.hid hW3
    rw [if_pos rfl]
    clear hW0 hB0 hbox h0 h hu hs hW3 T3 R3
    go_enter Try.func24, Try.ntmps24
    go_upto_region 3 with (rw [← HW0.out])
    go_region
    go_wp2_with fail
    go_ret
    refine ⟨rfl, ?_⟩
    show Turned [B] W (World.drew _) ∧ _
    first | (rw [← HW3.out]; exact ⟨FIN.out.1.drew, FIN.out.2.same rfl⟩) | (have := HW3.out; subst this; exact ⟨FIN.out.1.drew, FIN.out.2.same rfl⟩)

theorem rput_any {W : World} {B : Nat} {l : List En} {room : Nat} (h : RefAt W B l (room : Int)) (hs : Srt l) (hl : l.length ≤ 256) (b : UInt8) (s g : Int) :
    Calls Try.prog 27 #[.pointer (some ⟨B, 0, none⟩), .int .u8 (b.toNat : Int), refV s g] W fun e w' => e = .returned (.int .i64 (putE b l room)) ∧ Turned [B] W w' ∧ RefAt w' B (putS b s g l room) (room : Int) := by
  obtain ⟨W0, hW0⟩ : ∃ W0, W0 = W.alloc (.cells #[.int .i64 s, .int .u32 g] 35) := ⟨_, rfl⟩
  have hB0 : Below W.heap.size W W0 := by rw [hW0]; exact Below.new (Below.refl _ _) _
  have hbox : Fresh W0 W.heap.size #[.int .i64 s, .int .u32 g] 35 := by rw [hW0]; exact Fresh.new _ _ _ _ rfl
  have h0 := h.below hB0
  have k0 : (0 : Int) ≤ (b.toNat : Int) := Int.natCast_nonneg _
  have k1 : (b.toNat : Int) < 256 := by have := b.toNat_lt; omega
  have k2 : b.toNat < 256 := b.toNat_lt
  have i0 := h0.is b
  obtain ⟨u, hu⟩ : ∃ u, isIn b l = u := ⟨_, rfl⟩
  have HU := Lib.hid hu
  rw [hu] at i0
  have HW0 := Lib.hid hW0
  cases u
  · obtain ⟨n, hn⟩ : ∃ n, l.length = n := ⟨_, rfl⟩
    have hN : ∀ W', RefAt W' B l (room : Int) → Calls Try.prog 28 #[.pointer (some ⟨B, 0, none⟩)] W' fun e w' => e = .returned (.int .i64 (n : Int)) ∧ Below W'.heap.size W' w' := fun W' h' => by rw [← hn]; exact rlen_any h' hs (by omega)
    have HN := Lib.hid hN
    have H0 := Lib.hid (And.intro h0 (And.intro hbox hB0))
    have HS := Lib.hid hs
    have HL := Lib.hid hn
    by_cases he : n = room
    · have hE : putE b l room = 14 := by rw [putE, hu, if_neg (by simp), if_pos (hn.trans he)]
      have hT : putS b s g l room = l := by rw [putS, if_pos (.inr (hn.trans he))]
      have q0 : ((n : Int) == (room : Int)) = true := by rw [beq_iff_eq]; omega
      rw [hE, hT]
      have m0 := h0.room
      clear hW0 hB0 hbox h0 h hu hs hn hN hE hT he
      go_enter Try.func27, Try.ntmps27
      go_upto_region 3 with (rw [← HW0.out])
      go_region_with (go_at_call 28; refine (HN.out W0.drew (H0.out.1.same rfl)).mono ?_; rintro e w3 ⟨rfl, hb3⟩; have h3 : RefAt w3 B l (room : Int) := (by refine RefAt.below ?_ hb3; exact H0.out.1.same rfl); have m3 := h3.room; have H3 := Lib.hid (And.intro hb3 h3); clear h3 hb3)
      all_goals
        go_wp2_with fail
        go_ret
        exact ⟨rfl, (Turned.of_below (Below.step H0.out.2.2.drew H3.out.1)), H3.out.2⟩
    · have hE : putE b l room = 0 := by rw [putE, hu, if_neg (by simp), if_neg (by omega)]
      have hne : ¬ (isIn b l = true ∨ l.length = room) := by rw [hu]; rintro (h1 | h1); cases h1; omega
      have HNE := Lib.hid hne
      have q0 : ((n : Int) == (room : Int)) = false := by rw [beq_eq_false_iff_ne]; omega
      have hlt := h.lt
      rw [hE]
      have m0 := h0.room
      clear hW0 hB0 hbox h0 h hu hs hn hN hE hne he hl
      go_enter Try.func27, Try.ntmps27
      go_upto_region 3 with (rw [← HW0.out])
      go_region_with (go_at_call 28; refine (HN.out W0.drew (H0.out.1.same rfl)).mono ?_; rintro e w3 ⟨rfl, hb3⟩; have h3 : RefAt w3 B l (room : Int) := (by refine RefAt.below ?_ hb3; exact H0.out.1.same rfl); have m3 := h3.room; have H3 := Lib.hid (And.intro hb3 h3); clear h3 hb3)
      all_goals
        have i3 := H3.out.2.is b
        have f3 := H3.out.2.thaw (1 + b.toNat) (by omega)
        rw [HU.out] at i3
        go_upto_region 6 with fail
        obtain ⟨w4, hw4⟩ : ∃ w4, w4 = w3.setCell ⟨B, 1 + b.toNat, none⟩ (.bool true) := ⟨_, rfl⟩
        rw [← hw4]
        have X3 := (H0.out.2.1.drew).below H3.out.1
        have X4 : Fresh w4 W.heap.size #[.int .i64 s, .int .u32 g] 35 := by rw [hw4]; exact X3.other (by omega) _ _
        obtain ⟨c0, c1, _, _⟩ := X4.box2
        have f4 : w4.frozen? ⟨B, 257 + b.toNat * 2, none⟩ = false := by rw [hw4, World.frozen?_setCell]; exact H3.out.2.thaw _ (by omega)
        have f5 : w4.frozen? ⟨B, 257 + b.toNat * 2 + 1, none⟩ = false := by rw [hw4, World.frozen?_setCell]; exact H3.out.2.thaw _ (by omega)
        obtain ⟨s', g', hs', hg', _⟩ := H3.out.2.ref b
        have d0 : w4.cell? ⟨B, 257 + b.toNat * 2, none⟩ = some (.int .i64 s') := by rw [hw4, cell_one (H3.out.2.some_is b).1, if_neg (by omega)]; exact hs'
        have d1 : w4.cell? ⟨B, 257 + b.toNat * 2 + 1, none⟩ = some (.int .u32 g') := by rw [hw4, cell_one (H3.out.2.some_is b).1, if_neg (by omega)]; exact hg'
        obtain ⟨W5, hW5⟩ : ∃ W5, W5 = (w4.setCell ⟨B, 257 + b.toNat * 2, none⟩ (.int .i64 s)).setCell ⟨B, 257 + b.toNat * 2 + 1, none⟩ (.int .u32 g) := ⟨_, rfl⟩
        have T5 : Turned [B] W W5 := by
          rw [hW5, hw4]; exact (((Turned.of_below (Below.step H0.out.2.2.drew H3.out.1)).setCell (.inl (by simp)) _ _).setCell (.inl (by simp)) _ _).setCell (.inl (by simp)) _ _
        have R5 : RefAt W5 B (putS b s g l room) (room : Int) := by
          rw [hW5, hw4]; exact H3.out.2.put HS.out b HNE.out s g
        have FIN := Lib.hid (And.intro T5 R5)
        have HW5 := Lib.hid hW5
        clear T5 R5 hW5 hw4 X3 X4 hs' hg' i3 f3 m3
        go_region
        go_wp2_with fail
        go_ret
        refine ⟨rfl, ?_⟩
        show Turned [B] W (World.drew _) ∧ _
        first | (rw [← HW5.out]; exact ⟨FIN.out.1.drew, FIN.out.2.same rfl⟩) | (have := HW5.out; subst this; exact ⟨FIN.out.1.drew, FIN.out.2.same rfl⟩)
  · have hE : putE b l room = 8 := by rw [putE, hu, if_pos rfl]
    have hT : putS b s g l room = l := by rw [putS, if_pos (.inl hu)]
    have FIN := Lib.hid (And.intro (Turned.of_below (S := [B]) hB0) h0)
    rw [hT, hE]
    clear hT hE hW0 hB0 hbox h0 h hu hs
    go_enter Try.func27, Try.ntmps27
    go_wp2_with (rw [← HW0.out])
    go_ret
    exact ⟨rfl, FIN.out⟩
end Go.Proofs.Ytiifogbdoajnoaa
