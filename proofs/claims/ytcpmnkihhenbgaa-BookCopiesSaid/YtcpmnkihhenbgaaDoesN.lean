/- The law's does, with where the keys lie behind it: as before, or in a new block. -/
import Derived.Test.YtcpmnkihhenbgaaDoesB
import Derived.Test.YtcpmnkihhenbgaaRefN
namespace Go.Proofs.Ytcpmnkihhenbgaa
open Go.RowKit Go.Shelf
set_option maxRecDepth 1000000
set_option maxHeartbeats 4000000

namespace Nw
structure HereN (w W0 W : World) (p q e0 e m : Nat) (l : List Pr) (K B : Nat) : Prop extends Here w W p q e m l K B where
  new : e = e0 ∨ W0.heap.size ≤ e
theorem put_hereN {w W : World} {p q e m : Nat} {l : List Pr} {K B : Nat} (h : Here w W p q e m l K B) (hn : l.length < 100000) (x y : ByteArray) :
    Calls Try.prog 31 #[.pointer (some ⟨p, 0, none⟩), .string x, .string y] W fun e' w' => e' = .returned (.int .i64 (putB x y l K B).2) ∧ ∃ e2, HereN w W w' p q e e2 m (putB x y l K B).1 K B ∧ Turned [q, e, m] W w' :=
  (put_any h.bk hn x y).mono (by rintro e' w' ⟨h1, e2, h2⟩; exact ⟨h1, e2, ⟨h.went h2, h2.new⟩, h2.turned⟩)
theorem delete_hereN {w W : World} {p q e m : Nat} {l : List Pr} {K B : Nat} (h : Here w W p q e m l K B) (hn : l.length < 100000) (x : ByteArray) :
    Calls Try.prog 29 #[.pointer (some ⟨p, 0, none⟩), .string x] W fun e' w' => e' = .returned (.int .i64 (delB x l).2) ∧ ∃ e2, HereN w W w' p q e e2 m (delB x l).1 K B ∧ Turned [q, e, m] W w' :=
  (delete_book h.bk hn x).mono (by rintro e' w' ⟨h1, e2, h2⟩; exact ⟨h1, e2, ⟨h.went h2, h2.new⟩, h2.turned⟩)
theorem swap_hereN {w W : World} {p q e m : Nat} {l : List Pr} {K B : Nat} (h : Here w W p q e m l K B) (hn : l.length < 100000) (x o y : ByteArray) :
    Calls Try.prog 30 #[.pointer (some ⟨p, 0, none⟩), .string x, .string o, .string y] W fun e' w' => e' = .returned (.int .i64 (swapB x o y l K B).2) ∧ ∃ e2, HereN w W w' p q e e2 m (swapB x o y l K B).1 K B ∧ Turned [q, e, m] W w' :=
  (swap_any h.bk hn x o y).mono (by rintro e' w' ⟨h1, e2, h2⟩; exact ⟨h1, e2, ⟨h.went h2, h2.new⟩, h2.turned⟩)
/-- What does leaves. -/
def DoesB (w W : World) (p q e m : Nat) (K B : Nat) (v0 : Value) (l' : List Pr) (e' : Ending) (w' : World) : Prop :=
  ∃ v' e2, e' = .returned (.tuple #[rb v' K B, .bool true]) ∧ HereN w W w' p q e e2 m l' K B ∧ Turned [q, e, m] W w' ∧ SegN W w' v0 v' l'
/-- What stands at the end. -/
theorem does_end {w W W5 w6 Wz : World} {p q e g m : Nat} {L : List Pr} {K B : Nat} {v : Value} {cs : Array Value} {z : Nat} (h : HereN w W5 w6 p q e g m L K B) (t : Turned [q, e, m] W5 w6) (hS : Seg w6 v L) (hr : Fresh w6 z cs 31) (tz : Turned [z] w6 Wz) (b : Below W.heap.size W W5) (hz : W.heap.size ≤ z) (hz2 : w.heap.size ≤ z) {v0 : Value} (hv0 : ∀ g, v.ownBlock = some g → v0.ownBlock = some g ∨ W.heap.size ≤ g) :
    DoesB w W p q e m K B v0 L (.returned (.tuple #[rb v K B, .bool true])) Wz := by
  have hlt := h.bk.lt
  have hnot := h.bk.out hr (by decide) (by decide)
  have hpz : p ≠ z := by
    rintro rfl
    exact absurd (fresh_ty hr h.bk.ptr) (by decide)
  simp at hnot
  have hb : BookAt Wz p q g m L K B := h.bk.turned tz (by simpa using hpz) (by simp; exact fun x => hnot.1 x.symm) (by simp; exact fun x => hnot.2.1 x.symm) (by simp; exact fun x => hnot.2.2 x.symm)
  refine ⟨v, g, rfl, ⟨⟨hb, Turned.below (S := [z]) h.low tz (by simpa using hz2) h.low.size, h.hp, h.hq, h.he, h.hm⟩, h.new.imp id (fun x => Nat.le_trans b.size x)⟩, ?_, hS.same fun k hk => tz.block k (hS.lt hk).1 (fun x => ?_), hv0⟩
  · refine ⟨tz.os.trans (t.os.trans b.os), tz.tape.trans (t.tape.trans b.tape), tz.output.trans (t.output.trans b.output), Nat.le_trans b.size (Nat.le_trans t.size tz.size), fun k hk hn => ?_⟩
    rw [tz.block k (Nat.lt_of_lt_of_le hk (Nat.le_trans b.size t.size)) (by simp; omega), t.block k (Nat.lt_of_lt_of_le hk b.size) hn, b.block k hk]
  · simp at x
    subst x
    obtain ⟨cur, hc⟩ := (hS.lt hk).2
    exact absurd (fresh_ty hc hr) (by decide)
theorem does_del {w W : World} {p q e m : Nat} {l : List Pr} {K B : Nat} (h : Here w W p q e m l K B) {v : Value} (hS : Seg W v l) (hn : l.length < 800) (d : Dd) (hc : d.what % 6 = 3) :
    Calls Try.prog 12 #[.pointer (some ⟨p, 0, none⟩), rb v K B, d.v] W (DoesB w W p q e m K B v (actS d l K B).1) := by
  obtain ⟨a, cap, rfl, hcap, _⟩ := hS.form
  obtain ⟨W1, hW1⟩ : ∃ W1, W1 = ((W.alloc (.cells #[.slice a l.length cap, .int .u64 (K : Int), .int .u64 (B : Int)] 31)).alloc (.cells d.cs 33)).alloc (.cells #[.slice none 0 0, .int .u64 0, .int .u64 0] 31) := ⟨_, rfl⟩
  have b1 : Below W.heap.size W W1 := by rw [hW1]; exact Below.new (Below.new (Below.new (Below.refl _ _) _) _) _
  have f0 : Fresh W1 W.heap.size #[.slice a l.length cap, .int .u64 (K : Int), .int .u64 (B : Int)] 31 := by rw [hW1]; exact ((Fresh.new _ _ _ _ rfl).alloc _).alloc _
  have f1 : Fresh W1 (W.heap.size + 1) d.cs 33 := by rw [hW1]; exact (Fresh.new _ _ _ _ (by simp)).alloc _
  have f2 : Fresh W1 (W.heap.size + 2) #[.slice none 0 0, .int .u64 0, .int .u64 0] 31 := by rw [hW1]; exact Fresh.new _ _ _ _ (by simp)
  have c0 := f0.cell 0
  have c1 := f0.cell 1
  have c2 := f0.cell 2
  have d0 := f1.cell 0
  have d1 := f1.cell 1
  have d2 := f1.cell 2
  have d3 := f1.cell 3
  have d4 := f1.cell 4
  simp only [Dd.cs, List.getElem?_toArray, List.getElem?_cons_zero, List.getElem?_cons_succ] at c0 c1 c2 d0 d1 d2 d3 d4
  have HWS := Lib.hid h.low.size
  have HG := Lib.hid h.bk.good
  have HS := Lib.hid (hS.below b1)
  have HB := Lib.hid b1
  have H1 := Lib.hid (h.below b1)
  have HN := Lib.hid hn
  have HF := Lib.hid (And.intro f0 (And.intro f1 f2))
  have HP := Lib.hid (pick_any d.what 6 (by omega) (by omega) W1)
  unfold Dd.cs at hW1
  have HW1 := Lib.hid hW1
  have HR := Lib.hid (rdelete_any (hS.below b1) h.bk.good.1 h.bk.good.2 (by omega) d.key K B)
  have HD : Hid (∀ W', Below W1.heap.size W1 W' → Calls Try.prog 29 #[.pointer (some ⟨p, 0, none⟩), .string d.key] W' fun e' w' => e' = .returned (.int .i64 (delB d.key l).2) ∧ ∃ e2, HereN w W' w' p q e e2 m (delB d.key l).1 K B ∧ Turned [q, e, m] W' w') := fun W' hb => delete_hereN ((h.below b1).below hb) (by omega) d.key
  have hact : actS d l K B = delB d.key l := by unfold actS; rw [if_pos hc]
  obtain ⟨L4, E4, h4⟩ : ∃ L4 E4, delB d.key l = (L4, E4) := ⟨_, _, rfl⟩
  rw [h4] at HR hact
  rw [hact]
  simp only [h4] at HD
  have HL4 : Hid (L4.length ≤ l.length + 1) := by
    show _ ≤ _
    have := act_len d l K B
    rw [hact] at this
    exact this
  clear h hS hn b1 f0 f1 f2 hW1 hact h4 
  generalize hPost : DoesB w W p q e m K B (.slice a l.length cap) (L4, E4).1 = Post
  have HPost := Lib.hid hPost
  clear hPost
  unfold rb at HR ⊢
  unfold Dd.v
  go_enter Try.func12, Try.ntmps12
  go_upto_region 1 with fail
  rw [← HW1.out]
  go_upto_region 4 with (first
    | (go_at_call 27; refine HP.out.mono ?_; rintro e1 w1 ⟨rfl, hw1⟩; replace hw1 := hw1.symm; subst hw1)
    | (go_at_call 32; refine HR.out.mono ?_; rintro e4 w4 ⟨v4, rfl, hb4, hS4⟩; obtain ⟨a4, k4, rfl, _, _⟩ := hS4.1.form; have H4 := Lib.hid (And.intro hb4 hS4); have d1 := (hb4.cell (cell_lt d1)).trans d1; have d2 := (hb4.cell (cell_lt d2)).trans d2; have d3 := (hb4.cell (cell_lt d3)).trans d3; clear hb4 hS4))
  obtain ⟨W5, hW5⟩ : ∃ W5, W5 = w4.alloc (.cells #[.slice a4 L4.length k4, .int .u64 (K : Int), .int .u64 (B : Int)] 31) := ⟨_, rfl⟩
  rw [← hW5]
  have b5 : Below w4.heap.size w4 W5 := by rw [hW5]; exact Below.new (Below.refl _ _) _
  have X5 : Fresh W5 w4.heap.size #[.slice a4 L4.length k4, .int .u64 (K : Int), .int .u64 (B : Int)] 31 := by rw [hW5]; exact Fresh.new _ _ _ _ rfl
  have b15 := Below.step H4.out.1 b5
  have D5 := HF.out.2.1.below b15
  have R5 := HF.out.2.2.below b15
  have S5 := H4.out.2.1.below b5
  have H5 := (H1.out.below b15).below (W' := W5.drew) (Below.refl _ _).drew
  have HB5 := Lib.hid (Below.step b15 (Below.refl _ _).drew)
  have HX5 := Lib.hid (And.intro X5.drew (And.intro D5.drew (And.intro R5.drew (And.intro S5 H5))))
  obtain ⟨xb, hxb⟩ : ∃ xb, w4.heap.size = xb := ⟨_, rfl⟩
  have hne : Hid (xb ≠ W.heap.size + 2) := by
    show _ ≠ _
    rw [← hxb]
    have := HF.out.2.2.lt
    have := H4.out.1.size
    omega
  rw [hxb] at HX5 ⊢
  have HXB := Lib.hid hxb
  clear hW5 b5 X5 b15 D5 R5 S5 H5 hxb d0 d1 d2 d3 d4 c0 c1 c2
  have KS : Hid (∀ W', Fresh W' xb #[.slice a4 L4.length k4, .int .u64 (K : Int), .int .u64 (B : Int)] 31 → Fresh W' (W.heap.size + 1) d.cs 33 → W'.cell? ⟨xb, 0, none⟩ = some (.slice a4 L4.length k4) ∧ W'.cell? ⟨xb, 1, none⟩ = some (.int .u64 (K : Int)) ∧ W'.cell? ⟨xb, 2, none⟩ = some (.int .u64 (B : Int)) ∧ W'.cell? ⟨W.heap.size + 1, 1, none⟩ = some (.string d.key) ∧ W'.cell? ⟨W.heap.size + 1, 2, none⟩ = some (.string d.value) ∧ W'.cell? ⟨W.heap.size + 1, 3, none⟩ = some (.string d.old)) := fun W' hx hd => ⟨hx.cell 0, hx.cell 1, hx.cell 2, hd.cell 1, hd.cell 2, hd.cell 3⟩
  refine wp_region_held_drew (S := fun W' => W'.cell? ⟨xb, 0, none⟩ = some (.slice a4 L4.length k4) ∧ W'.cell? ⟨xb, 1, none⟩ = some (.int .u64 (K : Int)) ∧ W'.cell? ⟨xb, 2, none⟩ = some (.int .u64 (B : Int)) ∧ W'.cell? ⟨W.heap.size + 1, 1, none⟩ = some (.string d.key) ∧ W'.cell? ⟨W.heap.size + 1, 2, none⟩ = some (.string d.value) ∧ W'.cell? ⟨W.heap.size + 1, 3, none⟩ = some (.string d.old)) (by kernel_rfl) ?_ (fun hHeld => ?_)
  · (try dsimp only)
    exact KS.out _ HX5.out.1 HX5.out.2.1
  refine wpAnyH_take (i := 0) (oi := ?_) (v := ?_) ?_ (by kernel_rfl) (by kernel_rfl) (by kernel_rfl) ?_ (Or.inl ⟨?_, ?_⟩) (by assumption) ?_
  rotate_left 2
  · simp only [List.getElem?_toArray, List.getElem?_cons_succ, List.getElem?_cons_zero] <;> rfl
  · exact fun _ _ _ h => h
  · rfl
  · (intro w hSw; (try dsimp only at hSw); go_simp; try (with_reducible rfl))
  try simp only [Act.put, List.setIfInBounds_toArray, List.set_cons_zero, List.set_cons_succ]
  refine wpAnyH_take (i := 1) (oi := ?_) (v := ?_) ?_ (by kernel_rfl) (by kernel_rfl) (by kernel_rfl) ?_ (Or.inl ⟨?_, ?_⟩) (by assumption) ?_
  rotate_left 2
  · simp only [List.getElem?_toArray, List.getElem?_cons_succ, List.getElem?_cons_zero] <;> rfl
  · exact fun _ _ _ h => h
  · rfl
  · (intro w hSw; (try dsimp only at hSw); go_simp; try (with_reducible rfl))
  try simp only [Act.put, List.setIfInBounds_toArray, List.set_cons_zero, List.set_cons_succ]
  refine wpAnyH_take (i := 2) (oi := ?_) (v := ?_) ?_ (by kernel_rfl) (by kernel_rfl) (by kernel_rfl) ?_ (Or.inl ⟨?_, ?_⟩) (by assumption) ?_
  rotate_left 2
  · simp only [List.getElem?_toArray, List.getElem?_cons_succ, List.getElem?_cons_zero] <;> rfl
  · exact fun _ _ _ h => h
  · rfl
  · (intro w hSw; (try dsimp only at hSw); go_simp; try (with_reducible rfl))
  try simp only [Act.put, List.setIfInBounds_toArray, List.set_cons_zero, List.set_cons_succ]
  refine wpAnyH_take (i := 3) (oi := ?_) (v := ?_) ?_ (by kernel_rfl) (by kernel_rfl) (by kernel_rfl) ?_ (Or.inl ⟨?_, ?_⟩) (by assumption) ?_
  rotate_left 2
  · simp only [List.getElem?_toArray, List.getElem?_cons_succ, List.getElem?_cons_zero] <;> rfl
  · exact fun _ _ _ h => h
  · rfl
  · (intro w hSw; (try dsimp only at hSw); go_simp; try (with_reducible rfl))
  try simp only [Act.put, List.setIfInBounds_toArray, List.set_cons_zero, List.set_cons_succ]
  refine wpAnyH_take (i := 5) (oi := ?_) (v := ?_) ?_ (by kernel_rfl) (by kernel_rfl) (by kernel_rfl) ?_ (Or.inl ⟨?_, ?_⟩) (by assumption) ?_
  rotate_left 2
  · simp only [List.getElem?_toArray, List.getElem?_cons_succ, List.getElem?_cons_zero] <;> rfl
  · exact fun _ _ _ h => h
  · rfl
  · (intro w hSw; (try dsimp only at hSw); go_simp; try (with_reducible rfl))
  try simp only [Act.put, List.setIfInBounds_toArray, List.set_cons_zero, List.set_cons_succ]
  refine wpAnyH_ready (rs := [4]) (by kernel_rfl) (by simp) ?_
  refine AllReadyH.cons (o := _) (by simp only [List.getElem?_toArray, List.getElem?_cons_succ, List.getElem?_cons_zero] <;> rfl) (fun K hK => ?_) ?_
  · go_simp
    refine (HD.out _ HB5.out).mono ?_
    rintro e6 w6 ⟨rfl, g6, hH6, hT6⟩
    have X6 := Lib.hid (hT6.other HX5.out.1 (HX5.out.2.2.2.2.bk.out HX5.out.1 (by decide) (by decide)))
    have D6 := Lib.hid (hT6.other HX5.out.2.1 (HX5.out.2.2.2.2.bk.out HX5.out.2.1 (by decide) (by decide)))
    have R6 := Lib.hid (hT6.other HX5.out.2.2.1 (HX5.out.2.2.2.2.bk.out HX5.out.2.2.1 (by decide) (by decide)))
    have S6 := Lib.hid (Seg.turned (W := W5.drew) (HX5.out.2.2.2.1.same fun g hg => rfl) HX5.out.2.2.2.2.bk hT6)
    have H6 := Lib.hid (And.intro hH6 hT6)
    have t0 := R6.out.cell 0
    have t1 := R6.out.cell 1
    have t2 := R6.out.cell 2
    have s0 := R6.out.thawed 0
    have s1 := R6.out.thawed 1
    have s2 := R6.out.thawed 2
    simp only [List.getElem?_toArray, List.getElem?_cons_zero, List.getElem?_cons_succ] at t0 t1 t2
    clear hH6 hT6
    go_wp2_with fail
    refine hK.out _ _ ?_ (fun hHeld => ?_)
    · (try dsimp only)
      exact KS.out _ X6.out D6.out
    clear hK K
    try simp only [Act.put, List.setIfInBounds_toArray, List.set_cons_zero, List.set_cons_succ]
    refine wpAnyH_take (i := 6) (oi := ?_) (v := ?_) ?_ (by kernel_rfl) (by kernel_rfl) (by kernel_rfl) ?_ (Or.inl ⟨?_, ?_⟩) (by assumption) ?_
    rotate_left 2
    · simp only [List.getElem?_toArray, List.getElem?_cons_succ, List.getElem?_cons_zero] <;> rfl
    · exact fun _ _ _ h => h
    · rfl
    · (intro w hSw; (try dsimp only at hSw); go_simp; try (with_reducible rfl))
    try simp only [Act.put, List.setIfInBounds_toArray, List.set_cons_zero, List.set_cons_succ]
    refine wpAnyH_ready (rs := [7]) (by kernel_rfl) (by simp) ?_
    refine AllReadyH.cons (o := _) (by simp only [List.getElem?_toArray, List.getElem?_cons_succ, List.getElem?_cons_zero] <;> rfl) (fun K hK => ?_) ?_
    · go_simp
      refine hK.out _ _ ?_ (fun hHeld => ?_)
      · (try dsimp only)
        exact KS.out _ (((X6.out.other hne.out 0 _).other hne.out 1 _).other hne.out 2 _) (((D6.out.other (by omega) 0 _).other (by omega) 1 _).other (by omega) 2 _)
      clear hK K
      try simp only [Act.put, List.setIfInBounds_toArray, List.set_cons_zero, List.set_cons_succ]
      refine wpAnyH_take (i := 8) (oi := ?_) (v := ?_) ?_ (by kernel_rfl) (by kernel_rfl) (by kernel_rfl) ?_ (Or.inl ⟨?_, ?_⟩) (by assumption) ?_
      rotate_left 2
      · simp only [List.getElem?_toArray, List.getElem?_cons_succ, List.getElem?_cons_zero] <;> rfl
      · exact fun _ _ _ h => h
      · rfl
      · (intro w hSw; (try dsimp only at hSw); go_simp; try (with_reducible rfl))
      try simp only [Act.put, List.setIfInBounds_toArray, List.set_cons_zero, List.set_cons_succ]
      refine wpAnyH_done (by kernel_rfl) ?_ _
      obtain ⟨Wz, hWz⟩ : ∃ Wz, Wz = stored w6 (W.heap.size + 2) (.slice a4 L4.length k4) K B := ⟨_, rfl⟩
      have hFz := stored_box R6.out rfl (.slice a4 L4.length k4) K B
      have hTz := stored_turned w6 (W.heap.size + 2) (.slice a4 L4.length k4) K B
      rw [← hWz] at hFz hTz
      unfold stored at hWz
      change Exit.then _ _ _ _ (((w6.setCell ⟨W.heap.size + 2, 0, none⟩ _).setCell ⟨W.heap.size + 2, 1, none⟩ _).setCell ⟨W.heap.size + 2, 2, none⟩ _)
      rw [← hWz]
      have q0 := hFz.cell 0
      have q1 := hFz.cell 1
      have q2 := hFz.cell 2
      simp only [List.getElem?_toArray, List.getElem?_cons_zero, List.getElem?_cons_succ] at q0 q1 q2
      go_wp2_with fail
      refine bodyPost_ret (v := .tuple #[rb (.slice a4 L4.length k4) K B, .bool true]) (by simp [results, Try.results12, go_sem, rb, q0, q1, q2]) rfl ?_
      rw [← HPost.out]
      exact does_end H6.out.1 H6.out.2 S6.out R6.out hTz (Below.step HB.out HB5.out) (by omega) (by have := HWS.out; omega) (fun g hg => (H4.out.2.2 g hg).imp id (fun x => Nat.le_trans HB.out.size x))
    exact AllReadyH.nil
  exact AllReadyH.nil
theorem does_swap {w W : World} {p q e m : Nat} {l : List Pr} {K B : Nat} (h : Here w W p q e m l K B) {v : Value} (hS : Seg W v l) (hn : l.length < 800) (d : Dd) (hc3 : ¬ d.what % 6 = 3) (hc : d.what % 6 = 4) :
    Calls Try.prog 12 #[.pointer (some ⟨p, 0, none⟩), rb v K B, d.v] W (DoesB w W p q e m K B v (actS d l K B).1) := by
  obtain ⟨a, cap, rfl, hcap, _⟩ := hS.form
  obtain ⟨W1, hW1⟩ : ∃ W1, W1 = ((W.alloc (.cells #[.slice a l.length cap, .int .u64 (K : Int), .int .u64 (B : Int)] 31)).alloc (.cells d.cs 33)).alloc (.cells #[.slice none 0 0, .int .u64 0, .int .u64 0] 31) := ⟨_, rfl⟩
  have b1 : Below W.heap.size W W1 := by rw [hW1]; exact Below.new (Below.new (Below.new (Below.refl _ _) _) _) _
  have f0 : Fresh W1 W.heap.size #[.slice a l.length cap, .int .u64 (K : Int), .int .u64 (B : Int)] 31 := by rw [hW1]; exact ((Fresh.new _ _ _ _ rfl).alloc _).alloc _
  have f1 : Fresh W1 (W.heap.size + 1) d.cs 33 := by rw [hW1]; exact (Fresh.new _ _ _ _ (by simp)).alloc _
  have f2 : Fresh W1 (W.heap.size + 2) #[.slice none 0 0, .int .u64 0, .int .u64 0] 31 := by rw [hW1]; exact Fresh.new _ _ _ _ (by simp)
  have c0 := f0.cell 0
  have c1 := f0.cell 1
  have c2 := f0.cell 2
  have d0 := f1.cell 0
  have d1 := f1.cell 1
  have d2 := f1.cell 2
  have d3 := f1.cell 3
  have d4 := f1.cell 4
  simp only [Dd.cs, List.getElem?_toArray, List.getElem?_cons_zero, List.getElem?_cons_succ] at c0 c1 c2 d0 d1 d2 d3 d4
  have HWS := Lib.hid h.low.size
  have HG := Lib.hid h.bk.good
  have HS := Lib.hid (hS.below b1)
  have HB := Lib.hid b1
  have H1 := Lib.hid (h.below b1)
  have HN := Lib.hid hn
  have HF := Lib.hid (And.intro f0 (And.intro f1 f2))
  have HP := Lib.hid (pick_any d.what 6 (by omega) (by omega) W1)
  unfold Dd.cs at hW1
  have HW1 := Lib.hid hW1
  have HR := Lib.hid (rswap_any (hS.below b1) h.bk.good.1 h.bk.good.2 (by omega) d.key d.old d.value K B)
  have HD : Hid (∀ W', Below W1.heap.size W1 W' → Calls Try.prog 30 #[.pointer (some ⟨p, 0, none⟩), .string d.key, .string d.old, .string d.value] W' fun e' w' => e' = .returned (.int .i64 (swapB d.key d.old d.value l K B).2) ∧ ∃ e2, HereN w W' w' p q e e2 m (swapB d.key d.old d.value l K B).1 K B ∧ Turned [q, e, m] W' w') := fun W' hb => swap_hereN ((h.below b1).below hb) (by omega) d.key d.old d.value
  have hact : actS d l K B = swapB d.key d.old d.value l K B := by unfold actS; rw [if_neg hc3, if_pos hc]
  obtain ⟨L4, E4, h4⟩ : ∃ L4 E4, swapB d.key d.old d.value l K B = (L4, E4) := ⟨_, _, rfl⟩
  rw [h4] at HR hact
  rw [hact]
  simp only [h4] at HD
  have HL4 : Hid (L4.length ≤ l.length + 1) := by
    show _ ≤ _
    have := act_len d l K B
    rw [hact] at this
    exact this
  clear h hS hn b1 f0 f1 f2 hW1 hact h4 
  generalize hPost : DoesB w W p q e m K B (.slice a l.length cap) (L4, E4).1 = Post
  have HPost := Lib.hid hPost
  clear hPost
  unfold rb at HR ⊢
  unfold Dd.v
  go_enter Try.func12, Try.ntmps12
  go_upto_region 1 with fail
  rw [← HW1.out]
  go_upto_region 7 with (first
    | (go_at_call 27; refine HP.out.mono ?_; rintro e1 w1 ⟨rfl, hw1⟩; replace hw1 := hw1.symm; subst hw1)
    | (go_at_call 33; refine HR.out.mono ?_; rintro e4 w4 ⟨v4, rfl, hb4, hS4⟩; obtain ⟨a4, k4, rfl, _, _⟩ := hS4.1.form; have H4 := Lib.hid (And.intro hb4 hS4); have d1 := (hb4.cell (cell_lt d1)).trans d1; have d2 := (hb4.cell (cell_lt d2)).trans d2; have d3 := (hb4.cell (cell_lt d3)).trans d3; clear hb4 hS4))
  obtain ⟨W5, hW5⟩ : ∃ W5, W5 = w4.alloc (.cells #[.slice a4 L4.length k4, .int .u64 (K : Int), .int .u64 (B : Int)] 31) := ⟨_, rfl⟩
  rw [← hW5]
  have b5 : Below w4.heap.size w4 W5 := by rw [hW5]; exact Below.new (Below.refl _ _) _
  have X5 : Fresh W5 w4.heap.size #[.slice a4 L4.length k4, .int .u64 (K : Int), .int .u64 (B : Int)] 31 := by rw [hW5]; exact Fresh.new _ _ _ _ rfl
  have b15 := Below.step H4.out.1 b5
  have D5 := HF.out.2.1.below b15
  have R5 := HF.out.2.2.below b15
  have S5 := H4.out.2.1.below b5
  have H5 := (H1.out.below b15).below (W' := W5.drew) (Below.refl _ _).drew
  have HB5 := Lib.hid (Below.step b15 (Below.refl _ _).drew)
  have HX5 := Lib.hid (And.intro X5.drew (And.intro D5.drew (And.intro R5.drew (And.intro S5 H5))))
  obtain ⟨xb, hxb⟩ : ∃ xb, w4.heap.size = xb := ⟨_, rfl⟩
  have hne : Hid (xb ≠ W.heap.size + 2) := by
    show _ ≠ _
    rw [← hxb]
    have := HF.out.2.2.lt
    have := H4.out.1.size
    omega
  rw [hxb] at HX5 ⊢
  have HXB := Lib.hid hxb
  clear hW5 b5 X5 b15 D5 R5 S5 H5 hxb d0 d1 d2 d3 d4 c0 c1 c2
  have KS : Hid (∀ W', Fresh W' xb #[.slice a4 L4.length k4, .int .u64 (K : Int), .int .u64 (B : Int)] 31 → Fresh W' (W.heap.size + 1) d.cs 33 → W'.cell? ⟨xb, 0, none⟩ = some (.slice a4 L4.length k4) ∧ W'.cell? ⟨xb, 1, none⟩ = some (.int .u64 (K : Int)) ∧ W'.cell? ⟨xb, 2, none⟩ = some (.int .u64 (B : Int)) ∧ W'.cell? ⟨W.heap.size + 1, 1, none⟩ = some (.string d.key) ∧ W'.cell? ⟨W.heap.size + 1, 2, none⟩ = some (.string d.value) ∧ W'.cell? ⟨W.heap.size + 1, 3, none⟩ = some (.string d.old)) := fun W' hx hd => ⟨hx.cell 0, hx.cell 1, hx.cell 2, hd.cell 1, hd.cell 2, hd.cell 3⟩
  refine wp_region_held_drew (S := fun W' => W'.cell? ⟨xb, 0, none⟩ = some (.slice a4 L4.length k4) ∧ W'.cell? ⟨xb, 1, none⟩ = some (.int .u64 (K : Int)) ∧ W'.cell? ⟨xb, 2, none⟩ = some (.int .u64 (B : Int)) ∧ W'.cell? ⟨W.heap.size + 1, 1, none⟩ = some (.string d.key) ∧ W'.cell? ⟨W.heap.size + 1, 2, none⟩ = some (.string d.value) ∧ W'.cell? ⟨W.heap.size + 1, 3, none⟩ = some (.string d.old)) (by kernel_rfl) ?_ (fun hHeld => ?_)
  · (try dsimp only)
    exact KS.out _ HX5.out.1 HX5.out.2.1
  refine wpAnyH_take (i := 0) (oi := ?_) (v := ?_) ?_ (by kernel_rfl) (by kernel_rfl) (by kernel_rfl) ?_ (Or.inl ⟨?_, ?_⟩) (by assumption) ?_
  rotate_left 2
  · simp only [List.getElem?_toArray, List.getElem?_cons_succ, List.getElem?_cons_zero] <;> rfl
  · exact fun _ _ _ h => h
  · rfl
  · (intro w hSw; (try dsimp only at hSw); go_simp; try (with_reducible rfl))
  try simp only [Act.put, List.setIfInBounds_toArray, List.set_cons_zero, List.set_cons_succ]
  refine wpAnyH_take (i := 1) (oi := ?_) (v := ?_) ?_ (by kernel_rfl) (by kernel_rfl) (by kernel_rfl) ?_ (Or.inl ⟨?_, ?_⟩) (by assumption) ?_
  rotate_left 2
  · simp only [List.getElem?_toArray, List.getElem?_cons_succ, List.getElem?_cons_zero] <;> rfl
  · exact fun _ _ _ h => h
  · rfl
  · (intro w hSw; (try dsimp only at hSw); go_simp; try (with_reducible rfl))
  try simp only [Act.put, List.setIfInBounds_toArray, List.set_cons_zero, List.set_cons_succ]
  refine wpAnyH_take (i := 2) (oi := ?_) (v := ?_) ?_ (by kernel_rfl) (by kernel_rfl) (by kernel_rfl) ?_ (Or.inl ⟨?_, ?_⟩) (by assumption) ?_
  rotate_left 2
  · simp only [List.getElem?_toArray, List.getElem?_cons_succ, List.getElem?_cons_zero] <;> rfl
  · exact fun _ _ _ h => h
  · rfl
  · (intro w hSw; (try dsimp only at hSw); go_simp; try (with_reducible rfl))
  try simp only [Act.put, List.setIfInBounds_toArray, List.set_cons_zero, List.set_cons_succ]
  refine wpAnyH_take (i := 3) (oi := ?_) (v := ?_) ?_ (by kernel_rfl) (by kernel_rfl) (by kernel_rfl) ?_ (Or.inl ⟨?_, ?_⟩) (by assumption) ?_
  rotate_left 2
  · simp only [List.getElem?_toArray, List.getElem?_cons_succ, List.getElem?_cons_zero] <;> rfl
  · exact fun _ _ _ h => h
  · rfl
  · (intro w hSw; (try dsimp only at hSw); go_simp; try (with_reducible rfl))
  try simp only [Act.put, List.setIfInBounds_toArray, List.set_cons_zero, List.set_cons_succ]
  refine wpAnyH_take (i := 4) (oi := ?_) (v := ?_) ?_ (by kernel_rfl) (by kernel_rfl) (by kernel_rfl) ?_ (Or.inl ⟨?_, ?_⟩) (by assumption) ?_
  rotate_left 2
  · simp only [List.getElem?_toArray, List.getElem?_cons_succ, List.getElem?_cons_zero] <;> rfl
  · exact fun _ _ _ h => h
  · rfl
  · (intro w hSw; (try dsimp only at hSw); go_simp; try (with_reducible rfl))
  try simp only [Act.put, List.setIfInBounds_toArray, List.set_cons_zero, List.set_cons_succ]
  refine wpAnyH_take (i := 5) (oi := ?_) (v := ?_) ?_ (by kernel_rfl) (by kernel_rfl) (by kernel_rfl) ?_ (Or.inl ⟨?_, ?_⟩) (by assumption) ?_
  rotate_left 2
  · simp only [List.getElem?_toArray, List.getElem?_cons_succ, List.getElem?_cons_zero] <;> rfl
  · exact fun _ _ _ h => h
  · rfl
  · (intro w hSw; (try dsimp only at hSw); go_simp; try (with_reducible rfl))
  try simp only [Act.put, List.setIfInBounds_toArray, List.set_cons_zero, List.set_cons_succ]
  refine wpAnyH_take (i := 6) (oi := ?_) (v := ?_) ?_ (by kernel_rfl) (by kernel_rfl) (by kernel_rfl) ?_ (Or.inl ⟨?_, ?_⟩) (by assumption) ?_
  rotate_left 2
  · simp only [List.getElem?_toArray, List.getElem?_cons_succ, List.getElem?_cons_zero] <;> rfl
  · exact fun _ _ _ h => h
  · rfl
  · (intro w hSw; (try dsimp only at hSw); go_simp; try (with_reducible rfl))
  try simp only [Act.put, List.setIfInBounds_toArray, List.set_cons_zero, List.set_cons_succ]
  refine wpAnyH_take (i := 7) (oi := ?_) (v := ?_) ?_ (by kernel_rfl) (by kernel_rfl) (by kernel_rfl) ?_ (Or.inl ⟨?_, ?_⟩) (by assumption) ?_
  rotate_left 2
  · simp only [List.getElem?_toArray, List.getElem?_cons_succ, List.getElem?_cons_zero] <;> rfl
  · exact fun _ _ _ h => h
  · rfl
  · (intro w hSw; (try dsimp only at hSw); go_simp; try (with_reducible rfl))
  try simp only [Act.put, List.setIfInBounds_toArray, List.set_cons_zero, List.set_cons_succ]
  refine wpAnyH_take (i := 9) (oi := ?_) (v := ?_) ?_ (by kernel_rfl) (by kernel_rfl) (by kernel_rfl) ?_ (Or.inl ⟨?_, ?_⟩) (by assumption) ?_
  rotate_left 2
  · simp only [List.getElem?_toArray, List.getElem?_cons_succ, List.getElem?_cons_zero] <;> rfl
  · exact fun _ _ _ h => h
  · rfl
  · (intro w hSw; (try dsimp only at hSw); go_simp; try (with_reducible rfl))
  try simp only [Act.put, List.setIfInBounds_toArray, List.set_cons_zero, List.set_cons_succ]
  refine wpAnyH_ready (rs := [8]) (by kernel_rfl) (by simp) ?_
  refine AllReadyH.cons (o := _) (by simp only [List.getElem?_toArray, List.getElem?_cons_succ, List.getElem?_cons_zero] <;> rfl) (fun K hK => ?_) ?_
  · go_simp
    refine (HD.out _ HB5.out).mono ?_
    rintro e6 w6 ⟨rfl, g6, hH6, hT6⟩
    have X6 := Lib.hid (hT6.other HX5.out.1 (HX5.out.2.2.2.2.bk.out HX5.out.1 (by decide) (by decide)))
    have D6 := Lib.hid (hT6.other HX5.out.2.1 (HX5.out.2.2.2.2.bk.out HX5.out.2.1 (by decide) (by decide)))
    have R6 := Lib.hid (hT6.other HX5.out.2.2.1 (HX5.out.2.2.2.2.bk.out HX5.out.2.2.1 (by decide) (by decide)))
    have S6 := Lib.hid (Seg.turned (W := W5.drew) (HX5.out.2.2.2.1.same fun g hg => rfl) HX5.out.2.2.2.2.bk hT6)
    have H6 := Lib.hid (And.intro hH6 hT6)
    have t0 := R6.out.cell 0
    have t1 := R6.out.cell 1
    have t2 := R6.out.cell 2
    have s0 := R6.out.thawed 0
    have s1 := R6.out.thawed 1
    have s2 := R6.out.thawed 2
    simp only [List.getElem?_toArray, List.getElem?_cons_zero, List.getElem?_cons_succ] at t0 t1 t2
    clear hH6 hT6
    go_wp2_with fail
    refine hK.out _ _ ?_ (fun hHeld => ?_)
    · (try dsimp only)
      exact KS.out _ X6.out D6.out
    clear hK K
    try simp only [Act.put, List.setIfInBounds_toArray, List.set_cons_zero, List.set_cons_succ]
    refine wpAnyH_take (i := 10) (oi := ?_) (v := ?_) ?_ (by kernel_rfl) (by kernel_rfl) (by kernel_rfl) ?_ (Or.inl ⟨?_, ?_⟩) (by assumption) ?_
    rotate_left 2
    · simp only [List.getElem?_toArray, List.getElem?_cons_succ, List.getElem?_cons_zero] <;> rfl
    · exact fun _ _ _ h => h
    · rfl
    · (intro w hSw; (try dsimp only at hSw); go_simp; try (with_reducible rfl))
    try simp only [Act.put, List.setIfInBounds_toArray, List.set_cons_zero, List.set_cons_succ]
    refine wpAnyH_ready (rs := [11]) (by kernel_rfl) (by simp) ?_
    refine AllReadyH.cons (o := _) (by simp only [List.getElem?_toArray, List.getElem?_cons_succ, List.getElem?_cons_zero] <;> rfl) (fun K hK => ?_) ?_
    · go_simp
      refine hK.out _ _ ?_ (fun hHeld => ?_)
      · (try dsimp only)
        exact KS.out _ (((X6.out.other hne.out 0 _).other hne.out 1 _).other hne.out 2 _) (((D6.out.other (by omega) 0 _).other (by omega) 1 _).other (by omega) 2 _)
      clear hK K
      try simp only [Act.put, List.setIfInBounds_toArray, List.set_cons_zero, List.set_cons_succ]
      refine wpAnyH_take (i := 12) (oi := ?_) (v := ?_) ?_ (by kernel_rfl) (by kernel_rfl) (by kernel_rfl) ?_ (Or.inl ⟨?_, ?_⟩) (by assumption) ?_
      rotate_left 2
      · simp only [List.getElem?_toArray, List.getElem?_cons_succ, List.getElem?_cons_zero] <;> rfl
      · exact fun _ _ _ h => h
      · rfl
      · (intro w hSw; (try dsimp only at hSw); go_simp; try (with_reducible rfl))
      try simp only [Act.put, List.setIfInBounds_toArray, List.set_cons_zero, List.set_cons_succ]
      refine wpAnyH_done (by kernel_rfl) ?_ _
      obtain ⟨Wz, hWz⟩ : ∃ Wz, Wz = stored w6 (W.heap.size + 2) (.slice a4 L4.length k4) K B := ⟨_, rfl⟩
      have hFz := stored_box R6.out rfl (.slice a4 L4.length k4) K B
      have hTz := stored_turned w6 (W.heap.size + 2) (.slice a4 L4.length k4) K B
      rw [← hWz] at hFz hTz
      unfold stored at hWz
      change Exit.then _ _ _ _ (((w6.setCell ⟨W.heap.size + 2, 0, none⟩ _).setCell ⟨W.heap.size + 2, 1, none⟩ _).setCell ⟨W.heap.size + 2, 2, none⟩ _)
      rw [← hWz]
      have q0 := hFz.cell 0
      have q1 := hFz.cell 1
      have q2 := hFz.cell 2
      simp only [List.getElem?_toArray, List.getElem?_cons_zero, List.getElem?_cons_succ] at q0 q1 q2
      go_wp2_with fail
      refine bodyPost_ret (v := .tuple #[rb (.slice a4 L4.length k4) K B, .bool true]) (by simp [results, Try.results12, go_sem, rb, q0, q1, q2]) rfl ?_
      rw [← HPost.out]
      exact does_end H6.out.1 H6.out.2 S6.out R6.out hTz (Below.step HB.out HB5.out) (by omega) (by have := HWS.out; omega) (fun g hg => (H4.out.2.2 g hg).imp id (fun x => Nat.le_trans HB.out.size x))
    exact AllReadyH.nil
  exact AllReadyH.nil
theorem does_put {w W : World} {p q e m : Nat} {l : List Pr} {K B : Nat} (h : Here w W p q e m l K B) {v : Value} (hS : Seg W v l) (hn : l.length < 800) (d : Dd) (hc3 : ¬ d.what % 6 = 3) (hc4 : ¬ d.what % 6 = 4) (hc : ¬ d.what % 6 = 5) :
    Calls Try.prog 12 #[.pointer (some ⟨p, 0, none⟩), rb v K B, d.v] W (DoesB w W p q e m K B v (actS d l K B).1) := by
  obtain ⟨a, cap, rfl, hcap, _⟩ := hS.form
  obtain ⟨W1, hW1⟩ : ∃ W1, W1 = ((W.alloc (.cells #[.slice a l.length cap, .int .u64 (K : Int), .int .u64 (B : Int)] 31)).alloc (.cells d.cs 33)).alloc (.cells #[.slice none 0 0, .int .u64 0, .int .u64 0] 31) := ⟨_, rfl⟩
  have b1 : Below W.heap.size W W1 := by rw [hW1]; exact Below.new (Below.new (Below.new (Below.refl _ _) _) _) _
  have f0 : Fresh W1 W.heap.size #[.slice a l.length cap, .int .u64 (K : Int), .int .u64 (B : Int)] 31 := by rw [hW1]; exact ((Fresh.new _ _ _ _ rfl).alloc _).alloc _
  have f1 : Fresh W1 (W.heap.size + 1) d.cs 33 := by rw [hW1]; exact (Fresh.new _ _ _ _ (by simp)).alloc _
  have f2 : Fresh W1 (W.heap.size + 2) #[.slice none 0 0, .int .u64 0, .int .u64 0] 31 := by rw [hW1]; exact Fresh.new _ _ _ _ (by simp)
  have c0 := f0.cell 0
  have c1 := f0.cell 1
  have c2 := f0.cell 2
  have d0 := f1.cell 0
  have d1 := f1.cell 1
  have d2 := f1.cell 2
  have d3 := f1.cell 3
  have d4 := f1.cell 4
  simp only [Dd.cs, List.getElem?_toArray, List.getElem?_cons_zero, List.getElem?_cons_succ] at c0 c1 c2 d0 d1 d2 d3 d4
  have HWS := Lib.hid h.low.size
  have HG := Lib.hid h.bk.good
  have HS := Lib.hid (hS.below b1)
  have HB := Lib.hid b1
  have H1 := Lib.hid (h.below b1)
  have HN := Lib.hid hn
  have HF := Lib.hid (And.intro f0 (And.intro f1 f2))
  have HP := Lib.hid (pick_any d.what 6 (by omega) (by omega) W1)
  unfold Dd.cs at hW1
  have HW1 := Lib.hid hW1
  have HR := Lib.hid (rput_any (hS.below b1) h.bk.good.1 h.bk.good.2 (by omega) d.key d.value K B)
  have HD : Hid (∀ W', Below W1.heap.size W1 W' → Calls Try.prog 31 #[.pointer (some ⟨p, 0, none⟩), .string d.key, .string d.value] W' fun e' w' => e' = .returned (.int .i64 (putB d.key d.value l K B).2) ∧ ∃ e2, HereN w W' w' p q e e2 m (putB d.key d.value l K B).1 K B ∧ Turned [q, e, m] W' w') := fun W' hb => put_hereN ((h.below b1).below hb) (by omega) d.key d.value
  have hact : actS d l K B = putB d.key d.value l K B := by unfold actS; rw [if_neg hc3, if_neg hc4, if_neg hc]
  obtain ⟨L4, E4, h4⟩ : ∃ L4 E4, putB d.key d.value l K B = (L4, E4) := ⟨_, _, rfl⟩
  rw [h4] at HR hact
  rw [hact]
  simp only [h4] at HD
  have HL4 : Hid (L4.length ≤ l.length + 1) := by
    show _ ≤ _
    have := act_len d l K B
    rw [hact] at this
    exact this
  clear h hS hn b1 f0 f1 f2 hW1 hact h4 
  generalize hPost : DoesB w W p q e m K B (.slice a l.length cap) (L4, E4).1 = Post
  have HPost := Lib.hid hPost
  clear hPost
  unfold rb at HR ⊢
  unfold Dd.v
  go_enter Try.func12, Try.ntmps12
  go_upto_region 1 with fail
  rw [← HW1.out]
  go_upto_region 13 with (first
    | (go_at_call 27; refine HP.out.mono ?_; rintro e1 w1 ⟨rfl, hw1⟩; replace hw1 := hw1.symm; subst hw1)
    | (go_at_call 34; refine HR.out.mono ?_; rintro e4 w4 ⟨v4, rfl, hb4, hS4⟩; obtain ⟨a4, k4, rfl, _, _⟩ := hS4.1.form; have H4 := Lib.hid (And.intro hb4 hS4); have d1 := (hb4.cell (cell_lt d1)).trans d1; have d2 := (hb4.cell (cell_lt d2)).trans d2; have d3 := (hb4.cell (cell_lt d3)).trans d3; clear hb4 hS4))
  obtain ⟨W5, hW5⟩ : ∃ W5, W5 = w4.alloc (.cells #[.slice a4 L4.length k4, .int .u64 (K : Int), .int .u64 (B : Int)] 31) := ⟨_, rfl⟩
  rw [← hW5]
  have b5 : Below w4.heap.size w4 W5 := by rw [hW5]; exact Below.new (Below.refl _ _) _
  have X5 : Fresh W5 w4.heap.size #[.slice a4 L4.length k4, .int .u64 (K : Int), .int .u64 (B : Int)] 31 := by rw [hW5]; exact Fresh.new _ _ _ _ rfl
  have b15 := Below.step H4.out.1 b5
  have D5 := HF.out.2.1.below b15
  have R5 := HF.out.2.2.below b15
  have S5 := H4.out.2.1.below b5
  have H5 := (H1.out.below b15).below (W' := W5.drew) (Below.refl _ _).drew
  have HB5 := Lib.hid (Below.step b15 (Below.refl _ _).drew)
  have HX5 := Lib.hid (And.intro X5.drew (And.intro D5.drew (And.intro R5.drew (And.intro S5 H5))))
  obtain ⟨xb, hxb⟩ : ∃ xb, w4.heap.size = xb := ⟨_, rfl⟩
  have hne : Hid (xb ≠ W.heap.size + 2) := by
    show _ ≠ _
    rw [← hxb]
    have := HF.out.2.2.lt
    have := H4.out.1.size
    omega
  rw [hxb] at HX5 ⊢
  have HXB := Lib.hid hxb
  clear hW5 b5 X5 b15 D5 R5 S5 H5 hxb d0 d1 d2 d3 d4 c0 c1 c2
  have KS : Hid (∀ W', Fresh W' xb #[.slice a4 L4.length k4, .int .u64 (K : Int), .int .u64 (B : Int)] 31 → Fresh W' (W.heap.size + 1) d.cs 33 → W'.cell? ⟨xb, 0, none⟩ = some (.slice a4 L4.length k4) ∧ W'.cell? ⟨xb, 1, none⟩ = some (.int .u64 (K : Int)) ∧ W'.cell? ⟨xb, 2, none⟩ = some (.int .u64 (B : Int)) ∧ W'.cell? ⟨W.heap.size + 1, 1, none⟩ = some (.string d.key) ∧ W'.cell? ⟨W.heap.size + 1, 2, none⟩ = some (.string d.value) ∧ W'.cell? ⟨W.heap.size + 1, 3, none⟩ = some (.string d.old)) := fun W' hx hd => ⟨hx.cell 0, hx.cell 1, hx.cell 2, hd.cell 1, hd.cell 2, hd.cell 3⟩
  refine wp_region_held_drew (S := fun W' => W'.cell? ⟨xb, 0, none⟩ = some (.slice a4 L4.length k4) ∧ W'.cell? ⟨xb, 1, none⟩ = some (.int .u64 (K : Int)) ∧ W'.cell? ⟨xb, 2, none⟩ = some (.int .u64 (B : Int)) ∧ W'.cell? ⟨W.heap.size + 1, 1, none⟩ = some (.string d.key) ∧ W'.cell? ⟨W.heap.size + 1, 2, none⟩ = some (.string d.value) ∧ W'.cell? ⟨W.heap.size + 1, 3, none⟩ = some (.string d.old)) (by kernel_rfl) ?_ (fun hHeld => ?_)
  · (try dsimp only)
    exact KS.out _ HX5.out.1 HX5.out.2.1
  refine wpAnyH_take (i := 0) (oi := ?_) (v := ?_) ?_ (by kernel_rfl) (by kernel_rfl) (by kernel_rfl) ?_ (Or.inl ⟨?_, ?_⟩) (by assumption) ?_
  rotate_left 2
  · simp only [List.getElem?_toArray, List.getElem?_cons_succ, List.getElem?_cons_zero] <;> rfl
  · exact fun _ _ _ h => h
  · rfl
  · (intro w hSw; (try dsimp only at hSw); go_simp; try (with_reducible rfl))
  try simp only [Act.put, List.setIfInBounds_toArray, List.set_cons_zero, List.set_cons_succ]
  refine wpAnyH_take (i := 1) (oi := ?_) (v := ?_) ?_ (by kernel_rfl) (by kernel_rfl) (by kernel_rfl) ?_ (Or.inl ⟨?_, ?_⟩) (by assumption) ?_
  rotate_left 2
  · simp only [List.getElem?_toArray, List.getElem?_cons_succ, List.getElem?_cons_zero] <;> rfl
  · exact fun _ _ _ h => h
  · rfl
  · (intro w hSw; (try dsimp only at hSw); go_simp; try (with_reducible rfl))
  try simp only [Act.put, List.setIfInBounds_toArray, List.set_cons_zero, List.set_cons_succ]
  refine wpAnyH_take (i := 2) (oi := ?_) (v := ?_) ?_ (by kernel_rfl) (by kernel_rfl) (by kernel_rfl) ?_ (Or.inl ⟨?_, ?_⟩) (by assumption) ?_
  rotate_left 2
  · simp only [List.getElem?_toArray, List.getElem?_cons_succ, List.getElem?_cons_zero] <;> rfl
  · exact fun _ _ _ h => h
  · rfl
  · (intro w hSw; (try dsimp only at hSw); go_simp; try (with_reducible rfl))
  try simp only [Act.put, List.setIfInBounds_toArray, List.set_cons_zero, List.set_cons_succ]
  refine wpAnyH_take (i := 3) (oi := ?_) (v := ?_) ?_ (by kernel_rfl) (by kernel_rfl) (by kernel_rfl) ?_ (Or.inl ⟨?_, ?_⟩) (by assumption) ?_
  rotate_left 2
  · simp only [List.getElem?_toArray, List.getElem?_cons_succ, List.getElem?_cons_zero] <;> rfl
  · exact fun _ _ _ h => h
  · rfl
  · (intro w hSw; (try dsimp only at hSw); go_simp; try (with_reducible rfl))
  try simp only [Act.put, List.setIfInBounds_toArray, List.set_cons_zero, List.set_cons_succ]
  refine wpAnyH_take (i := 4) (oi := ?_) (v := ?_) ?_ (by kernel_rfl) (by kernel_rfl) (by kernel_rfl) ?_ (Or.inl ⟨?_, ?_⟩) (by assumption) ?_
  rotate_left 2
  · simp only [List.getElem?_toArray, List.getElem?_cons_succ, List.getElem?_cons_zero] <;> rfl
  · exact fun _ _ _ h => h
  · rfl
  · (intro w hSw; (try dsimp only at hSw); go_simp; try (with_reducible rfl))
  try simp only [Act.put, List.setIfInBounds_toArray, List.set_cons_zero, List.set_cons_succ]
  refine wpAnyH_take (i := 5) (oi := ?_) (v := ?_) ?_ (by kernel_rfl) (by kernel_rfl) (by kernel_rfl) ?_ (Or.inl ⟨?_, ?_⟩) (by assumption) ?_
  rotate_left 2
  · simp only [List.getElem?_toArray, List.getElem?_cons_succ, List.getElem?_cons_zero] <;> rfl
  · exact fun _ _ _ h => h
  · rfl
  · (intro w hSw; (try dsimp only at hSw); go_simp; try (with_reducible rfl))
  try simp only [Act.put, List.setIfInBounds_toArray, List.set_cons_zero, List.set_cons_succ]
  refine wpAnyH_take (i := 7) (oi := ?_) (v := ?_) ?_ (by kernel_rfl) (by kernel_rfl) (by kernel_rfl) ?_ (Or.inl ⟨?_, ?_⟩) (by assumption) ?_
  rotate_left 2
  · simp only [List.getElem?_toArray, List.getElem?_cons_succ, List.getElem?_cons_zero] <;> rfl
  · exact fun _ _ _ h => h
  · rfl
  · (intro w hSw; (try dsimp only at hSw); go_simp; try (with_reducible rfl))
  try simp only [Act.put, List.setIfInBounds_toArray, List.set_cons_zero, List.set_cons_succ]
  refine wpAnyH_ready (rs := [6]) (by kernel_rfl) (by simp) ?_
  refine AllReadyH.cons (o := _) (by simp only [List.getElem?_toArray, List.getElem?_cons_succ, List.getElem?_cons_zero] <;> rfl) (fun K hK => ?_) ?_
  · go_simp
    refine (HD.out _ HB5.out).mono ?_
    rintro e6 w6 ⟨rfl, g6, hH6, hT6⟩
    have X6 := Lib.hid (hT6.other HX5.out.1 (HX5.out.2.2.2.2.bk.out HX5.out.1 (by decide) (by decide)))
    have D6 := Lib.hid (hT6.other HX5.out.2.1 (HX5.out.2.2.2.2.bk.out HX5.out.2.1 (by decide) (by decide)))
    have R6 := Lib.hid (hT6.other HX5.out.2.2.1 (HX5.out.2.2.2.2.bk.out HX5.out.2.2.1 (by decide) (by decide)))
    have S6 := Lib.hid (Seg.turned (W := W5.drew) (HX5.out.2.2.2.1.same fun g hg => rfl) HX5.out.2.2.2.2.bk hT6)
    have H6 := Lib.hid (And.intro hH6 hT6)
    have t0 := R6.out.cell 0
    have t1 := R6.out.cell 1
    have t2 := R6.out.cell 2
    have s0 := R6.out.thawed 0
    have s1 := R6.out.thawed 1
    have s2 := R6.out.thawed 2
    simp only [List.getElem?_toArray, List.getElem?_cons_zero, List.getElem?_cons_succ] at t0 t1 t2
    clear hH6 hT6
    go_wp2_with fail
    refine hK.out _ _ ?_ (fun hHeld => ?_)
    · (try dsimp only)
      exact KS.out _ X6.out D6.out
    clear hK K
    try simp only [Act.put, List.setIfInBounds_toArray, List.set_cons_zero, List.set_cons_succ]
    refine wpAnyH_take (i := 8) (oi := ?_) (v := ?_) ?_ (by kernel_rfl) (by kernel_rfl) (by kernel_rfl) ?_ (Or.inl ⟨?_, ?_⟩) (by assumption) ?_
    rotate_left 2
    · simp only [List.getElem?_toArray, List.getElem?_cons_succ, List.getElem?_cons_zero] <;> rfl
    · exact fun _ _ _ h => h
    · rfl
    · (intro w hSw; (try dsimp only at hSw); go_simp; try (with_reducible rfl))
    try simp only [Act.put, List.setIfInBounds_toArray, List.set_cons_zero, List.set_cons_succ]
    refine wpAnyH_ready (rs := [9]) (by kernel_rfl) (by simp) ?_
    refine AllReadyH.cons (o := _) (by simp only [List.getElem?_toArray, List.getElem?_cons_succ, List.getElem?_cons_zero] <;> rfl) (fun K hK => ?_) ?_
    · go_simp
      refine hK.out _ _ ?_ (fun hHeld => ?_)
      · (try dsimp only)
        exact KS.out _ (((X6.out.other hne.out 0 _).other hne.out 1 _).other hne.out 2 _) (((D6.out.other (by omega) 0 _).other (by omega) 1 _).other (by omega) 2 _)
      clear hK K
      try simp only [Act.put, List.setIfInBounds_toArray, List.set_cons_zero, List.set_cons_succ]
      refine wpAnyH_take (i := 10) (oi := ?_) (v := ?_) ?_ (by kernel_rfl) (by kernel_rfl) (by kernel_rfl) ?_ (Or.inl ⟨?_, ?_⟩) (by assumption) ?_
      rotate_left 2
      · simp only [List.getElem?_toArray, List.getElem?_cons_succ, List.getElem?_cons_zero] <;> rfl
      · exact fun _ _ _ h => h
      · rfl
      · (intro w hSw; (try dsimp only at hSw); go_simp; try (with_reducible rfl))
      try simp only [Act.put, List.setIfInBounds_toArray, List.set_cons_zero, List.set_cons_succ]
      refine wpAnyH_done (by kernel_rfl) ?_ _
      obtain ⟨Wz, hWz⟩ : ∃ Wz, Wz = stored w6 (W.heap.size + 2) (.slice a4 L4.length k4) K B := ⟨_, rfl⟩
      have hFz := stored_box R6.out rfl (.slice a4 L4.length k4) K B
      have hTz := stored_turned w6 (W.heap.size + 2) (.slice a4 L4.length k4) K B
      rw [← hWz] at hFz hTz
      unfold stored at hWz
      change Exit.then _ _ _ _ (((w6.setCell ⟨W.heap.size + 2, 0, none⟩ _).setCell ⟨W.heap.size + 2, 1, none⟩ _).setCell ⟨W.heap.size + 2, 2, none⟩ _)
      rw [← hWz]
      have q0 := hFz.cell 0
      have q1 := hFz.cell 1
      have q2 := hFz.cell 2
      simp only [List.getElem?_toArray, List.getElem?_cons_zero, List.getElem?_cons_succ] at q0 q1 q2
      go_wp2_with fail
      refine bodyPost_ret (v := .tuple #[rb (.slice a4 L4.length k4) K B, .bool true]) (by simp [results, Try.results12, go_sem, rb, q0, q1, q2]) rfl ?_
      rw [← HPost.out]
      exact does_end H6.out.1 H6.out.2 S6.out R6.out hTz (Below.step HB.out HB5.out) (by omega) (by have := HWS.out; omega) (fun g hg => (H4.out.2.2 g hg).imp id (fun x => Nat.le_trans HB.out.size x))
    exact AllReadyH.nil
  exact AllReadyH.nil
theorem does_scan {w W : World} {p q e m : Nat} {l : List Pr} {K B : Nat} (h : Here w W p q e m l K B) {v : Value} (hS : Seg W v l) (hn : l.length < 800) (d : Dd) (hc : d.what % 6 = 5) :
    Calls Try.prog 12 #[.pointer (some ⟨p, 0, none⟩), rb v K B, d.v] W (DoesB w W p q e m K B v l) := by
  obtain ⟨a, cap, rfl, hcap, _⟩ := hS.form
  obtain ⟨W1, hW1⟩ : ∃ W1, W1 = ((W.alloc (.cells #[.slice a l.length cap, .int .u64 (K : Int), .int .u64 (B : Int)] 31)).alloc (.cells d.cs 33)).alloc (.cells #[.slice none 0 0, .int .u64 0, .int .u64 0] 31) := ⟨_, rfl⟩
  have b1 : Below W.heap.size W W1 := by rw [hW1]; exact Below.new (Below.new (Below.new (Below.refl _ _) _) _) _
  have f0 : Fresh W1 W.heap.size #[.slice a l.length cap, .int .u64 (K : Int), .int .u64 (B : Int)] 31 := by rw [hW1]; exact ((Fresh.new _ _ _ _ rfl).alloc _).alloc _
  have f1 : Fresh W1 (W.heap.size + 1) d.cs 33 := by rw [hW1]; exact (Fresh.new _ _ _ _ (by simp)).alloc _
  have f2 : Fresh W1 (W.heap.size + 2) #[.slice none 0 0, .int .u64 0, .int .u64 0] 31 := by rw [hW1]; exact Fresh.new _ _ _ _ (by simp)
  have c0 := f0.cell 0
  have c1 := f0.cell 1
  have c2 := f0.cell 2
  have d0 := f1.cell 0
  have d1 := f1.cell 1
  have d2 := f1.cell 2
  have d3 := f1.cell 3
  have d4 := f1.cell 4
  simp only [Dd.cs, List.getElem?_toArray, List.getElem?_cons_zero, List.getElem?_cons_succ] at c0 c1 c2 d0 d1 d2 d3 d4
  have HWS := Lib.hid h.low.size
  have HG := Lib.hid h.bk.good
  have HS := Lib.hid (hS.below b1)
  have HB := Lib.hid b1
  have H1 := Lib.hid (h.below b1)
  have HN := Lib.hid hn
  have HF := Lib.hid (And.intro f0 (And.intro f1 f2))
  have HP := Lib.hid (pick_any d.what 6 (by omega) (by omega) W1)
  unfold Dd.cs at hW1
  have HW1 := Lib.hid hW1
  have HSC := Lib.hid (scan_any H1.out.bk (by omega) d.key d.n)
  have HRS : Hid (∀ W', Below W1.heap.size W1 W' → Calls Try.prog 15 #[rb (.slice a l.length cap) K B, .string d.key, .int .i64 d.n] W' fun e' w' => ∃ v', e' = .returned (.tuple #[v', .int .i64 (scanB d.key d.n l).2]) ∧ Below W'.heap.size W' w' ∧ Seg w' v' (scanB d.key d.n l).1) := fun W' hb => rscan_any ((hS.below b1).below hb) h.bk.good.1 h.bk.good.2 (by omega) d.key d.n K B
  obtain ⟨L4, E4, h4⟩ : ∃ L4 E4, scanB d.key d.n l = (L4, E4) := ⟨_, _, rfl⟩
  have HL4 : Hid (L4.length ≤ l.length) := by
    show _ ≤ _
    have : L4 = (scanB d.key d.n l).1 := by rw [h4]
    rw [this]
    unfold scanB
    split
    · split
      · simp
        exact Nat.le_trans (Nat.min_le_right _ _) (Nat.sub_le _ _)
      · simp
    · simp
  rw [h4] at HSC HRS
  rw [hc] at HP
  clear h hS hn b1 f0 f1 f2 hW1 h4 hc
  generalize hPost : DoesB w W p q e m K B (.slice a l.length cap) l = Post
  have HPost := Lib.hid hPost
  clear hPost
  unfold rb at HRS ⊢
  unfold Dd.v
  go_enter Try.func12, Try.ntmps12
  go_upto_region 1 with fail
  rw [← HW1.out]
  go_upto_region 11 with (first
    | (go_at_call 27; refine HP.out.mono ?_; rintro e1 w1 ⟨rfl, hw1⟩; replace hw1 := hw1.symm; subst hw1)
    | (go_at_call 14; refine HSC.out.mono ?_; rintro e4 w4 ⟨v4, rfl, hb4, ho4⟩; obtain ⟨a4, k4, rfl⟩ := row_form ho4; have H4 := Lib.hid (And.intro hb4 (Seg.of_row ho4)); have c0 := (hb4.cell (cell_lt c0)).trans c0; have c1 := (hb4.cell (cell_lt c1)).trans c1; have c2 := (hb4.cell (cell_lt c2)).trans c2; have d1 := (hb4.cell (cell_lt d1)).trans d1; have d4 := (hb4.cell (cell_lt d4)).trans d4; clear hb4 ho4)
    | (go_at_call 15; refine (HRS.out _ H4.out.1).mono ?_; rintro e5 w5 ⟨v5, rfl, hb5, hS5⟩; obtain ⟨a5, k5, rfl, _, _⟩ := hS5.form; have H5 := Lib.hid (And.intro (Below.step H4.out.1 hb5) (And.intro hS5 hb5)); clear hb5 hS5))
  have HX5 := Lib.hid (And.intro (HF.out.1.below H5.out.1) (HF.out.2.2.below H5.out.1))
  have HSA : Hid (Calls Try.prog 16 #[.slice a4 L4.length k4, .slice a5 L4.length k5] w5.drew fun e w' => e = .returned (.bool true) ∧ Below w5.drew.heap.size w5.drew w') := by
    have h := same_any (W := w5.drew) (Holds.below (H4.out.2.holds.below H5.out.2.2) (Below.refl _ _).drew) (Holds.below H5.out.2.1.holds (Below.refl _ _).drew) (by have := HL4.out; have := HN.out; omega) (by have := HL4.out; have := HN.out; omega)
    rw [show sameP L4 L4 = true from by simp [sameP]] at h
    exact h
  have KS : Hid (∀ W', Fresh W' W.heap.size #[.slice a l.length cap, .int .u64 (K : Int), .int .u64 (B : Int)] 31 → W'.cell? ⟨W.heap.size, 0, none⟩ = some (.slice a l.length cap) ∧ W'.cell? ⟨W.heap.size, 1, none⟩ = some (.int .u64 (K : Int)) ∧ W'.cell? ⟨W.heap.size, 2, none⟩ = some (.int .u64 (B : Int))) := fun W' hx => ⟨hx.cell 0, hx.cell 1, hx.cell 2⟩
  clear c0 c1 c2 d0 d1 d2 d3 d4
  refine wp_region_held_drew (S := fun W' => W'.cell? ⟨W.heap.size, 0, none⟩ = some (.slice a l.length cap) ∧ W'.cell? ⟨W.heap.size, 1, none⟩ = some (.int .u64 (K : Int)) ∧ W'.cell? ⟨W.heap.size, 2, none⟩ = some (.int .u64 (B : Int))) (by kernel_rfl) ?_ (fun hHeld => ?_)
  · (try dsimp only)
    exact KS.out _ HX5.out.1.drew
  refine wpAnyH_take (i := 0) (oi := ?_) (v := ?_) ?_ (by kernel_rfl) (by kernel_rfl) (by kernel_rfl) ?_ (Or.inl ⟨?_, ?_⟩) (by assumption) ?_
  rotate_left 2
  · simp only [List.getElem?_toArray, List.getElem?_cons_succ, List.getElem?_cons_zero] <;> rfl
  · exact fun _ _ _ h => h
  · rfl
  · (intro w hSw; (try dsimp only at hSw); go_simp; try (with_reducible rfl))
  try simp only [Act.put, List.setIfInBounds_toArray, List.set_cons_zero, List.set_cons_succ]
  refine wpAnyH_take (i := 1) (oi := ?_) (v := ?_) ?_ (by kernel_rfl) (by kernel_rfl) (by kernel_rfl) ?_ (Or.inl ⟨?_, ?_⟩) (by assumption) ?_
  rotate_left 2
  · simp only [List.getElem?_toArray, List.getElem?_cons_succ, List.getElem?_cons_zero] <;> rfl
  · exact fun _ _ _ h => h
  · rfl
  · (intro w hSw; (try dsimp only at hSw); go_simp; try (with_reducible rfl))
  try simp only [Act.put, List.setIfInBounds_toArray, List.set_cons_zero, List.set_cons_succ]
  refine wpAnyH_take (i := 2) (oi := ?_) (v := ?_) ?_ (by kernel_rfl) (by kernel_rfl) (by kernel_rfl) ?_ (Or.inl ⟨?_, ?_⟩) (by assumption) ?_
  rotate_left 2
  · simp only [List.getElem?_toArray, List.getElem?_cons_succ, List.getElem?_cons_zero] <;> rfl
  · exact fun _ _ _ h => h
  · rfl
  · (intro w hSw; (try dsimp only at hSw); go_simp; try (with_reducible rfl))
  try simp only [Act.put, List.setIfInBounds_toArray, List.set_cons_zero, List.set_cons_succ]
  refine wpAnyH_take (i := 3) (oi := ?_) (v := ?_) ?_ (by kernel_rfl) (by kernel_rfl) (by kernel_rfl) ?_ (Or.inl ⟨?_, ?_⟩) (by assumption) ?_
  rotate_left 2
  · simp only [List.getElem?_toArray, List.getElem?_cons_succ, List.getElem?_cons_zero] <;> rfl
  · exact fun _ _ _ h => h
  · rfl
  · (intro w hSw; (try dsimp only at hSw); go_simp; try (with_reducible rfl))
  try simp only [Act.put, List.setIfInBounds_toArray, List.set_cons_zero, List.set_cons_succ]
  refine wpAnyH_take (i := 4) (oi := ?_) (v := ?_) ?_ (by kernel_rfl) (by kernel_rfl) (by kernel_rfl) ?_ (Or.inl ⟨?_, ?_⟩) (by assumption) ?_
  rotate_left 2
  · simp only [List.getElem?_toArray, List.getElem?_cons_succ, List.getElem?_cons_zero] <;> rfl
  · exact fun _ _ _ h => h
  · rfl
  · (intro w hSw; (try dsimp only at hSw); go_simp; try (with_reducible rfl))
  try simp only [Act.put, List.setIfInBounds_toArray, List.set_cons_zero, List.set_cons_succ]
  refine wpAnyH_take (i := 5) (oi := ?_) (v := ?_) ?_ (by kernel_rfl) (by kernel_rfl) (by kernel_rfl) ?_ (Or.inl ⟨?_, ?_⟩) (by assumption) ?_
  rotate_left 2
  · simp only [List.getElem?_toArray, List.getElem?_cons_succ, List.getElem?_cons_zero] <;> rfl
  · exact fun _ _ _ h => h
  · rfl
  · (intro w hSw; (try dsimp only at hSw); go_simp; try (with_reducible rfl))
  try simp only [Act.put, List.setIfInBounds_toArray, List.set_cons_zero, List.set_cons_succ]
  refine wpAnyH_take (i := 6) (oi := ?_) (v := ?_) ?_ (by kernel_rfl) (by kernel_rfl) (by kernel_rfl) ?_ (Or.inl ⟨?_, ?_⟩) (by assumption) ?_
  rotate_left 2
  · simp only [List.getElem?_toArray, List.getElem?_cons_succ, List.getElem?_cons_zero] <;> rfl
  · exact fun _ _ _ h => h
  · rfl
  · (intro w hSw; (try dsimp only at hSw); go_simp; try (with_reducible rfl))
  try simp only [Act.put, List.setIfInBounds_toArray, List.set_cons_zero, List.set_cons_succ]
  refine wpAnyH_ready (rs := [7]) (by kernel_rfl) (by simp) ?_
  refine AllReadyH.cons (o := _) (by simp only [List.getElem?_toArray, List.getElem?_cons_succ, List.getElem?_cons_zero] <;> rfl) (fun K hK => ?_) ?_
  · go_simp
    refine HSA.out.mono ?_
    rintro e6 w6 ⟨rfl, hb6⟩
    have X6 := Lib.hid (HX5.out.1.drew.below hb6)
    have R6 := Lib.hid (HX5.out.2.drew.below hb6)
    have H6 := Lib.hid (Below.step H5.out.1 (Below.step (Below.refl _ _).drew hb6))
    have t0 := R6.out.cell 0
    have t1 := R6.out.cell 1
    have t2 := R6.out.cell 2
    have s0 := R6.out.thawed 0
    have s1 := R6.out.thawed 1
    have s2 := R6.out.thawed 2
    simp only [List.getElem?_toArray, List.getElem?_cons_zero, List.getElem?_cons_succ] at t0 t1 t2
    clear hb6
    go_wp2_with fail
    refine hK.out _ _ ?_ (fun hHeld => ?_)
    · (try dsimp only)
      exact KS.out _ X6.out
    clear hK K
    try simp only [Act.put, List.setIfInBounds_toArray, List.set_cons_zero, List.set_cons_succ]
    refine wpAnyH_take (i := 8) (oi := ?_) (v := ?_) ?_ (by kernel_rfl) (by kernel_rfl) (by kernel_rfl) ?_ (Or.inl ⟨?_, ?_⟩) (by assumption) ?_
    rotate_left 2
    · simp only [List.getElem?_toArray, List.getElem?_cons_succ, List.getElem?_cons_zero] <;> rfl
    · exact fun _ _ _ h => h
    · rfl
    · (intro w hSw; (try dsimp only at hSw); go_simp; try (with_reducible rfl))
    try simp only [Act.put, List.setIfInBounds_toArray, List.set_cons_zero, List.set_cons_succ]
    refine wpAnyH_ready (rs := [9]) (by kernel_rfl) (by simp) ?_
    refine AllReadyH.cons (o := _) (by simp only [List.getElem?_toArray, List.getElem?_cons_succ, List.getElem?_cons_zero] <;> rfl) (fun K hK => ?_) ?_
    · go_simp
      refine hK.out _ _ ?_ (fun hHeld => ?_)
      · (try dsimp only)
        exact KS.out _ (((X6.out.other (by omega) 0 _).other (by omega) 1 _).other (by omega) 2 _)
      clear hK K
      try simp only [Act.put, List.setIfInBounds_toArray, List.set_cons_zero, List.set_cons_succ]
      refine wpAnyH_take (i := 10) (oi := ?_) (v := ?_) ?_ (by kernel_rfl) (by kernel_rfl) (by kernel_rfl) ?_ (Or.inl ⟨?_, ?_⟩) (by assumption) ?_
      rotate_left 2
      · simp only [List.getElem?_toArray, List.getElem?_cons_succ, List.getElem?_cons_zero] <;> rfl
      · exact fun _ _ _ h => h
      · rfl
      · (intro w hSw; (try dsimp only at hSw); go_simp; try (with_reducible rfl))
      try simp only [Act.put, List.setIfInBounds_toArray, List.set_cons_zero, List.set_cons_succ]
      refine wpAnyH_done (by kernel_rfl) ?_ _
      obtain ⟨Wz, hWz⟩ : ∃ Wz, Wz = stored w6 (W.heap.size + 2) (.slice a l.length cap) K B := ⟨_, rfl⟩
      have hFz := stored_box R6.out rfl (.slice a l.length cap) K B
      have hTz := stored_turned w6 (W.heap.size + 2) (.slice a l.length cap) K B
      rw [← hWz] at hFz hTz
      unfold stored at hWz
      change Exit.then _ _ _ _ (((w6.setCell ⟨W.heap.size + 2, 0, none⟩ _).setCell ⟨W.heap.size + 2, 1, none⟩ _).setCell ⟨W.heap.size + 2, 2, none⟩ _)
      rw [← hWz]
      have q0 := hFz.cell 0
      have q1 := hFz.cell 1
      have q2 := hFz.cell 2
      simp only [List.getElem?_toArray, List.getElem?_cons_zero, List.getElem?_cons_succ] at q0 q1 q2
      go_wp2_with fail
      refine bodyPost_ret (v := .tuple #[rb (.slice a l.length cap) K B, .bool true]) (by simp [results, Try.results12, go_sem, rb, q0, q1, q2]) rfl ?_
      rw [← HPost.out]
      exact does_end (W5 := w6) ⟨H1.out.below H6.out, .inl rfl⟩ (Turned.refl _ _) (HS.out.below H6.out) R6.out hTz (Below.step HB.out H6.out) (by omega) (by have := HWS.out; omega) (fun g hg => .inl hg)
    exact AllReadyH.nil
  exact AllReadyH.nil
theorem does_any {w W : World} {p q e m : Nat} {l : List Pr} {K B : Nat} (h : Here w W p q e m l K B) {v : Value} (hS : Seg W v l) (hn : l.length < 800) (d : Dd) :
    Calls Try.prog 12 #[.pointer (some ⟨p, 0, none⟩), rb v K B, d.v] W (DoesB w W p q e m K B v (actS d l K B).1) := by
  by_cases h3 : d.what % 6 = 3
  · exact does_del h hS hn d h3
  · by_cases h4 : d.what % 6 = 4
    · exact does_swap h hS hn d h3 h4
    · by_cases h5 : d.what % 6 = 5
      · have e : (actS d l K B).1 = l := by unfold actS; rw [if_neg h3, if_neg h4, if_pos h5]
        rw [e]
        exact does_scan h hS hn d h5
      · exact does_put h hS hn d h3 h4 h5
end Nw
end Go.Proofs.Ytcpmnkihhenbgaa
