/- The iterator All of a slab of ints: it yields what was there when it began, whatever the rounds do. -/
import Derived.Test.YtbbadkgmnfjfaaaSeqOwn
import Derived.Test.YtbbadkgmnfjfaaaFromA
import Derived.Test.YtbbadkgmnfjfaaaCopyS
import Derived.Test.YtbbadkgmnfjfaaaTake
namespace Go.Proofs.Ytbbadkgmnfjfaaa.Si
open Go.RowKit Go.Shelf Go.Proofs.Ytbbadkgmnfjfaaa
attribute [local go_sem] Oper.semAt_some

theorem _root_.Go.Proofs.Ytbbadkgmnfjfaaa.Turned.put {S : List Nat} {W : World} {k : Nat} (hk : k ∈ S) (o : Obj) : Turned S W (W.putObj k o) :=
  ⟨rfl, rfl, rfl, by simp, fun j _ hn => World.putObj_heap_other (fun e => hn (e ▸ hk))⟩
theorem _root_.Go.Proofs.Ytbbadkgmnfjfaaa.Turned.wide {S S' : List Nat} {W W' : World} (h : Turned S W W') (hs : ∀ k ∈ S, k ∈ S') : Turned S' W W' :=
  ⟨h.os, h.tape, h.output, h.size, fun k hk hn => h.block k hk (fun e => hn (hs k e))⟩
theorem _root_.Go.Proofs.Ytbbadkgmnfjfaaa.KeepsFrom.of_turned {S : List Nat} {W W' : World} {B : Nat} (h : Turned S W W') (hs : ∀ k ∈ S, k < B) : KeepsFrom B W W' :=
  ⟨h.size, fun k o hB ho _ => (h.block k (Array.getElem?_eq_some_iff.1 ho).1 (fun e => by have := hs k e; omega)).trans ho⟩
theorem roundIn_wide {n m l l' : Nat} {P : Program} {f : FuncId} {tmps : Array Value} {asg bd : Code} {w : World} {R : Ending → World → Prop} (h : RoundIn Fence.wide n P l f tmps asg bd w R) : RoundIn (Fence.wide.inRound l') m P l f tmps asg bd w R :=
  ⟨trivial, fun c cs _ => h.2 c cs (room_wide _)⟩
def at0 (s : Sb) (i : Nat) : Ce := (s.l[i]?).getD ⟨.int .i64 0, 0, false⟩
theorem at0_some {s : Sb} {i : Nat} {t : Ce} (h : s.l[i]? = some t) : at0 s i = t := by unfold at0; rw [h]; rfl
/-- What All yields at a place. -/
def elemV (s : Sb) (x : Nat) : Array Value := #[refV (x : Int) (at0 s x).u, (at0 s x).x]

set_option maxRecDepth 100000 in
set_option maxHeartbeats 4000000 in
theorem all_own (n : Nat) (hn : 3 ≤ n) (b : Nat) (S : List Nat) (s : Sb) (hM : s.l.length ≤ 5000) (hx : ∀ (j : Nat) (t : Ce), s.l[j]? = some t → ∃ v : Int, t.x = .int .i64 v) (w : World) (p a g : Nat) (hA : At w p a g s)
    (hb : w.cell? ⟨b, 0, none⟩ = some (.pointer (some ⟨p, 0, none⟩))) (hbl : b < w.heap.size) (hS : ∀ k ∈ S, k < w.heap.size + 2) :
    SeqOwn Fence.wide n Try.prog 35 #[.pointer (some ⟨b, 0, none⟩)] (elemV s) (Turned S) (fun ys => ys = ut s.l 0 s.l.length)
      (fun pre => ∃ k, k ≤ s.l.length ∧ pre = ut s.l 0 k) (NextT s 0) w := by
  intro l J Jx W hW hsz hJ hJx hY h0
  have hAW := hA.below hW
  have hbW : W.cell? ⟨b, 0, none⟩ = some (.pointer (some ⟨p, 0, none⟩)) := (hW.cell (p := ⟨b, 0, none⟩) hbl).trans hb
  have hSW : ∀ k ∈ S, k < W.heap.size := fun k hk => by have := hS k hk; omega
  have hbW' : b < W.heap.size := by omega
  clear hW hA hb hS hbl hsz
  refine callsIn_of_wp_marks Try.func35 rfl trivial ?_ rfl
  simp only [Try.ntmps35, List.size_toArray, List.length_cons, List.length_nil, Nat.reduceAdd, Nat.reduceSub, Array.replicate_succ, Array.replicate_zero, List.push_toArray, List.append_toArray, List.nil_append, List.cons_append]
  obtain ⟨W1, hW1⟩ : ∃ W1, W1 = W.alloc (.cells #[.func (.yield l) #[] #[]] 76) := ⟨_, rfl⟩
  have B1 : Below W.heap.size W W1 := by rw [hW1]; exact Below.new (Below.refl _ _) _
  have A1 := hAW.below B1
  have b1 : W1.cell? ⟨b, 0, none⟩ = some (.pointer (some ⟨p, 0, none⟩)) := (B1.cell (p := ⟨b, 0, none⟩) hbW').trans hbW
  have f1 : Fresh W1 W.heap.size #[.func (.yield l) #[] #[]] 76 := by rw [hW1]; exact Fresh.new _ _ _ _ rfl
  have s1 : W1.heap.size = W.heap.size + 1 := by rw [hW1]; simp
  have j1 : J [] W1 := by rw [hW1]; exact hJ.alloc _ h0
  obtain ⟨c, c0, c1, c2, c3⟩ := A1.cells
  have HI := Lib.hid (isNil_any A1)
  have HC := Lib.hid (copied_any A1 hM hx)
  have HB1 := Lib.hid B1
  have HF1 := Lib.hid f1
  have HJ1 := Lib.hid j1
  have HJ := Lib.hid hJ
  have HJx := Lib.hid hJx
  have HY := Lib.hid hY
  have HSW := Lib.hid hSW
  have HW1 := Lib.hid hW1
  have HS1 := Lib.hid s1
  have HX := Lib.hid hx
  clear hAW c0 c1 c2 c3 B1 f1 j1 hJ hJx hY hSW hW1 s1 h0 hx A1
  gi_wp2_with (refine ⟨trivial, fun _ => by omega, ?_⟩; first
    | (gi_at_call 33; rw [← HW1.out]; refine (callsIn_wide.2 HI.out).mono ?_; rintro e w2 ⟨rfl, hw2⟩; replace hw2 := hw2.symm; subst hw2)
    | (gi_at_call 36; refine (callsIn_wide.2 HC.out).mono ?_; rintro e w2 ⟨a', g', k, rest', rfl, ha', hg', hb2, fa, fg⟩; have H2 := Lib.hid (⟨ha', hg', hb2, fa, fg⟩ : _ ∧ _ ∧ _ ∧ _ ∧ _); clear ha' hg' hb2 fa fg)
    | (gi_at_call 37; refine (callsIn_wide.2 (from_any _ _ _ _)).mono ?_; rintro e WL ⟨rfl, hWL⟩; have HWL := Lib.hid hWL; clear hWL))
  have z2 : W1.heap.size ≤ w2.heap.size := H2.out.2.2.1.size
  have z1 := HS1.out
  have szL : WL.heap.size = w2.heap.size + 4 := by rw [HWL.out]; simp
  have B2 : Below w2.heap.size w2 WL := by rw [HWL.out]; exact Below.new (Below.new (Below.new (Below.new (Below.refl _ _) _) _) _) _
  have B3 : Below W1.heap.size W1 WL := Below.step H2.out.2.2.1 B2
  have BL : Below W.heap.size W WL := Below.step HB1.out B3
  have ft : Fresh WL w2.heap.size #[.pointer (some ⟨a', 0, none⟩)] 62 := by rw [HWL.out]; exact (((Fresh.new _ _ _ _ rfl).alloc _).alloc _).alloc _
  have g0 : Fresh WL (w2.heap.size + 1) #[.pointer (some ⟨a', 0, none⟩)] 62 := by rw [HWL.out]; exact ((Fresh.new _ _ _ _ (by simp)).alloc _).alloc _
  have g1 : Fresh WL (w2.heap.size + 1 + 1) #[.int .i64 0] 3 := by rw [HWL.out]; exact (Fresh.new _ _ _ _ (by simp)).alloc _
  have g2 : Fresh WL (w2.heap.size + 1 + 2) #[.func (.func 38) #[] #[]] 83 := by rw [HWL.out]; exact Fresh.new _ _ _ _ (by simp)
  have fy : Fresh WL W.heap.size #[.func (.yield l) #[] #[]] 76 := HF1.out.below B3
  have fc : Cs w2 a' g' s := ⟨⟨_, _, _, _, H2.out.2.2.2.1⟩, _, H2.out.2.2.2.2⟩
  have fcL : Cs WL a' g' s := fc.below B2
  have ha' : W1.heap.size ≤ a' ∧ a' < w2.heap.size := ⟨H2.out.1, H2.out.2.2.2.1.lt⟩
  have hg' : W1.heap.size ≤ g' ∧ g' < w2.heap.size := ⟨H2.out.2.1, H2.out.2.2.2.2.lt⟩
  have hgt : ¬ g' = a' := by
    intro e
    have h1 := H2.out.2.2.2.1
    have h2 := H2.out.2.2.2.2
    rw [e] at h2
    unfold Fresh at h1 h2
    rw [h1] at h2
    injection h2 with h2
    injection h2 with _ h2 _
    exact absurd h2 (by decide)
  obtain ⟨S', hS'⟩ : ∃ S', S' = (WL.heap.size + 1) :: S := ⟨_, rfl⟩
  have nS : ∀ k, W.heap.size ≤ k → k ≠ WL.heap.size + 1 → k ∉ S' := fun k h1 h2 h3 => by
    rw [hS'] at h3
    rcases List.mem_cons.1 h3 with h3 | h3
    · exact h2 h3
    · have := HSW.out k h3; omega
  have jL : J [] WL := by
    have h := HJ1.out
    refine HJ.out [] W1 WL none h ?_ (fun r e => by cases e)
    exact ⟨B3.os, B3.tape, B3.output, B3.size, fun k hk _ => B3.block k hk⟩
  refine range_own rfl (by omega) (gf := 48) (lb := #[.pointer (some ⟨w2.heap.size + 1 + 1, 0, none⟩), .pointer (some ⟨w2.heap.size + 1, 0, none⟩), .pointer (some ⟨w2.heap.size + 1 + 2, 0, none⟩)]) rfl trivial (enters_of Try.func48 (by kernel_rfl) rfl)
    (fromA_own (n - 1) (by omega) (w2.heap.size + 1 + 1) (w2.heap.size + 1) (w2.heap.size + 1 + 2) S' s 0 (Nat.zero_le _) hM WL a' g' fcL (g1.cell 0) (g0.cell 0) (g2.cell 0)
      ⟨⟨by omega, nS _ (by omega) (by omega)⟩, ⟨by omega, nS _ (by omega) (by omega)⟩, ⟨by omega, nS _ (by omega) (by omega)⟩, ⟨by omega, nS _ (by omega) (by omega)⟩, ⟨by omega, nS _ (by omega) (by omega)⟩⟩)
    (Turned.refl S') (fun h k => h.trans k) (fun W o _ => Turned.put (by rw [hS']; exact List.mem_cons_self ..) o) (Below.refl _ _) (fun _ => rfl)
    (fun pre Wc => J pre Wc ∧ Cs Wc a' g' s ∧ Fresh Wc w2.heap.size #[.pointer (some ⟨a', 0, none⟩)] 62 ∧ Fresh Wc W.heap.size #[.func (.yield l) #[] #[]] 76)
    (fun c pre Wc => c = .ret ∧ Jx pre Wc)
    (fun pre X Y row ⟨h1, h2, h3, h4⟩ hg hr => ⟨HJ.out pre X Y row h1 hg (fun r e => ⟨by have := (hr r e).1; omega, (hr r e).2⟩), h2.kept hg (fun r e => (hr r e).2), h3.kept hg (fun r e => (hr r e).2), h4.kept hg (fun r e => (hr r e).2)⟩)
    (fun c pre X Y row ⟨h1, h2⟩ hg hr => ⟨h1, HJx.out pre X Y row h2 hg (fun r e => ⟨by have := (hr r e).1; omega, (hr r e).2⟩)⟩)
    ⟨jL, fcL, ft, fy⟩
    (fun x => { tmps := #[.func (.yield l) #[] #[], .pointer (some ⟨b, 0, none⟩), .pointer (some ⟨W.heap.size, 0, none⟩), .pointer (some ⟨w2.heap.size, 0, none⟩), .int .i64 (x : Int), undef, .pointer (some ⟨p, 0, none⟩), .bool false, .pointer (some ⟨p, 0, none⟩), .pointer (some ⟨p, 0, none⟩), .pointer (some ⟨p, 0, none⟩), .pointer (some ⟨a, 0, none⟩), .pointer (some ⟨a', 0, none⟩), .pointer (some ⟨a', 0, none⟩), .func (.func 48) #[] #[.pointer (some ⟨w2.heap.size + 1 + 1, 0, none⟩), .pointer (some ⟨w2.heap.size + 1, 0, none⟩), .pointer (some ⟨w2.heap.size + 1 + 2, 0, none⟩)], .int .i64 (x : Int), undef, undef, undef, undef, undef, undef, undef, undef, undef, undef, undef, undef, undef, undef, undef, undef], defers := [] })
    ?assignment ?round ?done ?stop
  case assignment =>
    intro l' x W' K hK
    gi_wp2
    exact hK
  case round =>
    rintro l' pre x W5 hG ⟨hj, hcs, hft, hfy⟩ hz
    obtain ⟨t, ht, htt⟩ : ∃ t, s.l[x]? = some t ∧ t.t = true := by
      obtain ⟨k, t, h1, h2, _, h3⟩ := hG
      obtain ⟨_, h3⟩ := List.append_inj' h3 rfl
      simp only [List.cons.injEq, and_true] at h3
      subst h3
      exact ⟨t, h1, h2⟩
    have hi : x < s.l.length := (List.getElem?_eq_some_iff.1 ht).1
    obtain ⟨e0, e1, e2⟩ := hcs.one x t ht
    obtain ⟨cap, c0, _, _, _⟩ := hcs.cells
    obtain ⟨vx, hvx⟩ := HX.out _ _ ht
    have hat := at0_some ht
    obtain ⟨tx, tu, tt⟩ := t
    dsimp only at e0 e1 e2 hvx htt
    subst hvx htt
    have d2 := hft.cell 0
    have d3 := hfy.cell 0
    simp only [List.getElem?_toArray, List.getElem?_cons_zero] at d2 d3
    have l2 := hft.lt
    have l3 := hfy.lt
    have d3' : (W5.alloc (.cells #[.int .i64 vx, .int .u32 tu, .bool true] 82)).cell? ⟨W.heap.size, 0, none⟩ = some (.func (.yield l) #[] #[]) := (hfy.alloc _).cell 0
    obtain ⟨nn, hnn⟩ : ∃ nn : Nat, s.l.length = nn := ⟨_, rfl⟩
    rw [hnn] at c0 hi
    have q0 : (0 : Int) ≤ (x : Int) := Int.natCast_nonneg _
    have q1 : (x : Int) < (nn : Int) := by omega
    have q2 : decide (x < nn) = true := decide_eq_true hi
    have j6 : J pre (W5.alloc (.cells #[.int .i64 vx, .int .u32 tu, .bool true] 82)) := HJ.out.alloc _ hj
    obtain ⟨fn, tmps, assign, body, hy, hR⟩ := HY.out pre x _ hG j6
    unfold elemV at hy
    rw [hat] at hy
    have HR := Lib.hid hR
    have HN := Lib.hid hnn
    have HK := Lib.hid (⟨hcs, hft, hfy⟩ : _ ∧ _ ∧ _)
    clear hR hat ht hnn j6 hj hcs hft hfy
    clear ft g0 g1 g2 fy fc fcL
    gi_wp2
    refine ⟨fun h => (by cases h), (roundIn_wide HR.out).mono ?_⟩
    have nSS : ∀ k, W.heap.size ≤ k → k ∉ S := fun k h1 h3 => by have := HSW.out k h3; omega
    have sB : ∀ k ∈ S, k < WL.heap.size := fun k h3 => by have := HSW.out k h3; omega
    have fin : ∀ W7, Turned S (W5.alloc (.cells #[.int .i64 vx, .int .u32 tu, .bool true] 82)) W7 → KeepsFrom WL.heap.size W5 W7 ∧ Turned S' W5 W7 ∧ Cs W7 a' g' s ∧ Fresh W7 w2.heap.size #[.pointer (some ⟨a', 0, none⟩)] 62 ∧ Fresh W7 W.heap.size #[.func (.yield l) #[] #[]] 76 := fun W7 hT => by
      have T7 : Turned S W5 W7 := ((Turned.refl S W5).alloc _).trans hT
      exact ⟨KeepsFrom.of_turned T7 sB, T7.wide (fun k hk => by rw [hS']; exact List.mem_cons_of_mem _ hk), HK.out.1.turned T7 (nSS _ (by omega)) (nSS _ (by omega)), T7.other HK.out.2.1 (nSS _ (by omega)), T7.other HK.out.2.2 (nSS _ (by omega))⟩
    have HFIN := Lib.hid fin
    clear fin nSS sB
    rintro e W7 ⟨hT7, ⟨rfl, hJ7⟩ | ⟨rfl, hJ7⟩⟩
    · have H7 := Lib.hid (HFIN.out W7 hT7)
      have HJ7 := Lib.hid hJ7
      clear hT7 hJ7
      gi_wp2
      exact ⟨H7.out.1, H7.out.2.1, HJ7.out, H7.out.2.2⟩
    · have H7 := Lib.hid (HFIN.out W7 hT7)
      have HJ7 := Lib.hid hJ7
      clear hT7 hJ7
      gi_wp2
      exact ⟨H7.out.1, H7.out.2.1, rfl, HJ7.out⟩
  case done =>
    rintro D xs W5 hD hS ⟨h1, _⟩ hK
    gi_wp2
    refine ⟨by simp, .inl ⟨_, _, rfl, run_takeDeferred hK, ?_⟩⟩
    refine ⟨_, results_none rfl _ _ _, ⟨_, rfl⟩, .inl ⟨xs, hS, HJ.out.putObj _ h1 (by omega) hK rfl⟩⟩
  case stop =>
    rintro D c pre W5 hD hS ⟨rfl, h1⟩ hK
    gi_wp2
    refine ⟨by simp, .inl ⟨_, _, rfl, run_takeDeferred hK, ?_⟩⟩
    refine ⟨_, results_none rfl _ _ _, ⟨_, rfl⟩, .inr ⟨pre, hS, HJx.out.putObj _ h1 (by omega) hK rfl⟩⟩
end Go.Proofs.Ytbbadkgmnfjfaaa.Si
