/- Lists that lie apart: the bag of lists; ApartPairs. -/
import Derived.Test.YtcpmnkihhenbgaaApE
import Derived.Test.YtcpmnkihhenbgaaApF
namespace Go.Proofs.Ytcpmnkihhenbgaa
open Go.RowKit Go.Shelf
set_option maxRecDepth 1000000
set_option maxHeartbeats 4000000

abbrev bagT : TypeId := 104
def bagC (v : Value) : Array Value := #[.slice none 0 0, .slice none 0 0, .slice none 0 0, .slice none 0 0, .slice none 0 0, .slice none 0 0, .slice none 0 0, .slice none 0 0, v, .slice none 0 0, .slice none 0 0, .slice none 0 0, .slice none 0 0, .slice none 0 0, .slice none 0 0, .slice none 0 0, .slice none 0 0, .slice none 0 0]
/-- A bag that has the lists vs, in the slice v. -/
structure Bag (W : World) (p : Nat) (v : Value) (vs : List Value) : Prop where
  box : Fresh W p (bagC v) bagT
  row : W.ownsRow 0 29 1 v vs.length vs
theorem Bag.below {W W' : World} {p : Nat} {v : Value} {vs : List Value} (h : Bag W p v vs) (hb : Below W.heap.size W W') : Bag W' p v vs := by
  refine ⟨h.box.below hb, h.row.1, ?_⟩
  rcases h.row.2 with h1 | ⟨g, cap, cur, a, b, c, d⟩
  · exact .inl h1
  · exact .inr ⟨g, cap, cur, a, b, (hb.block g (Fresh.lt (W := W) (cs := cur) (t := 29) c)).trans c, d⟩
theorem row_not {W : World} {p : Nat} {v : Value} {vs : List Value} (h : W.ownsRow 0 29 1 v vs.length vs) {k : Nat} {cs : Array Value} {t : TypeId} (hf : Fresh W k cs t) (ht : (t == 29) = false) : v.ownBlock ≠ some k := by
  rcases h.2 with ⟨rfl, _⟩ | ⟨g, cap, cur, rfl, _, hg, _⟩
  · intro e; cases e
  · intro e
    cases e
    have := fresh_ty (show Fresh W g cur 29 from hg) hf
    rw [← this] at ht
    simp at ht
theorem infoPP2 : ∃ i0 : TypeInfo, Try.prog.info? 29 = some i0 ∧ i0.zero = some (.slice none 0 0) ∧ i0.size = 1 ∧ i0.bytes = 24 := by
  obtain ⟨i0, h1, h2⟩ := Option.map_eq_some_iff.1 infoPP
  simp only [Prod.mk.injEq] at h2
  exact ⟨i0, h1, h2.1, h2.2.1, h2.2.2⟩
/-- One list more. -/
theorem putp_any {W : World} {p : Nat} {v : Value} {vs : List Value} (h : Bag W p v vs) (hn : vs.length ≤ 1000) (ao : Option Addr) (n cap : Nat) :
    Calls Try.prog 42 #[.pointer (some ⟨p, 0, none⟩), .slice ao n cap] W fun e' w' => (∃ u, e' = .returned u) ∧ ∃ v', Bag w' p v' (vs ++ [.slice ao n cap]) ∧ (∀ g, v.ownBlock = some g → g < W.heap.size) ∧ (∀ k, k < W.heap.size → k ≠ p → v.ownBlock ≠ some k → w'.heap[k]? = W.heap[k]?) ∧ w'.os = W.os ∧ w'.tape = W.tape ∧ w'.output = W.output ∧ W.heap.size ≤ w'.heap.size ∧ (∀ g, v'.ownBlock = some g → v.ownBlock = some g ∨ W.heap.size ≤ g) := by
  obtain ⟨i0, hi0, hz0, hzs, hzb⟩ := infoPP2
  obtain ⟨W1, hW1⟩ : ∃ W1, W1 = W.alloc (.cells #[.slice ao n cap] 29) := ⟨_, rfl⟩
  have h1 : Bag W1 p v vs := by rw [hW1]; exact h.below (Below.new (Below.refl _ _) _)
  obtain ⟨v', W2, r1, r2, r3, _, r5⟩ := run_append_own_at (P := Try.prog) (w := W1) 0 42 42 29 i0 _ 1 24 Try.underlying42 hi0 hz0 hzs hzb rfl (by omega) v vs.length vs h1.row ⟨W.heap.size, 0, none⟩ 1 1 [.slice ao n cap] rfl (by rw [hW1]; exact cell_one_new _ _ _) (by intro u hu; simp at hu; subst hu; rfl) (by unfold maxLen; omega) (by omega) (Nat.zero_le _)
  have hlt : ∀ g, v.ownBlock = some g → g < W.heap.size := by
    intro g hg
    rcases h.row.2 with ⟨rfl, _⟩ | ⟨g', cap', cur, rfl, _, hc, _⟩
    · cases hg
    · cases hg
      exact Fresh.lt (W := W) (cs := cur) (t := 29) hc
  have hbox2 : Fresh W2 p (bagC v) bagT := (r3.block p h1.box.lt (fun e => row_not (p := p) h1.row h1.box (by decide) e.symm)).trans h1.box
  have hf1 : ∀ k, k < W.heap.size → v.ownBlock ≠ some k → W2.heap[k]? = W.heap[k]? := fun k hk hn => (r3.block k (by rw [hW1]; simp; omega) (fun e => hn e.symm)).trans (by rw [hW1]; exact heap_alloc_old W _ hk)
  have hpost : Bag (W2.setCell ⟨p, 8, none⟩ v') p v' (vs ++ [.slice ao n cap]) := by
    refine ⟨(hbox2.set 8 v'), ?_⟩
    rw [List.length_append]
    refine ⟨r2.1, ?_⟩
    rcases r2.2 with h1 | ⟨g, cap, cur, a, b, c, d⟩
    · exact .inl h1
    · refine .inr ⟨g, cap, cur, a, b, ?_, d⟩
      have hne : g ≠ p := by
        rintro rfl
        have := fresh_ty (show Fresh W2 g cur 29 from c) hbox2
        exact absurd this (by decide)
      exact (Below.heap_setCell W2 ⟨p, 8, none⟩ v' g hne).trans c
  have HPOST : Hid (∃ v', Bag (W2.setCell ⟨p, 8, none⟩ v') p v' (vs ++ [.slice ao n cap])) := ⟨v', hpost⟩
  have HALL := Lib.hid (And.intro hpost (And.intro hlt (And.intro hf1 (And.intro r3 r5))))
  have HW1 := Lib.hid hW1
  have c8 := h.box.cell 8
  have d8 := hbox2.cell 8
  have t8 := hbox2.thawed 8
  simp only [bagC, List.getElem?_toArray, List.getElem?_cons_zero, List.getElem?_cons_succ] at c8 d8
  obtain ⟨a', n', k', rfl⟩ : ∃ a n k, v' = .slice a n k := by
    rcases r2.2 with ⟨rfl, _⟩ | ⟨g, cap, cur, rfl, _⟩
    · exact ⟨_, _, _, rfl⟩
    · exact ⟨_, _, _, rfl⟩
  obtain ⟨a0, n0, k0, rfl⟩ : ∃ a n k, v = .slice a n k := by
    rcases h.row.2 with ⟨rfl, _⟩ | ⟨g, cap, cur, rfl, _⟩
    · exact ⟨_, _, _, rfl⟩
    · exact ⟨_, _, _, rfl⟩
  clear h h1 r2 r3 r5 hlt hbox2 hf1 hpost HPOST hW1 hi0 hz0 hzs hzb
  go_enter Try.func42, Try.ntmps42
  rw [HW1.out] at r1
  go_wp2_with (at_builtin; refine Lib.wpList_append_run _ rfl _ _ _ _ rfl _ _ rfl rfl _ _ r1 ?_; clear r1)
  go_end0
  have hh := HALL.out
  have hs := hh.2.2.2.1
  rw [HW1.out] at hs
  refine ⟨⟨_, rfl⟩, _, hh.1, hh.2.1, fun k hk hp hn => (Below.heap_setCell W2 ⟨p, _, none⟩ _ k hp).trans (hh.2.2.1 k hk hn), hs.os, hs.tape, hs.output, ?_, fun g hg => ?_⟩
  · have := hs.size
    simp [World.setCell] at this ⊢
    omega
  · rcases hh.2.2.2.2 with e | e
    · exact .inl (e ▸ hg)
    · rw [e] at hg
      cases hg
      exact .inr (by rw [HW1.out]; simp)
theorem apart_any {W : World} {p : Nat} {L n cap : Nat} {cu : Array Value} {vs : List Value} (hbx : Fresh W p (bagC (.slice (some ⟨L, 0, none⟩) vs.length cap)) bagT) (hcu : ∀ (k : Nat) (v : Value), vs[k]? = some v → cu[k]? = some v) {c : Nat → List Pr} (hl : Lay W L cu vs c) (hd : Dis vs) (hn : vs.length ≤ 200) (hc : ∀ k, (c k).length ≤ 5000) :
    Calls Try.prog 43 #[.pointer (some ⟨p, 0, none⟩)] W fun e w' => e = .returned (.bool true) ∧ Turned (blks vs) W w' := by
  have HFL : Hid (∀ w, Lay w L cu vs c → Calls Try.prog 64 #[.slice (some ⟨L, 0, none⟩) vs.length cap] w fun e w' => e = .returned (.bool true) ∧ Turned (blks vs) w w') := fun w h => flat_any w L cu vs hcu c h hd hn hc cap
  have HL := Lib.hid hl
  have F0 := Lib.hid hbx
  have HNB : Hid (p ∉ blks vs) := hl.not hbx (by decide)
  have c0 := hbx.cell 0
  simp only [bagC, List.getElem?_toArray, List.getElem?_cons_zero, List.getElem?_cons_succ] at c0
  clear hbx hcu hl hd hn hc
  go_enter Try.func43, Try.ntmps43
  go_wp2_with (first
    | (go_at_call 56; refine (flatLimbs_none _).mono ?_; rintro e w1 ⟨rfl, hb⟩; have F1 := Lib.hid (F0.out.below hb); have H1 := Lib.hid hb; clear hb; have c1 := F1.out.cell 1; simp only [bagC, List.getElem?_toArray, List.getElem?_cons_zero, List.getElem?_cons_succ] at c1)
    | (go_at_call 57; refine (flatWords_none _).mono ?_; rintro e w2 ⟨rfl, hb⟩; have F2 := Lib.hid (F1.out.below hb); have H2 := Lib.hid (Below.step H1.out hb); clear hb; have c2 := F2.out.cell 2; simp only [bagC, List.getElem?_toArray, List.getElem?_cons_zero, List.getElem?_cons_succ] at c2)
    | (go_at_call 58; refine (flatInts_none _).mono ?_; rintro e w3 ⟨rfl, hb⟩; have F3 := Lib.hid (F2.out.below hb); have H3 := Lib.hid (Below.step H2.out hb); clear hb; have c3 := F3.out.cell 3; simp only [bagC, List.getElem?_toArray, List.getElem?_cons_zero, List.getElem?_cons_succ] at c3)
    | (go_at_call 59; refine (flatLongs_none _).mono ?_; rintro e w4 ⟨rfl, hb⟩; have F4 := Lib.hid (F3.out.below hb); have H4 := Lib.hid (Below.step H3.out hb); clear hb; have c4 := F4.out.cell 4; simp only [bagC, List.getElem?_toArray, List.getElem?_cons_zero, List.getElem?_cons_succ] at c4)
    | (go_at_call 60; refine (flatTexts_none _).mono ?_; rintro e w5 ⟨rfl, hb⟩; have F5 := Lib.hid (F4.out.below hb); have H5 := Lib.hid (Below.step H4.out hb); clear hb; have c5 := F5.out.cell 5; simp only [bagC, List.getElem?_toArray, List.getElem?_cons_zero, List.getElem?_cons_succ] at c5)
    | (go_at_call 61; refine (flatBytes_none _).mono ?_; rintro e w6 ⟨rfl, hb⟩; have F6 := Lib.hid (F5.out.below hb); have H6 := Lib.hid (Below.step H5.out hb); clear hb; have c6 := F6.out.cell 6; simp only [bagC, List.getElem?_toArray, List.getElem?_cons_zero, List.getElem?_cons_succ] at c6)
    | (go_at_call 62; refine (flatTruths_none _).mono ?_; rintro e w7 ⟨rfl, hb⟩; have F7 := Lib.hid (F6.out.below hb); have H7 := Lib.hid (Below.step H6.out hb); clear hb; have c7 := F7.out.cell 7; simp only [bagC, List.getElem?_toArray, List.getElem?_cons_zero, List.getElem?_cons_succ] at c7)
    | (go_at_call 63; refine (flatRefs_none _).mono ?_; rintro e w8 ⟨rfl, hb⟩; have F8 := Lib.hid (F7.out.below hb); have H8 := Lib.hid (Below.step H7.out hb); clear hb; have c8 := F8.out.cell 8; simp only [bagC, List.getElem?_toArray, List.getElem?_cons_zero, List.getElem?_cons_succ] at c8)
    | (go_at_call 64; refine (HFL.out _ (HL.out.below H8.out)).mono ?_; rintro e w9 ⟨rfl, hb⟩; have F9 := Lib.hid (hb.other F8.out HNB.out); have H9 := Lib.hid ((Turned.of_below H8.out).trans hb); clear hb; have c9 := F9.out.cell 9; simp only [bagC, List.getElem?_toArray, List.getElem?_cons_zero, List.getElem?_cons_succ] at c9)
    | (go_at_call 65; refine (flatNodes_none _).mono ?_; rintro e w10 ⟨rfl, hb⟩; have F10 := Lib.hid (F9.out.below hb); have H10 := Lib.hid (H9.out.trans (Turned.of_below hb)); clear hb; have c10 := F10.out.cell 10; simp only [bagC, List.getElem?_toArray, List.getElem?_cons_zero, List.getElem?_cons_succ] at c10)
    | (go_at_call 66; refine (flatBounds_none _).mono ?_; rintro e w11 ⟨rfl, hb⟩; have F11 := Lib.hid (F10.out.below hb); have H11 := Lib.hid (H10.out.trans (Turned.of_below hb)); clear hb; have c11 := F11.out.cell 11; simp only [bagC, List.getElem?_toArray, List.getElem?_cons_zero, List.getElem?_cons_succ] at c11)
    | (go_at_call 67; refine (flatHandles_none _).mono ?_; rintro e w12 ⟨rfl, hb⟩; have F12 := Lib.hid (F11.out.below hb); have H12 := Lib.hid (H11.out.trans (Turned.of_below hb)); clear hb; have c12 := F12.out.cell 12; simp only [bagC, List.getElem?_toArray, List.getElem?_cons_zero, List.getElem?_cons_succ] at c12)
    | (go_at_call 68; refine (flatRequests_none _).mono ?_; rintro e w13 ⟨rfl, hb⟩; have F13 := Lib.hid (F12.out.below hb); have H13 := Lib.hid (H12.out.trans (Turned.of_below hb)); clear hb; have c13 := F13.out.cell 13; simp only [bagC, List.getElem?_toArray, List.getElem?_cons_zero, List.getElem?_cons_succ] at c13)
    | (go_at_call 69; refine (flatStats_none _).mono ?_; rintro e w14 ⟨rfl, hb⟩; have F14 := Lib.hid (F13.out.below hb); have H14 := Lib.hid (H13.out.trans (Turned.of_below hb)); clear hb; have c14 := F14.out.cell 14; simp only [bagC, List.getElem?_toArray, List.getElem?_cons_zero, List.getElem?_cons_succ] at c14)
    | (go_at_call 70; refine (flatAnswers_none _).mono ?_; rintro e w15 ⟨rfl, hb⟩; have F15 := Lib.hid (F14.out.below hb); have H15 := Lib.hid (H14.out.trans (Turned.of_below hb)); clear hb; have c15 := F15.out.cell 15; simp only [bagC, List.getElem?_toArray, List.getElem?_cons_zero, List.getElem?_cons_succ] at c15)
    | (go_at_call 71; refine (flatEntries_none _).mono ?_; rintro e w16 ⟨rfl, hb⟩; have F16 := Lib.hid (F15.out.below hb); have H16 := Lib.hid (H15.out.trans (Turned.of_below hb)); clear hb; have c16 := F16.out.cell 16; simp only [bagC, List.getElem?_toArray, List.getElem?_cons_zero, List.getElem?_cons_succ] at c16)
    | (go_at_call 72; refine (flatScripts_none _).mono ?_; rintro e w17 ⟨rfl, hb⟩; have F17 := Lib.hid (F16.out.below hb); have H17 := Lib.hid (H16.out.trans (Turned.of_below hb)); clear hb; have c17 := F17.out.cell 17; simp only [bagC, List.getElem?_toArray, List.getElem?_cons_zero, List.getElem?_cons_succ] at c17)
    | (go_at_call 73; refine (flatDones_none _).mono ?_; rintro e w18 ⟨rfl, hb⟩; have F18 := Lib.hid (F17.out.below hb); have H18 := Lib.hid (H17.out.trans (Turned.of_below hb)); clear hb))
  go_ret
  exact ⟨rfl, H18.out⟩
/-- Lists that lie apart in blocks of their own. -/
theorem apartPairs_any {W : World} {L cap : Nat} {cu : Array Value} {vs : List Value} (hcu : ∀ (k : Nat) (v : Value), vs[k]? = some v → cu[k]? = some v) {c : Nat → List Pr} (hl : Lay W L cu vs c) (hd : Dis vs) (h1 : 0 < vs.length) (hn : vs.length ≤ 200) (hc : ∀ k, (c k).length ≤ 5000) :
    Calls Try.prog 17 #[.slice (some ⟨L, 0, none⟩) vs.length cap] W fun e w' => e = .returned (.bool true) ∧ Turned (blks vs) W w' := by
  obtain ⟨N, hN⟩ : ∃ N, vs.length = N := ⟨_, rfl⟩
  have HN := Lib.hid hN
  have HL := Lib.hid hl
  have HCU := Lib.hid hcu
  have HD := Lib.hid hd
  have HC := Lib.hid hc
  rw [hN] at hn h1 ⊢
  clear hl hcu hd hc hN
  go_enter Try.func17, Try.ntmps17
  go_wp2_with fail
  obtain ⟨p, hp⟩ : ∃ p, W.heap.size = p := ⟨_, rfl⟩
  have HP := Lib.hid hp
  have HB0 : Hid (∃ W1, W1 = W.alloc (.cells (bagC (.slice none 0 0)) bagT) ∧ Bag W1 p (.slice none 0 0) []) := ⟨_, rfl, Fresh.new _ _ _ _ hp, by rfl, .inl ⟨rfl, rfl⟩⟩
  have B1 : Hid (Below W.heap.size W (W.alloc (.cells (bagC (.slice none 0 0)) bagT))) := Below.new (Below.refl _ _) _
  rw [hp]
  clear hp
  go_loopw [4] (fun kv wr => ∃ (k : Nat) (v : Value), k ≤ N ∧ kv = .int .i64 k ∧ Bag wr p v (vs.take k) ∧ Below W.heap.size W wr ∧ (∀ g, v.ownBlock = some g → W.heap.size ≤ g)) (fun kv _ => N - (intOf kv).toNat)
  case atStart =>
    obtain ⟨W1, rfl, hB⟩ := HB0.out
    exact ⟨0, _, Nat.zero_le _, rfl, by rw [List.take_zero]; exact hB, B1.out, fun g hg => by cases hg⟩
  case round =>
    obtain ⟨k, v, hk, rfl, hB, hb, hv⟩ := hrel
    by_cases hlt : k < N
    · have jl : (k : Int) < (N : Int) := by omega
      have j0 : (0 : Int) ≤ (k : Int) := by omega
      have j2 : (k : Int) < 200 := by omega
      have jd : decide (k < N) = true := decide_eq_true hlt
      obtain ⟨u, hu⟩ : ∃ u, vs[k]? = some u := ⟨_, List.getElem?_eq_getElem (by rw [HN.out]; exact hlt)⟩
      obtain ⟨ao, kap, rfl⟩ := own_slice (HL.out.row k u hu) rfl
      have cK : wr.cell? ⟨L, k, none⟩ = some (.slice ao (c k).length kap) := by rw [(HL.out.blk.below hb).cell]; exact HCU.out _ _ hu
      have htk : vs.take (k + 1) = vs.take k ++ [.slice ao (c k).length kap] := by rw [List.take_add_one, hu]; rfl
      have HH := Lib.hid (And.intro hB (And.intro hb (And.intro hv htk)))
      have HK : Hid ((vs.take k).length ≤ 1000) := by show _ ≤ _; rw [List.length_take]; omega
      clear hB hb hv hu htk hk
      go_wp2_with (go_at_call 42; refine (putp_any HH.out.1 HK.out _ _ _).mono ?_; rintro e2 w2 ⟨⟨u2, rfl⟩, h2⟩; have H2 := Lib.hid h2; clear h2 cK)
      go_roundw
      case rel =>
        obtain ⟨v', q1, q2, q3, q4, q5, q6, q7, q8⟩ := H2.out
        have hsz := HH.out.2.1.size
        refine ⟨k + 1, v', by omega, by simp, by rw [HH.out.2.2.2]; exact q1, ?_, ?_⟩
        · refine ⟨q4.trans HH.out.2.1.os, q5.trans HH.out.2.1.tape, q6.trans HH.out.2.1.output, Nat.le_trans hsz q7, fun i hi => ?_⟩
          refine (q3 i (by omega) (by have := HP.out; omega) (fun e => ?_)).trans (HH.out.2.1.block i hi)
          have := HH.out.2.2.1 i e
          omega
        · intro g hg
          rcases q8 g hg with e | e
          · exact HH.out.2.2.1 g e
          · omega
      case measure => simp [intOf]; omega
    · obtain rfl : N = k := by omega
      have jd : decide (N < N) = false := by simp
      have jn : ¬ (N : Int) < (N : Int) := by omega
      rw [List.take_of_length_le (by rw [HN.out]; exact Nat.le_refl _)] at hB
      obtain ⟨g, kap, cur, rfl, hgl, hgc, hgs⟩ : ∃ g kap cur, v = .slice (some ⟨g, 0, none⟩) vs.length kap ∧ vs.length ≤ kap ∧ Fresh wr g cur 29 ∧ (∀ (k : Nat) (x : Value), vs[k]? = some x → cur[k]? = some x) := by
        rcases hB.row.2 with ⟨_, e⟩ | ⟨g, kap, cur, e, _, h3, h4, h5, h6, h7⟩
        · rw [HN.out] at e; omega
        · refine ⟨g, kap, cur, e, h4, h3, fun k x hx => ?_⟩
          have hk := (List.getElem?_eq_some_iff.1 hx).1
          rw [← h7, List.getElem?_take_of_lt (by omega), Array.getElem?_toList] at hx
          exact hx
      have HLY : Hid (Lay wr g cur vs c) := ⟨hgc, (HL.out.below hb).row⟩
      have HX := Lib.hid (And.intro hB.box (And.intro hgs hb))
      have HA : Hid (Calls Try.prog 43 #[.pointer (some ⟨p, 0, none⟩)] wr fun e w' => e = .returned (.bool true) ∧ Turned (blks vs) wr w') := apart_any (n := 0) hB.box hgs HLY.out HD.out (by rw [HN.out]; exact hn) HC.out
      clear hB hb hv hgc hgs hgl hlt hk
      go_wp2_with (go_at_call 43; refine HA.out.mono ?_; rintro e3 w3 ⟨rfl, h3⟩; have H3 := Lib.hid h3; clear h3)
      go_ret
      exact ⟨rfl, (Turned.of_below HX.out.2.2).trans H3.out⟩
end Go.Proofs.Ytcpmnkihhenbgaa
