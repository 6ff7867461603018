/- The law's both: operations on an art and on its model. -/
import Derived.Test.YtfffifmpfkkgbaaOpenW
import Derived.Test.YtfffifmpfkkgbaaRef11d
import Derived.Test.YtfffifmpfkkgbaaPick
import Derived.Deep.RegionHeld3
namespace Go.Proofs.Ytfffifmpfkkgbaa
open Go.RowKit Go.Shelf
set_option maxRecDepth 1000000
set_option maxHeartbeats 4000000

theorem coded_any (k : ByteArray) (hk : k.size ≤ 16) (w : World) : Calls Try.prog 26 #[.string k] w fun e w' => e = .returned (.string (Cd.codeOf k)) ∧ Below w.heap.size w w' := by
  have H := Lib.hid (Cd.rencode_any k w hk)
  clear hk
  go_enter Try.func26, Try.ntmps26
  go_wp2_with (go_at_call 45; refine H.out.mono ?_; rintro e1 w1 ⟨rfl, h1⟩; replace h1 := h1.symm; subst h1)
  go_ret
  exact ⟨rfl, Below.refl _ _⟩
def Dd.code (d : Dd) : ByteArray := if d.raw = true then d.s else Cd.codeOf (d.s.extract 0 (min d.s.size 5))
def Dd.val (d : Dd) : ByteArray := d.text.extract 0 (min d.text.size 32)
def stepD (d : Dd) (l : List Pr) : List Pr := if d.code.size ≤ 200 then (if d.what % 4 < 3 then (putA d.code d.val l).1 else (delA d.code l).1) else l
def runD (ds : Nat → Dd) : Nat → List Pr → List Pr
  | 0, l => l
  | k + 1, l => stepD (ds k) (runD ds k l)
theorem put_length {x y : ByteArray} {l : List Pr} : (putP x y l).length ≤ l.length + 1 := by
  unfold putP insP
  have := drop_len x l
  simp
  omega
theorem step_length (d : Dd) (l : List Pr) : (stepD d l).length ≤ l.length + 1 := by
  have h1 := put_length (x := d.code) (y := d.val) (l := l)
  have h2 := drop_len d.code l
  unfold stepD putA delA
  split
  · split
    · split
      · split
        · exact h1
        · exact Nat.le_succ _
      · exact Nat.le_succ _
    · split
      · exact Nat.le_succ_of_le h2
      · exact Nat.le_succ _
  · exact Nat.le_succ _
theorem run_length (ds : Nat → Dd) : ∀ (k : Nat) (l : List Pr), (runD ds k l).length ≤ l.length + k
  | 0, l => Nat.le_refl _
  | k + 1, l => by
    have h1 := run_length ds k l
    have h2 := step_length (ds k) (runD ds k l)
    unfold runD
    omega
theorem Seg.apart {W W' : World} {p q e m : Nat} {l l2 : List Pr} {v : Value} (h : Seg W v l2) (hA : ArtAt W p q e m l) (ht : Turned [q, e, m] W W') : Seg W' v l2 := by
  refine h.same fun g hg => ?_
  obtain ⟨hl, cur, hc⟩ := h.lt hg
  obtain ⟨u, hs⟩ := hA.st
  have hq : g ≠ q := by rintro rfl; exact absurd (fresh_ty hc hs.key.box) (by decide)
  have he : g ≠ e := by
    rcases hs.key.ety with h1 | ⟨c2, h1⟩
    · rw [h1]; exact hq
    · rintro rfl; exact absurd (fresh_ty hc h1) (by decide)
  have hm : g ≠ m := fun e => hs.map.ne hc e.symm
  exact ht.block g hl (by simp [hq, he, hm])
/-- Where the two stand. -/
structure Two (w0 : World) (W : World) (p q e m : Nat) (v : Value) (l : List Pr) : Prop where
  low : Below w0.heap.size w0 W
  hq : w0.heap.size ≤ q
  he : w0.heap.size ≤ e
  hm : w0.heap.size ≤ m
  art : ArtAt W p q e m l
  seg : Seg W v l
theorem Two.below {w0 W W' : World} {p q e m : Nat} {v : Value} {l : List Pr} (h : Two w0 W p q e m v l) (hb : Below W.heap.size W W') : Two w0 W' p q e m v l := ⟨Below.step h.low hb, h.hq, h.he, h.hm, h.art.below hb, h.seg.below hb⟩
theorem Two.went {w0 W W' : World} {p q e e2 m : Nat} {v2 : Value} {l l2 : List Pr} (hl : Below w0.heap.size w0 W) (hq : w0.heap.size ≤ q) (he : w0.heap.size ≤ e) (hm : w0.heap.size ≤ m) (hA : ArtAt W p q e m l) (hw : Went W W' p q e e2 m l2) (hs : Seg W v2 l2) : Two w0 W' p q e2 m v2 l2 := by
  refine ⟨Turned.below (S := [q, e, m]) hl hw.turned (by simp; omega) hl.size, hq, ?_, hm, hw.bk, hs.apart hA hw.turned⟩
  rcases hw.new with e1 | e1
  · rw [e1]; exact he
  · exact Nat.le_trans hl.size e1
/-- The loop of both ahead of a round. -/
structure BRel (w0 W : World) (p q e m : Nat) (ds : Nat → Dd) (l : List Pr) (i : Nat) (wr : World) : Prop where
  two : ∃ v e2, Two w0 wr p q e2 m v (runD ds i l) ∧ Fresh wr W.heap.size #[v] 28 ∧ (e2 = e ∨ W.heap.size ≤ e2)
  res : Fresh wr (W.heap.size + 1) #[.slice none 0 0] 28
  turned : Turned [q, e, m] W wr
theorem ArtAt.not_box {W : World} {p q e m M : Nat} {l : List Pr} {cs : Array Value} (h : ArtAt W p q e m l) (hf : Fresh W M cs 28) : p ≠ M ∧ q ≠ M ∧ e ≠ M ∧ m ≠ M := by
  obtain ⟨u, hs⟩ := h.st
  have hq : q ≠ M := by rintro rfl; exact absurd (fresh_ty hs.key.box hf) (by decide)
  refine ⟨?_, hq, ?_, hs.map.ne hf⟩
  · rintro rfl; exact absurd (fresh_ty h.ptr hf) (by decide)
  · rcases hs.key.ety with h1 | ⟨c2, h1⟩
    · rw [h1]; exact hq
    · rintro rfl; exact absurd (fresh_ty h1 hf) (by decide)
theorem stored_two {w0 W wr w2 : World} {p q e e2 m : Nat} {ds : Nat → Dd} {l l2 : List Pr} {i : Nat} {v v2 : Value} (two : Two w0 wr p q e2 m v (runD ds i l)) (fM : Fresh wr W.heap.size #[v] 28) (he2 : e2 = e ∨ W.heap.size ≤ e2) (res : Fresh wr (W.heap.size + 1) #[.slice none 0 0] 28) (hT : Turned [q, e, m] W wr) (h0 : w0.heap.size ≤ W.heap.size) (hb : Below wr.heap.size wr w2) (hs : Seg w2 v2 l2) :
    ArtAt (w2.setCell ⟨W.heap.size, 0, none⟩ v2) p q e2 m (runD ds i l) ∧ ∀ w4 e3, Went (w2.setCell ⟨W.heap.size, 0, none⟩ v2) w4 p q e2 e3 m l2 → l2 = runD ds (i + 1) l → BRel w0 W p q e m ds l (i + 1) w4 := by
  have hT3 := (Turned.refl [W.heap.size] w2).setCell (p := W.heap.size) (.inl (by simp)) 0 v2
  obtain ⟨n1, n2, n3, n4⟩ := two.art.not_box fM
  obtain ⟨r1, r2, r3, r4⟩ := two.art.not_box res
  have hA3 : ArtAt (w2.setCell ⟨W.heap.size, 0, none⟩ v2) p q e2 m (runD ds i l) := (two.art.below hb).turned hT3 (by simpa using n1) (by simpa using n2) (by simpa using n3) (by simpa using n4)
  have hM3 := (fM.below hb).set 0 v2
  have hR3 : Fresh (w2.setCell ⟨W.heap.size, 0, none⟩ v2) (W.heap.size + 1) #[.slice none 0 0] 28 := (res.below hb).other (by simp) 0 v2
  have hS3 : Seg (w2.setCell ⟨W.heap.size, 0, none⟩ v2) v2 l2 := hs.same fun g hg => hT3.block g (hs.lt hg).1 (fun e => by
    simp at e
    subst e
    obtain ⟨cur, hc⟩ := (hs.lt hg).2
    exact absurd (fresh_ty hc (fM.below hb)) (by decide))
  have hlow3 : Below w0.heap.size w0 (w2.setCell ⟨W.heap.size, 0, none⟩ v2) := Turned.below (S := [W.heap.size]) (Below.step two.low hb) hT3 (by simpa using h0) (Nat.le_trans two.low.size hb.size)
  refine ⟨hA3, fun w4 e3 hw he => ?_⟩
  subst he
  have h4 := hw.turned
  have t3 : Turned [q, e, m] W (w2.setCell ⟨W.heap.size, 0, none⟩ v2) := (hT.trans (Turned.of_below hb)).setCell (p := W.heap.size) (.inr (Nat.le_refl _)) 0 v2
  have e3e : e3 = e ∨ W.heap.size ≤ e3 := by
    rcases hw.new with e4 | e4
    · rw [e4]; exact he2
    · exact .inr (Nat.le_trans t3.size e4)
  refine ⟨⟨v2, e3, Two.went hlow3 two.hq two.he two.hm hA3 hw hS3, h4.other hM3 (by simp [Ne.symm n2, Ne.symm n3, Ne.symm n4]), e3e⟩, h4.other hR3 (by simp [Ne.symm r2, Ne.symm r3, Ne.symm r4]), ?_⟩
  refine ⟨h4.os.trans t3.os, h4.tape.trans t3.tape, h4.output.trans t3.output, Nat.le_trans t3.size h4.size, fun k hk hn => ?_⟩
  rw [h4.block k (Nat.lt_of_lt_of_le hk t3.size) (fun hx => ?_)]
  · exact t3.block k hk hn
  · simp only [List.mem_cons, List.not_mem_nil, or_false] at hx hn
    rcases hx with hx | hx | hx
    · exact hn (.inl hx)
    · rcases he2 with h5 | h5
      · exact hn (.inr (.inl (hx.trans h5)))
      · omega
    · exact hn (.inr (.inr hx))
theorem both_any {w0 W : World} {p q e m : Nat} {v : Value} {l : List Pr} (h : Two w0 W p q e m v l) (hl : l.length < 800) (ao : Option Addr) (len cap : Nat) (hlen : len ≤ 9223372036854775807) (ds : Nat → Dd) (hD : HasD w0 ao len ds) :
    Calls Try.prog 9 #[.pointer (some ⟨p, 0, none⟩), rb v, .slice ao len cap] W fun e' w' => ∃ v' e2, e' = .returned (rb v') ∧ Two w0 w' p q e2 m v' (runD ds (min len 50) l) ∧ (e2 = e ∨ W.heap.size ≤ e2) ∧ Turned [q, e, m] W w' := by
  obtain ⟨a, cap0, rfl, hcap, _⟩ := h.seg.form
  obtain ⟨W1, hW1, b1, f1, f2, s1⟩ := rbox2 W (.slice a l.length cap0)
  have hrel0 : BRel w0 W p q e m ds l 0 W1 := ⟨⟨_, e, h.below b1, f1, .inl rfl⟩, f2, .of_below b1⟩
  have HW1 := Lib.hid hW1
  have HR0 := Lib.hid hrel0
  have HD := Lib.hid hD
  have HL := Lib.hid hl
  obtain ⟨N, hN⟩ : ∃ N, min len 50 = N := ⟨_, rfl⟩
  have HN := Lib.hid hN
  have HLN := Lib.hid hlen
  have HLT := Lib.hid (And.intro h.art.lt (And.intro h.hq (And.intro h.hm h.low.size)))
  rw [hN]
  generalize hPost : (fun (e' : Ending) (w' : World) => ∃ v' e2, e' = .returned (rb v') ∧ Two w0 w' p q e2 m v' (runD ds N l) ∧ (e2 = e ∨ W.heap.size ≤ e2) ∧ Turned [q, e, m] W w') = Post
  have HPost := Lib.hid hPost
  clear h hl hlen hD hcap hW1 b1 f1 f2 s1 hrel0 hN hPost
  unfold rb
  go_enter Try.func9, Try.ntmps9
  go_upto_region 1 with fail
  rw [← HW1.out]
  go_wp2_with fail
  go_loopw [7] (fun iv wr => ∃ i : Nat, i ≤ N ∧ iv = .int .i64 i ∧ BRel w0 W p q e m ds l i wr) (fun iv _ => N - (intOf iv).toNat)
  case atStart => exact ⟨0, Nat.zero_le _, rfl, HR0.out⟩
  case round =>
    obtain ⟨i, hi, rfl, hR⟩ := hrel
    have hn := HN.out
    have hln := HLN.out
    by_cases hlt : i < N
    · obtain ⟨⟨v, e2, two, fM, he2⟩, res, hT⟩ := hR
      obtain ⟨blk, off, hao, hblk, k0, k1, k2, k3, z2, z3⟩ := HD.out.at_ i (by omega)
      subst hao
      have lowc : ∀ (n : Nat) (u : Value), w0.cell? ⟨blk, n, none⟩ = some u → wr.cell? ⟨blk, n, none⟩ = some u := fun n u h => (two.low.cell (p := ⟨blk, n, none⟩) hblk).trans h
      replace k0 := lowc _ _ k0
      replace k1 := lowc _ _ k1
      replace k2 := lowc _ _ k2
      replace k3 := lowc _ _ k3
      obtain ⟨a1, cap1, rfl, hcp, _⟩ := two.seg.form
      have hgood := two.art.good
      have hrl := run_length ds i l
      have hl8 := HL.out
      obtain ⟨d, hd⟩ : ∃ d, ds i = d := ⟨_, rfl⟩
      rw [hd] at k0 k1 k2 k3 z2 z3
      have hnext : runD ds (i + 1) l = stepD (ds i) (runD ds i l) := rfl
      have HSZ := Lib.hid (And.intro hrl (And.intro hl8 (show i < 50 by omega)))
      have HTW := Lib.hid (And.intro two (And.intro fM (And.intro he2 (And.intro res hT))))
      have HNX := Lib.hid hnext
      have d0 := fM.cell 0
      have d1 := fM.thawed 0
      simp only [List.getElem?_toArray, List.getElem?_cons_zero] at d0
      obtain ⟨dw, dr, dsx, dt⟩ := d
      have HLD := Lib.hid hd
      dsimp only at k0 k1 k2 k3 z2 z3
      obtain ⟨r5, hr5⟩ : ∃ r5, min dsx.size 5 = r5 := ⟨_, rfl⟩
      obtain ⟨r32, hr32⟩ : ∃ r32, min dt.size 32 = r32 := ⟨_, rfl⟩
      obtain ⟨nS, hnS⟩ : ∃ nS, dsx.size = nS := ⟨_, rfl⟩
      obtain ⟨nT, hnT⟩ : ∃ nT, dt.size = nT := ⟨_, rfl⟩
      have m5 : min (nS : Int) 5 = (r5 : Int) := by omega
      have m32 : min (nT : Int) 32 = (r32 : Int) := by omega
      have b5 : (r5 : Int) ≤ (nS : Int) := by omega
      have b32 : (r32 : Int) ≤ (nT : Int) := by omega
      have j0 : (0 : Int) ≤ (i : Int) := by omega
      have j1 : (i : Int) < (len : Int) := by omega
      have j2 : (i : Int) < 50 := by omega
      have jw : IntKind.i64.wrap ((i : Int) + 1) = (i : Int) + 1 := by rw [IntKind.wrap_i64]; omega
      have H5 := Lib.hid (And.intro hr5 (And.intro hr32 (And.intro hnS hnT)))
      clear hn hln lowc hgood hrl hl8 hd hnext two fM he2 res hT hcp z2 z3 hblk hi hr5 hr32
      cases dr
      · have HC := Lib.hid (fun w => coded_any (dsx.extract 0 r5) (by have := H5.out.1; simp; omega) w)
        have z5 : ((r5 : Int)).toNat = r5 := by omega
        have zz5 : (0 : Int) ≤ (r5 : Int) := by omega
        go_upto_region 7 with (go_at_call 26; refine (HC.out _).mono ?_; rintro e1 w1 ⟨rfl, hb1⟩; have k0 := (hb1.cell (cell_lt' k0)).trans k0; have k3 := (hb1.cell (cell_lt' k3)).trans k3; have d0 := (hb1.cell (cell_lt' d0)).trans d0; have HB1 := Lib.hid hb1; clear hb1)
        have hcode : Dd.code ⟨dw, false, dsx, dt⟩ = Cd.codeOf (dsx.extract 0 r5) := by have := H5.out.1; unfold Dd.code; rw [if_neg (by simp), this]
        obtain ⟨SS, hSS⟩ : ∃ SS, Cd.codeOf (dsx.extract 0 r5) = SS := ⟨_, rfl⟩
        rw [hSS]
        have HCD := Lib.hid (hcode.trans hSS)
        clear hcode hSS
        obtain ⟨nC, hnC⟩ : ∃ nC, SS.size = nC := ⟨_, rfl⟩
        have HNC := Lib.hid hnC
        obtain ⟨X2, hX2⟩ : ∃ X2, X2 = w1.drew := ⟨_, rfl⟩
        have B2 : Below wr.heap.size wr X2 := by rw [hX2]; exact Below.step HB1.out (Below.refl _ _).drew
        obtain ⟨g1, g2, g3, g4, g5⟩ := HTW.out
        have T2 := Lib.hid (And.intro (g1.below B2) (And.intro (g2.below B2) (And.intro g3 (And.intro (g4.below B2) (g5.trans (Turned.of_below B2))))))
        clear g1 g2 g3 g4 g5
        have kk0 : X2.cell? ⟨blk, off + i * 4, none⟩ = some (.int .i64 dw) := by rw [hX2]; exact k0
        have dd0 : X2.cell? ⟨W.heap.size, 0, none⟩ = some (.slice a1 (runD ds i l).length cap1) := by rw [hX2]; exact d0
        have z32 : ((r32 : Int)).toNat = r32 := by omega
        have zz32 : (0 : Int) ≤ (r32 : Int) := by omega
        have HX2 := Lib.hid hX2
        clear hX2 B2
        go_region_held3 (fun w => w.cell? ⟨blk, off + i * 4 + 3, none⟩ = some (.string dt)) (go_keep) (fail)
        all_goals
          rw [← HX2.out]
          clear k0 k1 k2 k3 d0
          obtain ⟨VV, hVV⟩ : ∃ VV, dt.extract 0 r32 = VV := ⟨_, rfl⟩
          have HVV := Lib.hid hVV
          have hval : Hid (Dd.val ⟨dw, false, dsx, dt⟩ = VV) := by have := H5.out.2.1; show _ = _; unfold Dd.val; rw [this]; exact hVV
          try rw [hVV]
          clear hVV
          by_cases h200 : nC ≤ 200
          · have js : ¬ (200 : Int) < (nC : Int) := by omega
            have hSZS : Hid (SS.size ≤ 1000 ∧ SS.size ≤ 1000000) := by have := HNC.out; exact ⟨by omega, by omega⟩
            have hVSZ : Hid (VV.size ≤ 1000000) := by have := HVV.out; have h5 := H5.out.2.1; show _ ≤ _; rw [← this]; simp; omega
            have hpk : 0 ≤ dw % 4 ∧ dw % 4 < 4 := by omega
            by_cases hp : dw % 4 < 3
            · have hst : Hid ((putA SS VV (runD ds i l)).1 = runD ds (i + 1) l) := by
                show _ = _
                rw [HNX.out, HLD.out]; unfold stepD
                rw [HCD.out, hval.out, HNC.out, if_pos h200, if_pos hp]
              have HP := Lib.hid (rput_any T2.out.1.seg T2.out.1.art.good.1 T2.out.1.art.good.2 (by have := HSZ.out; omega) SS VV hSZS.out.1)
              unfold rb at HP
              go_wp2_with (first
                | (go_at_call 19; refine (pick_any dw 4 (by omega) (by omega) _).mono ?_; rintro e3 w3 ⟨rfl, h3⟩; replace h3 := h3.symm; subst h3)
                | (go_at_call 27; refine HP.out.mono ?_; rintro e3 w3 ⟨v3, rfl, hb3, hs3⟩; obtain ⟨a3, cap3, rfl, _, _⟩ := hs3.form; obtain ⟨y1, y2⟩ := stored_two T2.out.1 T2.out.2.1 T2.out.2.2.1 T2.out.2.2.2.1 T2.out.2.2.2.2 HLT.out.2.2.2 hb3 hs3; have ff := T2.out.2.1.below hb3; have x0 := ff.cell 0; have x1 := ff.thawed 0; simp only [List.getElem?_toArray, List.getElem?_cons_zero] at x0; have H3 := Lib.hid (And.intro y1 y2); clear hb3 hs3 y1 y2 ff)
                | (go_at_call 25; refine (put_any H3.out.1 (by have := HSZ.out; omega) SS VV hSZS.out.2 hVSZ.out).mono ?_; rintro e4 w4 ⟨rfl, e5, hw4⟩; have H4 := Lib.hid (H3.out.2 w4 e5 hw4 hst.out); clear hw4))
              go_roundw
              case rel => exact ⟨i + 1, by omega, by simp, H4.out⟩
              case measure => simp [intOf]; omega
            · have hst : Hid ((delA SS (runD ds i l)).1 = runD ds (i + 1) l) := by
                show _ = _
                rw [HNX.out, HLD.out]; unfold stepD
                rw [HCD.out, hval.out, HNC.out, if_pos h200, if_neg hp]
              have HP := Lib.hid (rdelete_any T2.out.1.seg T2.out.1.art.good.1 T2.out.1.art.good.2 (by have := HSZ.out; omega) SS)
              unfold rb at HP
              have hp' : ¬ dw % 4 < 3 := hp
              go_wp2_with (first
                | (go_at_call 19; refine (pick_any dw 4 (by omega) (by omega) _).mono ?_; rintro e3 w3 ⟨rfl, h3⟩; replace h3 := h3.symm; subst h3)
                | (go_at_call 28; refine HP.out.mono ?_; rintro e3 w3 ⟨v3, rfl, hb3, hs3⟩; obtain ⟨a3, cap3, rfl, _, _⟩ := hs3.form; obtain ⟨y1, y2⟩ := stored_two T2.out.1 T2.out.2.1 T2.out.2.2.1 T2.out.2.2.2.1 T2.out.2.2.2.2 HLT.out.2.2.2 hb3 hs3; have ff := T2.out.2.1.below hb3; have x0 := ff.cell 0; have x1 := ff.thawed 0; simp only [List.getElem?_toArray, List.getElem?_cons_zero] at x0; have H3 := Lib.hid (And.intro y1 y2); clear hb3 hs3 y1 y2 ff)
                | (go_at_call 29; refine (delete_art H3.out.1 (by have := HSZ.out; omega) SS).mono ?_; rintro e4 w4 ⟨rfl, e5, hw4⟩; have H4 := Lib.hid (H3.out.2 w4 e5 hw4 hst.out); clear hw4))
              go_roundw
              case rel => exact ⟨i + 1, by omega, by simp, H4.out⟩
              case measure => simp [intOf]; omega
          · have js : (200 : Int) < (nC : Int) := by omega
            have hst : Hid (runD ds i l = runD ds (i + 1) l) := by
              show _ = _
              rw [HNX.out, HLD.out]; unfold stepD
              rw [HCD.out, HNC.out, if_neg h200]
            go_wp2_with fail
            go_roundw
            case rel => exact ⟨i + 1, by omega, by simp, ⟨_, _, by rw [← hst.out]; exact T2.out.1, T2.out.2.1, T2.out.2.2.1⟩, T2.out.2.2.2.1, T2.out.2.2.2.2⟩
            case measure => simp [intOf]; omega
      · have hcode : Dd.code ⟨dw, true, dsx, dt⟩ = dsx := by unfold Dd.code; rw [if_pos rfl]
        have HB1 : Hid (Below wr.heap.size wr wr) := Below.refl _ _
        go_upto_region 7 with fail
        obtain ⟨SS, hSS⟩ : ∃ SS, dsx = SS := ⟨_, rfl⟩
        rw [hSS]
        have HCD := Lib.hid (hcode.trans hSS)
        clear hcode hSS
        obtain ⟨nC, hnC⟩ : ∃ nC, SS.size = nC := ⟨_, rfl⟩
        have HNC := Lib.hid hnC
        obtain ⟨X2, hX2⟩ : ∃ X2, X2 = wr.drew := ⟨_, rfl⟩
        have B2 : Below wr.heap.size wr X2 := by rw [hX2]; exact Below.step HB1.out (Below.refl _ _).drew
        obtain ⟨g1, g2, g3, g4, g5⟩ := HTW.out
        have T2 := Lib.hid (And.intro (g1.below B2) (And.intro (g2.below B2) (And.intro g3 (And.intro (g4.below B2) (g5.trans (Turned.of_below B2))))))
        clear g1 g2 g3 g4 g5
        have kk0 : X2.cell? ⟨blk, off + i * 4, none⟩ = some (.int .i64 dw) := by rw [hX2]; exact k0
        have dd0 : X2.cell? ⟨W.heap.size, 0, none⟩ = some (.slice a1 (runD ds i l).length cap1) := by rw [hX2]; exact d0
        have z32 : ((r32 : Int)).toNat = r32 := by omega
        have zz32 : (0 : Int) ≤ (r32 : Int) := by omega
        have HX2 := Lib.hid hX2
        clear hX2 B2
        go_region_held3 (fun w => w.cell? ⟨blk, off + i * 4 + 3, none⟩ = some (.string dt)) (go_keep) (fail)
        all_goals
          rw [← HX2.out]
          clear k0 k1 k2 k3 d0
          obtain ⟨VV, hVV⟩ : ∃ VV, dt.extract 0 r32 = VV := ⟨_, rfl⟩
          have HVV := Lib.hid hVV
          have hval : Hid (Dd.val ⟨dw, true, dsx, dt⟩ = VV) := by have := H5.out.2.1; show _ = _; unfold Dd.val; rw [this]; exact hVV
          try rw [hVV]
          clear hVV
          by_cases h200 : nC ≤ 200
          · have js : ¬ (200 : Int) < (nC : Int) := by omega
            have hSZS : Hid (SS.size ≤ 1000 ∧ SS.size ≤ 1000000) := by have := HNC.out; exact ⟨by omega, by omega⟩
            have hVSZ : Hid (VV.size ≤ 1000000) := by have := HVV.out; have h5 := H5.out.2.1; show _ ≤ _; rw [← this]; simp; omega
            have hpk : 0 ≤ dw % 4 ∧ dw % 4 < 4 := by omega
            by_cases hp : dw % 4 < 3
            · have hst : Hid ((putA SS VV (runD ds i l)).1 = runD ds (i + 1) l) := by
                show _ = _
                rw [HNX.out, HLD.out]; unfold stepD
                rw [HCD.out, hval.out, HNC.out, if_pos h200, if_pos hp]
              have HP := Lib.hid (rput_any T2.out.1.seg T2.out.1.art.good.1 T2.out.1.art.good.2 (by have := HSZ.out; omega) SS VV hSZS.out.1)
              unfold rb at HP
              go_wp2_with (first
                | (go_at_call 19; refine (pick_any dw 4 (by omega) (by omega) _).mono ?_; rintro e3 w3 ⟨rfl, h3⟩; replace h3 := h3.symm; subst h3)
                | (go_at_call 27; refine HP.out.mono ?_; rintro e3 w3 ⟨v3, rfl, hb3, hs3⟩; obtain ⟨a3, cap3, rfl, _, _⟩ := hs3.form; obtain ⟨y1, y2⟩ := stored_two T2.out.1 T2.out.2.1 T2.out.2.2.1 T2.out.2.2.2.1 T2.out.2.2.2.2 HLT.out.2.2.2 hb3 hs3; have ff := T2.out.2.1.below hb3; have x0 := ff.cell 0; have x1 := ff.thawed 0; simp only [List.getElem?_toArray, List.getElem?_cons_zero] at x0; have H3 := Lib.hid (And.intro y1 y2); clear hb3 hs3 y1 y2 ff)
                | (go_at_call 25; refine (put_any H3.out.1 (by have := HSZ.out; omega) SS VV hSZS.out.2 hVSZ.out).mono ?_; rintro e4 w4 ⟨rfl, e5, hw4⟩; have H4 := Lib.hid (H3.out.2 w4 e5 hw4 hst.out); clear hw4))
              go_roundw
              case rel => exact ⟨i + 1, by omega, by simp, H4.out⟩
              case measure => simp [intOf]; omega
            · have hst : Hid ((delA SS (runD ds i l)).1 = runD ds (i + 1) l) := by
                show _ = _
                rw [HNX.out, HLD.out]; unfold stepD
                rw [HCD.out, hval.out, HNC.out, if_pos h200, if_neg hp]
              have HP := Lib.hid (rdelete_any T2.out.1.seg T2.out.1.art.good.1 T2.out.1.art.good.2 (by have := HSZ.out; omega) SS)
              unfold rb at HP
              have hp' : ¬ dw % 4 < 3 := hp
              go_wp2_with (first
                | (go_at_call 19; refine (pick_any dw 4 (by omega) (by omega) _).mono ?_; rintro e3 w3 ⟨rfl, h3⟩; replace h3 := h3.symm; subst h3)
                | (go_at_call 28; refine HP.out.mono ?_; rintro e3 w3 ⟨v3, rfl, hb3, hs3⟩; obtain ⟨a3, cap3, rfl, _, _⟩ := hs3.form; obtain ⟨y1, y2⟩ := stored_two T2.out.1 T2.out.2.1 T2.out.2.2.1 T2.out.2.2.2.1 T2.out.2.2.2.2 HLT.out.2.2.2 hb3 hs3; have ff := T2.out.2.1.below hb3; have x0 := ff.cell 0; have x1 := ff.thawed 0; simp only [List.getElem?_toArray, List.getElem?_cons_zero] at x0; have H3 := Lib.hid (And.intro y1 y2); clear hb3 hs3 y1 y2 ff)
                | (go_at_call 29; refine (delete_art H3.out.1 (by have := HSZ.out; omega) SS).mono ?_; rintro e4 w4 ⟨rfl, e5, hw4⟩; have H4 := Lib.hid (H3.out.2 w4 e5 hw4 hst.out); clear hw4))
              go_roundw
              case rel => exact ⟨i + 1, by omega, by simp, H4.out⟩
              case measure => simp [intOf]; omega
          · have js : (200 : Int) < (nC : Int) := by omega
            have hst : Hid (runD ds i l = runD ds (i + 1) l) := by
              show _ = _
              rw [HNX.out, HLD.out]; unfold stepD
              rw [HCD.out, HNC.out, if_neg h200]
            go_wp2_with fail
            go_roundw
            case rel => exact ⟨i + 1, by omega, by simp, ⟨_, _, by rw [← hst.out]; exact T2.out.1, T2.out.2.1, T2.out.2.2.1⟩, T2.out.2.2.2.1, T2.out.2.2.2.2⟩
            case measure => simp [intOf]; omega
    · obtain rfl : i = N := by omega
      obtain ⟨⟨v, e2, two, fM, he2⟩, res, hT⟩ := hR
      obtain ⟨a1, cap1, rfl, hcp, _⟩ := two.seg.form
      have d0 := fM.cell 0
      have t0 := res.cell 0
      have t1 := res.thawed 0
      simp only [List.getElem?_toArray, List.getElem?_cons_zero] at d0 t0
      have q0 := (res.set 0 (.slice a1 (runD ds i l).length cap1)).cell 0
      simp at q0
      have H1 := Lib.hid (And.intro two (And.intro fM (And.intro he2 (And.intro res hT))))
      have HFIN : Hid (Two w0 (wr.setCell ⟨W.heap.size + 1, 0, none⟩ (.slice a1 (runD ds i l).length cap1)) p q e2 m (.slice a1 (runD ds i l).length cap1) (runD ds i l) ∧ Turned [q, e, m] W (wr.setCell ⟨W.heap.size + 1, 0, none⟩ (.slice a1 (runD ds i l).length cap1))) := by
        have hT3 := (Turned.refl [W.heap.size + 1] wr).setCell (p := W.heap.size + 1) (.inl (by simp)) 0 (.slice a1 (runD ds i l).length cap1)
        obtain ⟨n1, n2, n3, n4⟩ := two.art.not_box res
        refine ⟨⟨Turned.below (S := [W.heap.size + 1]) two.low hT3 (by have := HLT.out.2.2.2; simp; omega) two.low.size, two.hq, two.he, two.hm, two.art.turned hT3 (by simpa using n1) (by simpa using n2) (by simpa using n3) (by simpa using n4), two.seg.same fun g hg => hT3.block g (two.seg.lt hg).1 (fun e => ?_)⟩, hT.setCell (p := W.heap.size + 1) (.inr (by omega)) 0 _⟩
        simp at e
        subst e
        obtain ⟨cur, hc⟩ := (two.seg.lt hg).2
        exact absurd (fresh_ty hc res) (by decide)
      clear two fM he2 res hT hcp
      by_cases h50 : len ≤ 50
      · have j1 : ¬ (i : Int) < (len : Int) := by omega
        clear hn hln
        go_wp2_with fail
        refine bodyPost_ret (v := rb (.slice a1 (runD ds i l).length cap1)) (by simp [results, Try.results9, go_sem, rb, q0]) rfl ?_
        rw [← HPost.out]
        exact ⟨_, e2, rfl, HFIN.out.1, H1.out.2.2.1, HFIN.out.2⟩
      · have j1 : (i : Int) < (len : Int) := by omega
        have j2 : ¬ (i : Int) < 50 := by omega
        clear hn hln
        go_wp2_with fail
        refine bodyPost_ret (v := rb (.slice a1 (runD ds i l).length cap1)) (by simp [results, Try.results9, go_sem, rb, q0]) rfl ?_
        rw [← HPost.out]
        exact ⟨_, e2, rfl, HFIN.out.1, H1.out.2.2.1, HFIN.out.2⟩
end Go.Proofs.Ytfffifmpfkkgbaa
