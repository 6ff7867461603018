/- The law BookCopies, over its opened arguments. -/
import Derived.Test.YtcpmnkihhenbgaaCopL
import Derived.Test.YtcpmnkihhenbgaaLooksB
import Derived.Lib.QuietBelow
namespace Go.Proofs.Ytcpmnkihhenbgaa
open Go.RowKit Go.Shelf
attribute [local go_sem] Oper.semAt_some
set_option maxRecDepth 1000000
set_option maxHeartbeats 8000000

/-- A deed of a list of deeds, wherever the world has gone. -/
theorem deed_of {w : World} {ao : Option Addr} {len i : Nat} (hd : IsDeeds w ao len) (hi : i < len) : ∃ blk off, ao = some ⟨blk, off, none⟩ ∧ ∃ dd : Dd, ∀ W, Below w.heap.size w W → W.cell? ⟨blk, off + i * 5, none⟩ = some (.int .i64 dd.what) ∧ W.cell? ⟨blk, off + i * 5 + 1, none⟩ = some (.string dd.key) ∧ W.cell? ⟨blk, off + i * 5 + 2, none⟩ = some (.string dd.value) ∧ W.cell? ⟨blk, off + i * 5 + 3, none⟩ = some (.string dd.old) ∧ W.cell? ⟨blk, off + i * 5 + 4, none⟩ = some (.int .i64 dd.n) := by
  obtain ⟨blk, off, dd, rfl, hbl, hd⟩ := deed_at hd hi
  exact ⟨blk, off, rfl, dd, fun W hb => ⟨(hb.cell (p := ⟨blk, _, none⟩) hbl).trans hd.1, (hb.cell (p := ⟨blk, _, none⟩) hbl).trans hd.2.1, (hb.cell (p := ⟨blk, _, none⟩) hbl).trans hd.2.2.1, (hb.cell (p := ⟨blk, _, none⟩) hbl).trans hd.2.2.2.1, (hb.cell (p := ⟨blk, _, none⟩) hbl).trans hd.2.2.2.2⟩⟩
theorem copies_in (q : Lm) (ao : Option Addr) (len cap : Nat) (ao2 : Option Addr) (len2 cap2 : Nat) (w : World) (hdd : IsDeeds w ao len) (hdd2 : IsDeeds w ao2 len2) (hl80 : len ≤ 80) (hl802 : len2 ≤ 80) :
    Calls Try.prog 4 #[q.v, .slice ao len cap, .slice ao2 len2 cap2] w fun e w' => e = .returned (.bool true) ∧ Below w.heap.size w w' := by
  obtain ⟨W1, hW1⟩ : ∃ W1, W1 = (w.alloc (.cells #[.int .u64 (q.k : Int), .int .u64 (q.b : Int)] 24)).alloc (.cells #[.slice ao2 len2 cap2] 25) := ⟨_, rfl⟩
  have B1 : Below w.heap.size w W1 := by rw [hW1]; exact Below.new (Below.new (Below.refl _ _) _) _
  have f0 : Fresh W1 w.heap.size #[.int .u64 (q.k : Int), .int .u64 (q.b : Int)] 24 := by rw [hW1]; exact (Fresh.new _ _ _ _ rfl).alloc _
  have f1 : Fresh W1 (w.heap.size + 1) #[.slice ao2 len2 cap2] 25 := by rw [hW1]; exact Fresh.new _ _ _ _ (by simp)
  have HF := Lib.hid (And.intro f0 f1)
  have HB := Lib.hid B1
  have HDD := Lib.hid hdd
  have HDD2 := Lib.hid hdd2
  have HW1 := Lib.hid hW1
  have g0 := f0.cell 0
  have g1 := f0.cell 1
  have gm := f1.cell 0
  simp only [List.getElem?_toArray, List.getElem?_cons_zero, List.getElem?_cons_succ] at g0 g1 gm
  have k1 : ¬ (80 : Int) < (len : Int) := by omega
  have k2 : ¬ (80 : Int) < (len2 : Int) := by omega
  clear hW1 B1 f0 f1 hdd hdd2
  unfold Lm.v
  refine (callsIn_wide (n := 10)).1 ?_
  refine callsIn_of_wp_marks Try.func4 rfl trivial ?_ rfl
  simp only [Try.ntmps4, List.size_toArray, List.length_cons, List.length_nil, Nat.reduceAdd, Nat.reduceSub, Array.replicate_succ, Array.replicate_zero, List.push_toArray, List.append_toArray, List.nil_append, List.cons_append]
  refine wpIn_wide.2 ?_
  refine wp_mono (Q := calmQ _) ?_ calmQ_out
  go_upto_region 1 with fail
  rw [← HW1.out]
  go_upto_region 4 with (first
    | (go_at_call 10; refine (new_here q.k q.b W1 _ (Below.refl _ _)).mono ?_; rintro e3 w3 ⟨p, q0, mp, rfl, h3⟩; have H3 := Lib.hid h3; have g0 := (h3.low.cell (cell_lt g0)).trans g0; have g1 := (h3.low.cell (cell_lt g1)).trans g1; clear h3))
  obtain ⟨Wb, hWb⟩ : ∃ Wb, Wb = w3.alloc (.cells #[.pointer (some ⟨p, 0, none⟩)] 27) := ⟨_, rfl⟩
  rw [← hWb]
  have b3 : Below w3.heap.size w3 Wb := by rw [hWb]; exact Below.new (Below.refl _ _) _
  have fb : Fresh Wb w3.heap.size #[.pointer (some ⟨p, 0, none⟩)] 27 := by rw [hWb]; exact Fresh.new _ _ _ _ rfl
  have hb3 := H3.out.below b3
  have g0 := (b3.cell (cell_lt g0)).trans g0
  have g1 := (b3.cell (cell_lt g1)).trans g1
  obtain ⟨bb, hbb⟩ : ∃ bb, w3.heap.size = bb := ⟨_, rfl⟩
  rw [hbb] at fb ⊢
  have HBB : Hid (W1.heap.size ≤ bb) := by show _ ≤ _; rw [← hbb]; exact H3.out.low.size
  have H3b := Lib.hid (And.intro hb3 fb)
  clear hWb hbb b3 fb hb3 gm
  go_upto_region 5 with fail
  obtain ⟨W4, hW4⟩ : ∃ W4, W4 = Wb.alloc (.cells #[.slice none 0 0, .int .u64 (q.k : Int), .int .u64 (q.b : Int)] 31) := ⟨_, rfl⟩
  rw [← hW4]
  have H4 : Hid (Pairt W1 W4 p q0 q0 mp Wb.heap.size [] (.slice none 0 0) q.k q.b ∧ Fresh W4 bb #[.pointer (some ⟨p, 0, none⟩)] 27) := by
    have b4 : Below Wb.heap.size Wb W4 := by rw [hW4]; exact Below.new (Below.refl _ _) _
    exact ⟨⟨H3b.out.1.below b4, Seg.nil _, by rw [hW4]; exact Fresh.new _ _ _ _ rfl⟩, H3b.out.2.below b4⟩
  have HZ : Hid (W1.heap.size ≤ Wb.heap.size) := H3b.out.1.low.size
  obtain ⟨z, hz⟩ : ∃ z, Wb.heap.size = z := ⟨_, rfl⟩
  rw [hz] at H4 HZ ⊢
  have HZB : Hid (bb ≠ z) := by show _ ≠ _; have := H3b.out.2.lt; omega
  clear hW4 hz g0 g1 H3 H3b
  go_wp2_with fail
  go_loopw [9] (fun iv wr => ∃ i : Nat, i ≤ len ∧ iv = .int .i64 i ∧ ∃ e l v, Pairt W1 wr p q0 e mp z l v q.k q.b ∧ Fresh wr bb #[.pointer (some ⟨p, 0, none⟩)] 27 ∧ l.length ≤ i) (fun iv _ => len - (intOf iv).toNat)
  case atStart => exact ⟨0, Nat.zero_le _, rfl, q0, [], _, H4.out.1, H4.out.2, Nat.le_refl _⟩
  case round =>
    obtain ⟨i, hi, rfl, e, l, v, hH, hfb, hl⟩ := hrel
    obtain ⟨wq, hwq⟩ : ∃ wq, wq = wr := ⟨_, rfl⟩
    rw [← hwq] at hH hfb ⊢
    clear hwq H4
    obtain ⟨av, cv, rfl, _, _⟩ := hH.seg.form
    have HH := Lib.hid hH
    have HL := Lib.hid hl
    have HFB := Lib.hid hfb
    by_cases hlt : i < len
    · have jl : (i : Int) < (len : Int) := by omega
      have j0 : (0 : Int) ≤ (i : Int) := by omega
      have j80 : (i : Int) < 80 := by omega
      have jd : decide (i < len) = true := decide_eq_true hlt
      obtain ⟨blk, off, rfl, dd, hc⟩ := deed_of HDD.out hlt
      have HC : Hid (∀ W, Below W1.heap.size W1 W → W.cell? ⟨blk, off + i * 5, none⟩ = some (.int .i64 dd.what) ∧ W.cell? ⟨blk, off + i * 5 + 1, none⟩ = some (.string dd.key) ∧ W.cell? ⟨blk, off + i * 5 + 2, none⟩ = some (.string dd.value) ∧ W.cell? ⟨blk, off + i * 5 + 3, none⟩ = some (.string dd.old) ∧ W.cell? ⟨blk, off + i * 5 + 4, none⟩ = some (.int .i64 dd.n)) := fun W hb => hc W (Below.step HB.out hb)
      clear hH hl hc hi hfb
      obtain ⟨d0, d1, d2, d3, d4⟩ := HC.out _ HH.out.bk.low
      cases hfd : dd.fit
      · have HFD := Lib.hid hfd
        clear hfd
        go_wp2_with (first
          | (go_at_call 11; refine (fitD_any dd _).mono ?_; rw [HFD.out]; rintro e5 w5 ⟨rfl, hb5⟩; have H5 := Lib.hid hb5; clear hb5))
        go_roundw
        case rel => exact ⟨i + 1, by omega, by simp, e, l, _, HH.out.below H5.out, HFB.out.below H5.out, by have := HL.out; omega⟩
        case measure => simp [intOf]; omega
      · have HFD := Lib.hid hfd
        clear hfd
        go_upto_region 9 with (first
          | (go_at_call 11; refine (fitD_any dd _).mono ?_; rw [HFD.out]; rintro e5 w5 ⟨rfl, hb5⟩; have H5 := Lib.hid (HH.out.below hb5); have F5 := Lib.hid (HFB.out.below hb5); clear hb5))
        have H5d : Hid (Pairt W1 w5.drew p q0 e mp z l (.slice av l.length cv) q.k q.b) := H5.out.below (Below.refl _ _).drew
        have HD : Hid (∀ W', Below w5.drew.heap.size w5.drew W' → Calls Try.prog 12 #[.pointer (some ⟨p, 0, none⟩), rb (.slice av l.length cv) q.k q.b, dd.v] W' (DoesB W1 W' p q0 e mp q.k q.b (actS dd l q.k q.b).1)) := fun W' hb => does_any (H5d.out.below hb).bk (H5d.out.below hb).seg (by have := HL.out; omega) dd
        obtain ⟨L2, hL2⟩ : ∃ L2, (actS dd l q.k q.b).1 = L2 := ⟨_, rfl⟩
        rw [hL2] at HD
        have HL2 : Hid (L2.length ≤ i + 1) := by
          show _ ≤ _
          have := act_len dd l q.k q.b
          have := HL.out
          rw [hL2] at *
          omega
        unfold rb Dd.v at HD
        have KS : Hid (∀ W', Fresh W' z #[.slice av l.length cv, .int .u64 (q.k : Int), .int .u64 (q.b : Int)] 31 → Fresh W' bb #[.pointer (some ⟨p, 0, none⟩)] 27 → Below W1.heap.size W1 W' → W'.cell? ⟨z, 0, none⟩ = some (.slice av l.length cv) ∧ W'.cell? ⟨z, 1, none⟩ = some (.int .u64 (q.k : Int)) ∧ W'.cell? ⟨z, 2, none⟩ = some (.int .u64 (q.b : Int)) ∧ W'.cell? ⟨bb, 0, none⟩ = some (.pointer (some ⟨p, 0, none⟩)) ∧ W'.cell? ⟨blk, off + i * 5, none⟩ = some (.int .i64 dd.what) ∧ W'.cell? ⟨blk, off + i * 5 + 1, none⟩ = some (.string dd.key) ∧ W'.cell? ⟨blk, off + i * 5 + 2, none⟩ = some (.string dd.value) ∧ W'.cell? ⟨blk, off + i * 5 + 3, none⟩ = some (.string dd.old) ∧ W'.cell? ⟨blk, off + i * 5 + 4, none⟩ = some (.int .i64 dd.n)) := fun W' hf hf2 hb => ⟨hf.cell 0, hf.cell 1, hf.cell 2, hf2.cell 0, HC.out W' hb⟩
        clear d0 d1 d2 d3 d4 hL2
        obtain ⟨y0, y1, y2, y3, d0, d1, d2, d3, d4⟩ := KS.out _ H5.out.box F5.out H5.out.bk.low
        refine (wpIn_wide (n := 0)).1 ?_
        refine region_mix [2, 3, 4, 7, 8, 9] [0, 0, 0, 0, 12, 28, 63, 127, 255, 255, 511] [2, 3, 4, 0, 1, 5, 6, 7, 8, 9, 10] (by kernel_rfl) rfl (by kernel_rfl) ?_
        refine mix_pure (v := ?_) (by simp only [List.getElem?_toArray, List.getElem?_cons_succ, List.getElem?_cons_zero] <;> rfl) (by kernel_rfl) ⟨Or.inl ⟨by kernel_rfl, ?_⟩, fun _ => (by rfl)⟩ ?_; rotate_left 1; focus (intro w; go_simp; try with_reducible rfl)
        simp only [Act.put, List.setIfInBounds_toArray, List.set_cons_zero, List.set_cons_succ]
        refine mix_pure (v := ?_) (by simp only [List.getElem?_toArray, List.getElem?_cons_succ, List.getElem?_cons_zero] <;> rfl) (by kernel_rfl) ⟨Or.inl ⟨by kernel_rfl, ?_⟩, fun _ => (by rfl)⟩ ?_; rotate_left 1; focus (intro w; go_simp; try with_reducible rfl)
        simp only [Act.put, List.setIfInBounds_toArray, List.set_cons_zero, List.set_cons_succ]
        refine mix_pure (v := ?_) (by simp only [List.getElem?_toArray, List.getElem?_cons_succ, List.getElem?_cons_zero] <;> rfl) (by kernel_rfl) ⟨Or.inl ⟨by kernel_rfl, ?_⟩, fun _ => (by rfl)⟩ ?_; rotate_left 1; focus (intro w; go_simp; try with_reducible rfl)
        simp only [Act.put, List.setIfInBounds_toArray, List.set_cons_zero, List.set_cons_succ]
        refine mix_step (by simp only [List.getElem?_toArray, List.getElem?_cons_zero] <;> rfl) (by kernel_rfl) (fun K hK => ?_)
        go_simp
        refine hK _ _ ?_
        clear hK K
        refine mix_step (by simp only [List.getElem?_toArray, List.getElem?_cons_succ, List.getElem?_cons_zero] <;> rfl) (by kernel_rfl) (fun K hK => ?_)
        go_simp
        refine hK _ _ ?_
        clear hK K
        refine mix_step (by simp only [List.getElem?_toArray, List.getElem?_cons_succ, List.getElem?_cons_zero] <;> rfl) (by kernel_rfl) (fun K hK => ?_)
        go_simp
        refine hK _ _ ?_
        clear hK K
        refine mix_step (by simp only [List.getElem?_toArray, List.getElem?_cons_succ, List.getElem?_cons_zero] <;> rfl) (by kernel_rfl) (fun K hK => ?_)
        go_simp
        refine ⟨trivial, rfl, ?_⟩
        refine (callsIn_wide.2 (HD.out _ (Below.refl _ _))).mono ?_
        rintro e6 w6 ⟨v6, e2, rfl, hH6, hT6, hS6⟩
        obtain ⟨a6, k6, rfl, _, _⟩ := hS6.form
        unfold rb
        have X6 := Lib.hid (hT6.other H5d.out.box (H5d.out.bk.bk.out H5d.out.box (by decide) (by decide)))
        have Y6 := Lib.hid (hT6.other F5.out (H5d.out.bk.bk.out F5.out (by decide) (by decide)))
        have H6 := Lib.hid (And.intro hH6 hS6)
        have t0 := X6.out.cell 0
        have t1 := X6.out.cell 1
        have t2 := X6.out.cell 2
        have s0 := X6.out.thawed 0
        have s1 := X6.out.thawed 1
        have s2 := X6.out.thawed 2
        simp only [List.getElem?_toArray, List.getElem?_cons_zero, List.getElem?_cons_succ] at t0 t1 t2
        clear hH6 hT6 hS6
        refine hK _ _ ?_
        clear hK K
        refine mix_pure (v := ?_) (by simp only [List.getElem?_toArray, List.getElem?_cons_succ, List.getElem?_cons_zero] <;> rfl) (by kernel_rfl) ⟨Or.inl ⟨by kernel_rfl, ?_⟩, fun _ => (by rfl)⟩ ?_; rotate_left 1; focus (intro w; go_simp; try with_reducible rfl)
        simp only [Act.put, List.setIfInBounds_toArray, List.set_cons_zero, List.set_cons_succ]
        refine mix_pure (v := ?_) (by simp only [List.getElem?_toArray, List.getElem?_cons_succ, List.getElem?_cons_zero] <;> rfl) (by kernel_rfl) ⟨Or.inl ⟨by kernel_rfl, ?_⟩, fun _ => (by rfl)⟩ ?_; rotate_left 1; focus (intro w; go_simp; try with_reducible rfl)
        simp only [Act.put, List.setIfInBounds_toArray, List.set_cons_zero, List.set_cons_succ]
        refine mix_pure (v := ?_) (by simp only [List.getElem?_toArray, List.getElem?_cons_succ, List.getElem?_cons_zero] <;> rfl) (by kernel_rfl) ⟨Or.inl ⟨by kernel_rfl, ?_⟩, fun _ => (by rfl)⟩ ?_; rotate_left 1; focus (intro w; go_simp; try with_reducible rfl)
        simp only [Act.put, List.setIfInBounds_toArray, List.set_cons_zero, List.set_cons_succ]
        refine mix_step (by simp only [List.getElem?_toArray, List.getElem?_cons_succ, List.getElem?_cons_zero] <;> rfl) (by kernel_rfl) (fun K hK => ?_)
        go_simp
        refine hK _ _ ?_
        clear hK K
        refine mix_end ?_
        obtain ⟨Wn, hWn⟩ : ∃ Wn, Wn = stored w6 z (.slice a6 L2.length k6) q.k q.b := ⟨_, rfl⟩
        have PN : Pairt W1 Wn p q0 e2 mp z L2 (.slice a6 L2.length k6) q.k q.b ∧ Fresh Wn bb #[.pointer (some ⟨p, 0, none⟩)] 27 := by rw [hWn]; exact ⟨Pairt.stored H6.out.1 H6.out.2 X6.out rfl HZ.out, stored_other Y6.out HZB.out⟩
        unfold stored at hWn
        change Exit.inBlock _ _ _ _ (((w6.setCell ⟨z, 0, none⟩ _).setCell ⟨z, 1, none⟩ _).setCell ⟨z, 2, none⟩ _)
        rw [← hWn]
        have HPN := Lib.hid PN
        clear PN hWn t0 t1 t2 s0 s1 s2
        go_wp2_with fail
        go_roundw
        case rel => exact ⟨i + 1, by omega, by simp, e2, L2, _, HPN.out.1, HPN.out.2, HL2.out⟩
        case measure => simp [intOf]; omega
    · obtain rfl : len = i := by omega
      have jd : decide (len < len) = false := by simp
      have jn : ¬ (len : Int) < (len : Int) := by omega
      have HL8 : Hid (l.length ≤ 80) := by show _ ≤ _; omega
      have y3 := hfb.cell 0
      simp only [List.getElem?_toArray, List.getElem?_cons_zero] at y3
      have HCP := Lib.hid (copy_any hH.bk.bk (by omega))
      clear hH hl hfb hi
      go_upto_region 11 with (go_at_call 18; refine HCP.out.mono ?_; rintro e5 w5 ⟨p2, q2, e2, m2, hp2, hq2, he2, hm2, rfl, hb5, hk5⟩; have H5 := Lib.hid (And.intro hp2 (And.intro hq2 (And.intro he2 (And.intro hm2 (And.intro hb5 hk5))))); clear hb5 hk5 hp2 hq2 he2 hm2 y3)
      obtain ⟨v0, hv0⟩ : ∃ v0, v0 = Value.slice av l.length cv := ⟨_, rfl⟩
      have HV0 := Lib.hid hv0
      clear hv0
      go_cut [11, 12] from 54 to 56 (fun s1 s2 wx => ∃ nb ob, s1 = .pointer (some ⟨nb, 0, none⟩) ∧ s2 = .pointer (some ⟨ob, 0, none⟩) ∧ Cps W1 wx ⟨p, q0, mp, p2, q2, m2, nb, ob, z, bb⟩ e l v0 e2 l v0 v0 l q.k q.b)
      case first =>
        have P5 : Hid (Pairt W1 w5.drew p q0 e mp z l (.slice av l.length cv) q.k q.b) := (HH.out.below H5.out.2.2.2.2.1).below (Below.refl _ _).drew
        have KZ : Hid (∀ W', Fresh W' z #[.slice av l.length cv, .int .u64 (q.k : Int), .int .u64 (q.b : Int)] 31 → W'.cell? ⟨z, 0, none⟩ = some (.slice av l.length cv) ∧ W'.cell? ⟨z, 1, none⟩ = some (.int .u64 (q.k : Int)) ∧ W'.cell? ⟨z, 2, none⟩ = some (.int .u64 (q.b : Int))) := fun W' hf => ⟨hf.cell 0, hf.cell 1, hf.cell 2⟩
        have hzlt : z < w5.heap.size := P5.out.box.lt
        clear HCP
        refine wp_region_held_drew (S := fun W' => W'.cell? ⟨z, 0, none⟩ = some (.slice av l.length cv) ∧ W'.cell? ⟨z, 1, none⟩ = some (.int .u64 (q.k : Int)) ∧ W'.cell? ⟨z, 2, none⟩ = some (.int .u64 (q.b : Int))) (by kernel_rfl) ?_ (fun hHeld => ?_)
        · (try dsimp only)
          exact KZ.out _ (by repeat (first | exact P5.out.box | refine Fresh.alloc ?_ _ | refine Fresh.other ?_ (by omega) _ _))
        refine wpAnyH_take (i := 0) (oi := ?_) (v := ?_) ?_ (by kernel_rfl) (by kernel_rfl) (by kernel_rfl) ?_ (Or.inl ⟨?_, ?_⟩) (by assumption) ?_
        rotate_left 2
        · simp only [List.getElem?_toArray, List.getElem?_cons_succ, List.getElem?_cons_zero] <;> rfl
        · exact fun _ _ _ h => h
        · rfl
        · (intro w hSw; (try dsimp only at hSw); go_simp; try (with_reducible rfl))
        try simp only [Act.put, List.setIfInBounds_toArray, List.set_cons_zero, List.set_cons_succ]
        refine wpAnyH_take (i := 1) (oi := ?_) (v := ?_) ?_ (by kernel_rfl) (by kernel_rfl) (by kernel_rfl) ?_ (Or.inl ⟨?_, ?_⟩) (by assumption) ?_
        rotate_left 2
        · simp only [List.getElem?_toArray, List.getElem?_cons_succ, List.getElem?_cons_zero] <;> rfl
        · exact fun _ _ _ h => h
        · rfl
        · (intro w hSw; (try dsimp only at hSw); go_simp; try (with_reducible rfl))
        try simp only [Act.put, List.setIfInBounds_toArray, List.set_cons_zero, List.set_cons_succ]
        refine wpAnyH_ready (rs := [2, 3]) (by kernel_rfl) (by simp) ?_
        refine AllReadyH.cons (o := _) (by simp only [List.getElem?_toArray, List.getElem?_cons_succ, List.getElem?_cons_zero] <;> rfl) (fun K hK => ?_) ?_
        · go_simp
          refine hK.out _ _ ?_ (fun hHeld => ?_)
          · (try dsimp only)
            exact KZ.out _ (by repeat (first | exact P5.out.box | refine Fresh.alloc ?_ _ | refine Fresh.other ?_ (by omega) _ _))
          clear hK K
          try simp only [Act.put, List.setIfInBounds_toArray, List.set_cons_zero, List.set_cons_succ]
          refine wpAnyH_ready (rs := [3]) (by kernel_rfl) (by simp) ?_
          refine AllReadyH.cons (o := _) (by simp only [List.getElem?_toArray, List.getElem?_cons_succ, List.getElem?_cons_zero] <;> rfl) (fun K hK => ?_) ?_
          · go_simp
            refine hK.out _ _ ?_ (fun hHeld => ?_)
            · (try dsimp only)
              exact KZ.out _ (by repeat (first | exact P5.out.box | refine Fresh.alloc ?_ _ | refine Fresh.other ?_ (by omega) _ _))
            clear hK K
            try simp only [Act.put, List.setIfInBounds_toArray, List.set_cons_zero, List.set_cons_succ]
            refine wpAnyH_ready (rs := [4]) (by kernel_rfl) (by simp) ?_
            refine AllReadyH.cons (o := _) (by simp only [List.getElem?_toArray, List.getElem?_cons_succ, List.getElem?_cons_zero] <;> rfl) (fun K hK => ?_) ?_
            · go_simp
              refine hK.out _ _ ?_ (fun hHeld => ?_)
              · (try dsimp only)
                exact KZ.out _ (by repeat (first | exact P5.out.box | refine Fresh.alloc ?_ _ | refine Fresh.other ?_ (by omega) _ _))
              clear hK K
              try simp only [Act.put, List.setIfInBounds_toArray, List.set_cons_zero, List.set_cons_succ]
              refine wpAnyH_ready (rs := [5]) (by kernel_rfl) (by simp) ?_
              refine AllReadyH.cons (o := _) (by simp only [List.getElem?_toArray, List.getElem?_cons_succ, List.getElem?_cons_zero] <;> rfl) (fun K hK => ?_) ?_
              · go_simp
                refine hK.out _ _ ?_ (fun hHeld => ?_)
                · (try dsimp only)
                  exact KZ.out _ (by repeat (first | exact P5.out.box | refine Fresh.alloc ?_ _ | refine Fresh.other ?_ (by omega) _ _))
                clear hK K
                try simp only [Act.put, List.setIfInBounds_toArray, List.set_cons_zero, List.set_cons_succ]
                refine wpAnyH_done (by kernel_rfl) ?_ _
                obtain ⟨Wz, hWz⟩ : ∃ Wz, Wz = (w5.alloc (.cells #[.slice av l.length cv, .int .u64 (q.k : Int), .int .u64 (q.b : Int)] 31)).alloc (.cells #[.slice av l.length cv, .int .u64 (q.k : Int), .int .u64 (q.b : Int)] 31) := ⟨_, rfl⟩
                have b5 : Below w5.heap.size w5 Wz := by rw [hWz]; exact Below.new (Below.new (Below.refl _ _) _) _
                have u1 : Fresh Wz w5.heap.size (rcs (.slice av l.length cv) q.k q.b) refT := by rw [hWz]; exact (Fresh.new _ _ _ _ rfl).alloc _
                have u2 : Fresh Wz (w5.heap.size + 1) (rcs (.slice av l.length cv) q.k q.b) refT := by rw [hWz]; exact Fresh.new _ _ _ _ (by simp)
                rw [← hWz]
                have hlow := HH.out.bk.low.size
                have hbw : Below wq.heap.size wq Wz := Below.step H5.out.2.2.2.2.1 b5
                have hcc : Here W1 Wz p2 q2 e2 m2 l q.k q.b := ⟨H5.out.2.2.2.2.2.below b5, Below.step HH.out.bk.low hbw, Nat.le_trans hlow H5.out.1, Nat.le_trans hlow H5.out.2.1, Nat.le_trans hlow H5.out.2.2.1, Nat.le_trans hlow H5.out.2.2.2.1⟩
                have PZ := HH.out.below hbw
                have hlt := HH.out.bk.bk.lt
                have hzlt' := HH.out.box.lt
                have hsz5 := H5.out.2.2.2.2.1.size
                have HDIS : ∀ x ∈ [p, q0, e, mp], x ∉ [p2, q2, e2, m2] := fun x hx hx2 => by
                  have h1 := H5.out.1
                  have h2 := H5.out.2.1
                  have h3 := H5.out.2.2.1
                  have h4 := H5.out.2.2.2.1
                  simp only [List.mem_cons, List.not_mem_nil, or_false] at hx hx2
                  omega
                clear hWz
                go_wp2_with fail
                go_meet
                refine ⟨_, _, rfl, rfl, ?_⟩
                rw [HV0.out]
                exact ⟨PZ.bk.below ((Below.refl _ _).drew), hcc.below ((Below.refl _ _).drew), HDIS, PZ.seg, PZ.seg, PZ.seg, u1, u2, PZ.box, (HFB.out.below hbw).drew, (by refine ⟨?_, ?_, ?_⟩ <;> dsimp only <;> omega), (by refine ⟨?_, ?_⟩ <;> dsimp only <;> omega)⟩
              exact AllReadyH.nil
            exact AllReadyH.nil
          exact AllReadyH.nil
        refine AllReadyH.cons (o := _) (by simp only [List.getElem?_toArray, List.getElem?_cons_succ, List.getElem?_cons_zero] <;> rfl) (fun K hK => ?_) ?_
        · go_simp
          refine hK.out _ _ ?_ (fun hHeld => ?_)
          · (try dsimp only)
            exact KZ.out _ (by repeat (first | exact P5.out.box | refine Fresh.alloc ?_ _ | refine Fresh.other ?_ (by omega) _ _))
          clear hK K
          try simp only [Act.put, List.setIfInBounds_toArray, List.set_cons_zero, List.set_cons_succ]
          refine wpAnyH_ready (rs := [2]) (by kernel_rfl) (by simp) ?_
          refine AllReadyH.cons (o := _) (by simp only [List.getElem?_toArray, List.getElem?_cons_succ, List.getElem?_cons_zero] <;> rfl) (fun K hK => ?_) ?_
          · go_simp
            refine hK.out _ _ ?_ (fun hHeld => ?_)
            · (try dsimp only)
              exact KZ.out _ (by repeat (first | exact P5.out.box | refine Fresh.alloc ?_ _ | refine Fresh.other ?_ (by omega) _ _))
            clear hK K
            try simp only [Act.put, List.setIfInBounds_toArray, List.set_cons_zero, List.set_cons_succ]
            refine wpAnyH_ready (rs := [4]) (by kernel_rfl) (by simp) ?_
            refine AllReadyH.cons (o := _) (by simp only [List.getElem?_toArray, List.getElem?_cons_succ, List.getElem?_cons_zero] <;> rfl) (fun K hK => ?_) ?_
            · go_simp
              refine hK.out _ _ ?_ (fun hHeld => ?_)
              · (try dsimp only)
                exact KZ.out _ (by repeat (first | exact P5.out.box | refine Fresh.alloc ?_ _ | refine Fresh.other ?_ (by omega) _ _))
              clear hK K
              try simp only [Act.put, List.setIfInBounds_toArray, List.set_cons_zero, List.set_cons_succ]
              refine wpAnyH_ready (rs := [5]) (by kernel_rfl) (by simp) ?_
              refine AllReadyH.cons (o := _) (by simp only [List.getElem?_toArray, List.getElem?_cons_succ, List.getElem?_cons_zero] <;> rfl) (fun K hK => ?_) ?_
              · go_simp
                refine hK.out _ _ ?_ (fun hHeld => ?_)
                · (try dsimp only)
                  exact KZ.out _ (by repeat (first | exact P5.out.box | refine Fresh.alloc ?_ _ | refine Fresh.other ?_ (by omega) _ _))
                clear hK K
                try simp only [Act.put, List.setIfInBounds_toArray, List.set_cons_zero, List.set_cons_succ]
                refine wpAnyH_done (by kernel_rfl) ?_ _
                obtain ⟨Wz, hWz⟩ : ∃ Wz, Wz = (w5.alloc (.cells #[.slice av l.length cv, .int .u64 (q.k : Int), .int .u64 (q.b : Int)] 31)).alloc (.cells #[.slice av l.length cv, .int .u64 (q.k : Int), .int .u64 (q.b : Int)] 31) := ⟨_, rfl⟩
                have b5 : Below w5.heap.size w5 Wz := by rw [hWz]; exact Below.new (Below.new (Below.refl _ _) _) _
                have u1 : Fresh Wz w5.heap.size (rcs (.slice av l.length cv) q.k q.b) refT := by rw [hWz]; exact (Fresh.new _ _ _ _ rfl).alloc _
                have u2 : Fresh Wz (w5.heap.size + 1) (rcs (.slice av l.length cv) q.k q.b) refT := by rw [hWz]; exact Fresh.new _ _ _ _ (by simp)
                rw [← hWz]
                have hlow := HH.out.bk.low.size
                have hbw : Below wq.heap.size wq Wz := Below.step H5.out.2.2.2.2.1 b5
                have hcc : Here W1 Wz p2 q2 e2 m2 l q.k q.b := ⟨H5.out.2.2.2.2.2.below b5, Below.step HH.out.bk.low hbw, Nat.le_trans hlow H5.out.1, Nat.le_trans hlow H5.out.2.1, Nat.le_trans hlow H5.out.2.2.1, Nat.le_trans hlow H5.out.2.2.2.1⟩
                have PZ := HH.out.below hbw
                have hlt := HH.out.bk.bk.lt
                have hzlt' := HH.out.box.lt
                have hsz5 := H5.out.2.2.2.2.1.size
                have HDIS : ∀ x ∈ [p, q0, e, mp], x ∉ [p2, q2, e2, m2] := fun x hx hx2 => by
                  have h1 := H5.out.1
                  have h2 := H5.out.2.1
                  have h3 := H5.out.2.2.1
                  have h4 := H5.out.2.2.2.1
                  simp only [List.mem_cons, List.not_mem_nil, or_false] at hx hx2
                  omega
                clear hWz
                go_wp2_with fail
                go_meet
                refine ⟨_, _, rfl, rfl, ?_⟩
                rw [HV0.out]
                exact ⟨PZ.bk.below ((Below.refl _ _).drew), hcc.below ((Below.refl _ _).drew), HDIS, PZ.seg, PZ.seg, PZ.seg, u2, u1, PZ.box, (HFB.out.below hbw).drew, (by refine ⟨?_, ?_, ?_⟩ <;> dsimp only <;> omega), (by refine ⟨?_, ?_⟩ <;> dsimp only <;> omega)⟩
              exact AllReadyH.nil
            exact AllReadyH.nil
          exact AllReadyH.nil
        exact AllReadyH.nil
      case rest =>
        obtain ⟨nb, ob, rfl, rfl, hcp⟩ := hcut
        obtain ⟨A, hA⟩ : ∃ A : Ix, A = ⟨p, q0, mp, p2, q2, m2, nb, ob, z, bb⟩ := ⟨_, rfl⟩
        rw [← hA] at hcp
        have HCP := Lib.hid hcp
        have HA := Lib.hid hA
        clear hA hcp HH HFB H5 HZ
        go_upto_region 13 with fail
        obtain ⟨Ws, hWs⟩ : ∃ Ws, Ws = wc.alloc (.cells #[.slice none 0 0] 29) := ⟨_, rfl⟩
        rw [← hWs]
        have bs : Below wc.heap.size wc Ws := by rw [hWs]; exact Below.new (Below.refl _ _) _
        have fs : Fresh Ws wc.heap.size #[.slice none 0 0] 29 := by rw [hWs]; exact Fresh.new _ _ _ _ rfl
        have HS := Lib.hid (And.intro (HCP.out.below bs) fs)
        have HSB : Hid (W1.heap.size ≤ wc.heap.size) := HCP.out.a.low.size
        obtain ⟨sb, hsb⟩ : ∃ sb, wc.heap.size = sb := ⟨_, rfl⟩
        rw [hsb] at HS HSB ⊢
        clear hWs bs fs hsb
        go_upto_region 14 with fail
        obtain ⟨Wi, hWi⟩ : ∃ Wi, Wi = Ws.alloc (.cells #[.int .i64 0] 3) := ⟨_, rfl⟩
        rw [← hWi]
        have bi : Below Ws.heap.size Ws Wi := by rw [hWi]; exact Below.new (Below.refl _ _) _
        have fi : Fresh Wi Ws.heap.size #[.int .i64 0] 3 := by rw [hWi]; exact Fresh.new _ _ _ _ rfl
        have HI := Lib.hid (And.intro (HS.out.1.below bi) (And.intro (HS.out.2.below bi) (And.intro fi HS.out.2.lt)))
        obtain ⟨ib, hib⟩ : ∃ ib, Ws.heap.size = ib := ⟨_, rfl⟩
        rw [hib] at HI ⊢
        clear hWi bi fi hib HS HCP
        have y3 := HI.out.1.fb.cell 0
        rw [HA.out] at y3
        simp only [List.getElem?_toArray, List.getElem?_cons_zero] at y3
        go_wp2_with (go_at_call 19; refine (allv_any _ _).mono ?_; rintro e' WL ⟨rfl, hWL⟩; have HWL := Lib.hid hWL; clear hWL y3)
        obtain ⟨iP, hP0, hP1, hP2, hP3⟩ := infoP
        have HP := Lib.hid (And.intro hP0 (And.intro hP1 (And.intro hP2 hP3)))
        clear hP0 hP1 hP2 hP3
        have BL : Below Wi.heap.size Wi WL := by rw [HWL.out]; exact Below.new (Below.refl _ _) _
        have szL : WL.heap.size = Wi.heap.size + 1 := by rw [HWL.out]; simp
        have fa : Fresh WL Wi.heap.size #[.pointer (some ⟨p, 0, none⟩)] 27 := by rw [HWL.out]; exact Fresh.new _ _ _ _ rfl
        obtain ⟨C, hC⟩ : ∃ C, C = WL.heap.size := ⟨_, rfl⟩
        have hCP := HI.out.1.below BL
        have hlt2 := hCP.a.bk.lt
        have hlt3 := hCP.c.bk.lt
        have hib := HI.out.2.2.1.lt
        have hsblt := HI.out.2.2.2
        have hsbw := HSB.out
        have hM := Lib.hid (And.intro hlt2 hlt3)
        have R0 : Rnd W1 WL A sb ib C e l v0 e2 v0 l (.slice none 0 0) 0 q.k q.b :=
          ⟨hCP, ⟨HI.out.2.1.below BL, ⟨rfl, .inl ⟨rfl, rfl⟩⟩, hCP.a.low, hsbw, by omega⟩, HI.out.2.2.1.below BL, (fun g hg => by cases hg), HL8.out⟩
        obtain ⟨S, hS⟩ : ∃ S, S = [A.m, A.nb, sb, ib, WL.heap.size + 1] := ⟨_, rfl⟩
        have hqS : A.q ∉ S := by
          rw [hS]
          simp only [List.mem_cons, List.not_mem_nil, or_false]
          obtain ⟨v9, hs9⟩ := hCP.a.bk.st
          rintro (h | h | h | h | h)
          · exact hs9.map.ne hs9.key.box h.symm
          · have := hs9.key.box; rw [h] at this; exact absurd (fresh_ty this hCP.fn) (by decide)
          · have := hs9.key.box; rw [h] at this; exact absurd (fresh_ty this R0.md.fx) (by decide)
          · have := hs9.key.box; rw [h] at this; exact absurd (fresh_ty this R0.ib) (by decide)
          · omega
        have hSlt : ∀ k ∈ S, k < WL.heap.size + 2 := fun k h => by
          rw [hS] at h
          have := hCP.fn.lt
          simp only [List.mem_cons, List.not_mem_nil, or_false] at h
          rcases h with rfl | rfl | rfl | rfl | rfl <;> omega
        have hSge : ∀ k ∈ S, k = WL.heap.size + 1 ∨ k < WL.heap.size := fun k h => by
          rw [hS] at h
          have := hCP.fn.lt
          simp only [List.mem_cons, List.not_mem_nil, or_false] at h
          rcases h with rfl | rfl | rfl | rfl | rfl <;> omega
        have HBLK : Hid (∀ k ∈ [A.m, A.nb, sb, ib], k < WL.heap.size) := fun k h => by
          have := hCP.fn.lt
          simp only [List.mem_cons, List.not_mem_nil, or_false] at h
          rcases h with rfl | rfl | rfl | rfl <;> omega
        have HSL := Lib.hid (And.intro hSge (And.intro hqS (And.intro hS (And.intro hlt2 hlt3))))
        have hAp : A.p = p := by rw [HA.out]
        have hbkL : BookAt WL p A.q e A.m l q.k q.b := by rw [← hAp]; exact hCP.a.bk
        have HLL := HL8.out
        refine (wpIn_wide (n := 10)).1 ?_
        generalize hA0 : ({ tmps := _, defers := _ } : Act) = A0
        refine range_box rfl (by omega) (gf := 46) (lb := #[.pointer (some ⟨Wi.heap.size, 0, none⟩)]) (by rw [← hA0]; rfl) trivial (enters_of Try.func46 (by kernel_rfl) rfl)
          (all_ownF 9 (by omega) Wi.heap.size S l q.k q.b WL p A.q e A.m hbkL (by omega) ((fa.cell 0).trans rfl) fa.lt hSlt hqS)
          (fun h k => h.trans k) (fun Wc o _ => KpF.put (by rw [hS]; simp) o) (Below.refl _ _) (fun _ => rfl)
          (fun pre Wc => ∃ (k : Nat) (vx : Value) (e' : Nat) (l2 : List Pr) (vn : Value), k ≤ l.length ∧ pre = l.take k ∧ Rnd W1 Wc A sb ib C e' l2 vn e2 v0 l vx k q.k q.b)
          (fun _ _ _ => False)
          (fun pre Y Z row ⟨k, vx, e', l2, vn, h1, h2, h3⟩ hg hr => ⟨k, vx, e', l2, vn, h1, h2, h3.kept hg (fun r er => ⟨⟨by have := (hr r er).1; have := hCP.a.low.size; omega, by have := (hr r er).1; omega, by have := (hr r er).1; omega⟩, (hr r er).2⟩)⟩)
          (fun _ _ _ _ _ h _ _ => h)
          ⟨0, _, _, _, _, Nat.zero_le _, rfl, R0⟩
          (fun x a' Wc => a' = { tmps := (((A0.tmps.setIfInBounds 58 (.string x.1)).setIfInBounds 59 (.string x.2)).setIfInBounds 15 (.string x.1)).setIfInBounds 16 (.string x.2), defers := [] })
          (fun x a' _ Y Z row h1 hg hr => h1)
          ?assignment ?round ?done ?stop
        all_goals subst hA0
        case assignment =>
          rintro l' pre x Wc K' hG ⟨k, vx, e', l2, vn, hk, hpre, hM⟩ hK
          have HK := hK _ Wc ((KeepsOthers.refl _).from _) (KpF.refl _ _ Wc) ⟨k, vx, e', l2, vn, hk, hpre, hM⟩ rfl
          clear hK hM hG szL BL fa R0 hbkL hAp hSlt hSge hqS hS hC hCP hlt2 hlt3 hib hsblt hsbw
          simp only [List.setIfInBounds_toArray, List.set_cons_succ, List.set_cons_zero] at HK
          replace HK := Lib.hid HK
          unfold prV
          gi_wp2
          exact HK.out
        case round =>
          rintro l' pre x a' W5 hG ⟨k, vx, e', l2, vn, hk, hpre, hR⟩ rfl hz
          simp only [List.setIfInBounds_toArray, List.set_cons_succ, List.set_cons_zero]
          obtain ⟨j, hj, hjx⟩ := hG
          obtain ⟨h4, h5⟩ := List.append_inj' hjx rfl
          obtain rfl : k = j := by
            have := congrArg List.length (hpre.symm.trans h4)
            rw [List.length_take, List.length_take] at this
            omega
          have hx : x = l[k] := by simpa using h5
          have hnx : pre ++ [x] = l.take (k + 1) := by rw [hjx]; exact (List.take_succ_eq_append_getElem hj).symm
          have hbt : flatP (l.take (k + 1)) = flatP (l.take k) ++ [.string x.1, .string x.2] := by
            rw [List.take_succ_eq_append_getElem hj, ← hx, flatP_snoc]
          obtain ⟨x1, x2⟩ := x
          dsimp only at hbt ⊢
          have d1 := hR.md.fx.cell 0
          simp only [List.getElem?_toArray, List.getElem?_cons_zero] at d1
          have hCW : C ≤ W5.heap.size := by rw [hC]; omega
          obtain ⟨ax, kx, rfl⟩ := row_form hR.md.ox
          have low : Below W5.heap.size W5 (W5.alloc (.cells #[.string x1, .string x2] 49)) := Below.new (Below.refl _ _) _
          have d1' : (W5.alloc (.cells #[.string x1, .string x2] 49)).cell? ⟨sb, 0, none⟩ = some (.slice ax k kx) := ((hR.md.fx.below low).cell 0).trans rfl
          have o5 := Lib.hid (hR.md.below low).ox
          have N5 : Hid (∀ (j : Nat) u, [Value.string x1, Value.string x2][j]? = some u → (W5.alloc (.cells #[.string x1, .string x2] 49)).cell? ((⟨W5.heap.size, 0, none⟩ : Addr).add j) = some u) := by
            intro j u hj
            rw [Addr.add_lit, Nat.zero_add, (Fresh.new W5 W5.heap.size #[.string x1, .string x2] 49 rfl).cell j]
            simpa using hj
          have HR := Lib.hid (And.intro hR (And.intro hCW (And.intro hj (And.intro hnx hbt))))
          have hk80 : k < 80 := by omega
          have hk16 : Hid (k ≤ 80) := by show k ≤ 80; omega
          have HC5 : Hid (C ≤ (W5.alloc (.cells #[.string x1, .string x2] 49)).heap.size) := by show _ ≤ _; simp; omega
          have HIB : Hid (W1.heap.size ≤ ib ∧ WL.heap.size ≤ W5.heap.size) := ⟨by have := HI.out.2.2.2; omega, by omega⟩
          clear hR hbt hj hjx h4 h5 hx hnx hpre hk low hCW szL BL fa R0 hbkL hAp hSlt hSge hqS hS hC hCP hlt2 hlt3 hib hsblt hsbw HLL hz
          obtain ⟨S4, hS4⟩ : ∃ S4, S4 = [A.m, A.nb, sb, ib] := ⟨_, rfl⟩
          obtain ⟨s1, s2, s3, s4⟩ : A.m ∈ S4 ∧ A.nb ∈ S4 ∧ sb ∈ S4 ∧ ib ∈ S4 := by rw [hS4]; simp
          have HSS := Lib.hid (And.intro s1 (And.intro s2 (And.intro s3 s4)))
          have HFIN : Hid (∀ W', KpF A.q S4 W5 W' → KeepsFrom WL.heap.size W5 W' ∧ KpF A.q S W5 W') := fun W' hK => by
            have h1 := HSL.out
            have hsub : ∀ k ∈ S4, k ∈ S ∧ k < WL.heap.size := fun k hk => by
              rw [hS4] at hk
              have hkS : k ∈ S := by
                rw [h1.2.2.1]
                simp only [List.mem_cons, List.not_mem_nil, or_false] at hk ⊢
                rcases hk with rfl | rfl | rfl | rfl <;> simp
              refine ⟨hkS, ?_⟩
              rcases h1.1 k hkS with h2 | h2
              · have h3 := HBLK.out k hk
                omega
              · exact h2
            have hq4 : A.q ∉ S4 := fun hx => h1.2.1 (hsub _ hx).1
            have hql : A.q < WL.heap.size := h1.2.2.2.1.2.1
            exact ⟨hK.keeps hq4 (by have := HIB.out.2; omega) hql (fun k hk => (hsub k hk).2), hK.wide fun k hk => (hsub k hk).1⟩
          clear s1 s2 s3 s4 hS4
          have HF2 : Hid (∀ W', Below W1.heap.size W1 W' → W'.cell? ⟨w.heap.size + 1, 0, none⟩ = some (.slice ao2 len2 cap2)) := fun W' hb => (HF.out.2.below hb).cell 0
          gi_wp2_with (gi_at_builtin; refine wpListIn_append_own_at _ rfl (.tmp 60) (.tmp 64) 29 rfl C 49 iP (.agg #[.string ⟨#[]⟩, .string ⟨#[]⟩]) 2 32 Try.underlying29 HP.out.1 HP.out.2.1 HP.out.2.2.1 HP.out.2.2.2 rfl (by omega) (.slice ax k kx) k (flatP (l.take k)) rfl o5.out ⟨W5.heap.size, 0, none⟩ 1 1 [.string x1, .string x2] rfl rfl N5.out (by intro u hu; simp at hu; rcases hu with rfl | rfl <;> rfl) (by have := hk16.out; unfold maxLen; omega) (by have := hk16.out; omega) HC5.out ?_)
          intro v7 w7 hown hgrow hnn hloc
          obtain ⟨a7, k7, rfl⟩ := row_form hown
          have HPS := Lib.hid (HR.out.1.push (x := (x1, x2)) hown hgrow hloc HR.out.2.2.2.2 HR.out.2.1 (S := S4) HSS.out.2.2.1)
          obtain ⟨t1, t2, _, _, _, _, _, _⟩ := HPS.out
          have hlowA := HPS.out.2.2.1.a.low
          have i1 := HPS.out.2.2.2.2.1.cell 0
          have m1 := HF2.out _ hlowA
          simp only [List.getElem?_toArray, List.getElem?_cons_zero] at i1
          clear hown hgrow hnn hloc
          have n1 : (k : Int) < 80 := by omega
          have n0 : (0 : Int) ≤ (k : Int) := by omega
          by_cases hm2 : k < len2
          · have n2 : (k : Int) < (len2 : Int) := by omega
            have n3 : decide (k < len2) = true := decide_eq_true hm2
            obtain ⟨blk, off, rfl, dd, hc⟩ := deed_of HDD2.out hm2
            have HC2 : Hid (∀ W, Below W1.heap.size W1 W → W.cell? ⟨blk, off + k * 5, none⟩ = some (.int .i64 dd.what) ∧ W.cell? ⟨blk, off + k * 5 + 1, none⟩ = some (.string dd.key) ∧ W.cell? ⟨blk, off + k * 5 + 2, none⟩ = some (.string dd.value) ∧ W.cell? ⟨blk, off + k * 5 + 3, none⟩ = some (.string dd.old) ∧ W.cell? ⟨blk, off + k * 5 + 4, none⟩ = some (.int .i64 dd.n)) := fun W hb => hc W (Below.step HB.out hb)
            obtain ⟨d0, d2, d3, d4, d5⟩ := HC2.out _ hlowA
            clear hc hlowA
            cases hfd : dd.fit
            · have HFD := Lib.hid hfd
              clear hfd
              gi_wp2_with (refine ⟨trivial, ?_⟩; gi_at_call 11; refine (callsIn_round (fitD_any dd _)).mono ?_; rw [HFD.out]; rintro e8 w8 ⟨rfl, hb8⟩; have H8 := Lib.hid hb8; have i2 := (HPS.out.2.2.2.2.1.below hb8).cell 0; have i3 := (HPS.out.2.2.2.2.1.below hb8).thawed 0; simp only [List.getElem?_toArray, List.getElem?_cons_zero] at i2; clear hb8)
              obtain ⟨q1, q2'⟩ := Rnd.tick (W5 := W5) (S := S4) (HPS.out.2.2.1.below H8.out) (HPS.out.2.2.2.1.below H8.out) (HPS.out.2.2.2.2.1.below H8.out) HPS.out.2.2.2.2.2.1 (Nat.le_succ_of_le HR.out.1.len) HIB.out.1 HSS.out.2.2.2 (HPS.out.2.2.2.2.2.2.1.trans (KpF.of_turned (Turned.of_below H8.out)))
              exact ⟨(HFIN.out _ q2').1, (HFIN.out _ q2').2, k + 1, _, _, _, _, HR.out.2.2.1, HR.out.2.2.2.1, q1⟩
            · have HFD := Lib.hid hfd
              clear hfd
              gi_wp2_with (refine ⟨trivial, ?_⟩; gi_at_call 11; refine (callsIn_round (fitD_any dd _)).mono ?_; rw [HFD.out]; rintro e8 w8 ⟨rfl, hb8⟩; have H8 := Lib.hid hb8; clear hb8)
              clear t1 t2 i1 m1 d0 d2 d3 d4 d5
              have BD := Lib.hid (Below.step H8.out (show Below w8.heap.size w8 w8.drew from (Below.refl _ _).drew))
              obtain ⟨e9, hcn, hft⟩ := (HPS.out.2.2.1.below BD.out).norm
              obtain ⟨an, cn, rfl, _, _⟩ := hcn.sa.form
              have HCN := Lib.hid (And.intro hcn hft)
              have HMD := Lib.hid (And.intro (HPS.out.2.2.2.1.below BD.out) (And.intro (HPS.out.2.2.2.2.1.below BD.out) (HPS.out.2.2.2.2.2.2.1.trans (KpF.of_turned (Turned.of_below BD.out)))))
              have y0 := hcn.fn.cell 0
              have y1 := hcn.fn.cell 1
              have y2 := hcn.fn.cell 2
              have y3 := hcn.fb.cell 0
              rw [HA.out] at y0 y1 y2 y3
              simp only [rcs, List.getElem?_toArray, List.getElem?_cons_zero, List.getElem?_cons_succ] at y0 y1 y2 y3
              have i1 := HMD.out.2.1.cell 0
              simp only [List.getElem?_toArray, List.getElem?_cons_zero] at i1
              have m1 := HF2.out _ hcn.a.low
              obtain ⟨d0, d2, d3, d4, d5⟩ := HC2.out _ hcn.a.low
              have hl2 := HR.out.1.len
              have HD : Hid (Calls Try.prog 12 #[.pointer (some ⟨A.p, 0, none⟩), rb (.slice an l2.length cn) q.k q.b, dd.v] w8.drew (Nw.DoesB W1 w8.drew A.p A.q e9 A.m q.k q.b (.slice an l2.length cn) (actS dd l2 q.k q.b).1)) := Nw.does_any hcn.a hcn.sa (by omega) dd
              obtain ⟨L2, hL2⟩ : ∃ L2, (actS dd l2 q.k q.b).1 = L2 := ⟨_, rfl⟩
              rw [hL2] at HD
              have HL2 : Hid (L2.length ≤ 80 + (k + 1)) := by
                show _ ≤ _
                have := act_len dd l2 q.k q.b
                rw [hL2] at this
                omega
              have HDP : Hid (A.p = p) := by show _ = _; rw [HA.out]
              have HDN : Hid (A.nb = nb) := by show _ = _; rw [HA.out]
              unfold rb Dd.v at HD
              rw [HDP.out] at HD
              clear hcn hft hL2 hl2
              refine region_mix_round l' [4, 7, 8, 9] [0, 0, 0, 0, 12, 28, 63, 127, 255, 255, 511] [0, 1, 2, 3, 4, 5, 6, 7, 8, 9, 10] (by kernel_rfl) (by kernel_rfl) (by kernel_rfl) ?_
              refine mix_step (by simp only [List.getElem?_toArray, List.getElem?_cons_zero] <;> rfl) (by kernel_rfl) (fun K hK => ?_)
              go_simp
              refine hK _ _ ?_
              clear hK K
              refine mix_step (by simp only [List.getElem?_toArray, List.getElem?_cons_succ, List.getElem?_cons_zero] <;> rfl) (by kernel_rfl) (fun K hK => ?_)
              go_simp
              refine hK _ _ ?_
              clear hK K
              refine mix_step (by simp only [List.getElem?_toArray, List.getElem?_cons_succ, List.getElem?_cons_zero] <;> rfl) (by kernel_rfl) (fun K hK => ?_)
              go_simp
              refine hK _ _ ?_
              clear hK K
              refine mix_step (by simp only [List.getElem?_toArray, List.getElem?_cons_succ, List.getElem?_cons_zero] <;> rfl) (by kernel_rfl) (fun K hK => ?_)
              go_simp
              refine hK _ _ ?_
              clear hK K
              refine mix_pure (v := ?_) (by simp only [List.getElem?_toArray, List.getElem?_cons_succ, List.getElem?_cons_zero] <;> rfl) (by kernel_rfl) ⟨Or.inl ⟨by kernel_rfl, ?_⟩, fun _ => (by rfl)⟩ ?_; rotate_left 1; focus (intro w; go_simp; try with_reducible rfl)
              simp only [Act.put, List.setIfInBounds_toArray, List.set_cons_zero, List.set_cons_succ]
              refine mix_step (by simp only [List.getElem?_toArray, List.getElem?_cons_succ, List.getElem?_cons_zero] <;> rfl) (by kernel_rfl) (fun K hK => ?_)
              go_simp
              refine hK _ _ ?_
              clear hK K
              refine mix_step (by simp only [List.getElem?_toArray, List.getElem?_cons_succ, List.getElem?_cons_zero] <;> rfl) (by kernel_rfl) (fun K hK => ?_)
              go_simp
              refine ⟨trivial, ?_⟩
              refine (callsIn_wide.2 HD.out).mono ?_
              rintro e6 w6 ⟨v6, e3, rfl, hH6, hT6, hS6⟩
              obtain ⟨a6, k6, rfl, _, _⟩ := hS6.1.form
              unfold rb
              rw [← HDP.out] at hH6
              have X6 := hT6.other HCN.out.1.fn (HCN.out.1.a.bk.out HCN.out.1.fn (by decide) (by decide))
              have HDO := Lib.hid (Rnd.does (S := S4) HCN.out.1 HCN.out.2 HMD.out.1 HMD.out.2.1 HPS.out.2.2.2.2.2.1 hH6 hT6 hS6 HSS.out.1 HSS.out.2.1)
              have t0 := X6.cell 0
              have t1 := X6.cell 1
              have t2 := X6.cell 2
              have s0 := X6.thawed 0
              have s1 := X6.thawed 1
              have s2 := X6.thawed 2
              rw [HA.out] at t0 t1 t2 s0 s1 s2
              simp only [rcs, List.getElem?_toArray, List.getElem?_cons_zero, List.getElem?_cons_succ] at t0 t1 t2
              clear hH6 hT6 hS6 X6
              refine hK _ _ ?_
              clear hK K
              refine mix_pure (v := ?_) (by simp only [List.getElem?_toArray, List.getElem?_cons_succ, List.getElem?_cons_zero] <;> rfl) (by kernel_rfl) ⟨Or.inl ⟨by kernel_rfl, ?_⟩, fun _ => (by rfl)⟩ ?_; rotate_left 1; focus (intro w; go_simp; try with_reducible rfl)
              simp only [Act.put, List.setIfInBounds_toArray, List.set_cons_zero, List.set_cons_succ]
              refine mix_pure (v := ?_) (by simp only [List.getElem?_toArray, List.getElem?_cons_succ, List.getElem?_cons_zero] <;> rfl) (by kernel_rfl) ⟨Or.inl ⟨by kernel_rfl, ?_⟩, fun _ => (by rfl)⟩ ?_; rotate_left 1; focus (intro w; go_simp; try with_reducible rfl)
              simp only [Act.put, List.setIfInBounds_toArray, List.set_cons_zero, List.set_cons_succ]
              refine mix_pure (v := ?_) (by simp only [List.getElem?_toArray, List.getElem?_cons_succ, List.getElem?_cons_zero] <;> rfl) (by kernel_rfl) ⟨Or.inl ⟨by kernel_rfl, ?_⟩, fun _ => (by rfl)⟩ ?_; rotate_left 1; focus (intro w; go_simp; try with_reducible rfl)
              simp only [Act.put, List.setIfInBounds_toArray, List.set_cons_zero, List.set_cons_succ]
              refine mix_step (by simp only [List.getElem?_toArray, List.getElem?_cons_succ, List.getElem?_cons_zero] <;> rfl) (by kernel_rfl) (fun K hK => ?_)
              go_simp
              refine hK _ _ ?_
              clear hK K
              refine mix_end ?_
              obtain ⟨Wn, hWn⟩ : ∃ Wn, Wn = stored w6 nb (.slice a6 L2.length k6) q.k q.b := ⟨_, rfl⟩
              rw [HDN.out, ← hWn] at HDO
              unfold stored at hWn
              rw [← hWn]
              have i2 := HDO.out.2.2.1.cell 0
              have i3 := HDO.out.2.2.1.thawed 0
              simp only [List.getElem?_toArray, List.getElem?_cons_zero] at i2
              clear hWn t0 t1 t2 s0 s1 s2 y0 y1 y2 y3 i1 m1 d0 d2 d3 d4 d5
              gi_wp2_with fail
              obtain ⟨q1, q2'⟩ := Rnd.tick (W5 := W5) (S := S4) HDO.out.1 HDO.out.2.1 HDO.out.2.2.1 HDO.out.2.2.2.1 HL2.out HIB.out.1 HSS.out.2.2.2 (HMD.out.2.2.trans HDO.out.2.2.2.2)
              exact ⟨(HFIN.out _ q2').1, (HFIN.out _ q2').2, k + 1, _, _, _, _, HR.out.2.2.1, HR.out.2.2.2.1, q1⟩
          · have n2 : ¬ (k : Int) < (len2 : Int) := by omega
            have n3 : decide (k < len2) = false := decide_eq_false hm2
            have n4 : decide ((k : Int) < (len2 : Int)) = false := decide_eq_false n2
            have n5 : (len2 : Int) ≤ (k : Int) := by omega
            have n6 : len2 ≤ k := by omega
            have i3 := HPS.out.2.2.2.2.1.thawed 0
            gi_wp2_with (refine ⟨trivial, ?_⟩)
            obtain ⟨q1, q2'⟩ := Rnd.tick (W5 := W5) (S := S4) HPS.out.2.2.1 HPS.out.2.2.2.1 HPS.out.2.2.2.2.1 HPS.out.2.2.2.2.2.1 (Nat.le_succ_of_le HR.out.1.len) HIB.out.1 HSS.out.2.2.2 HPS.out.2.2.2.2.2.2.1
            exact ⟨(HFIN.out _ q2').1, (HFIN.out _ q2').2, k + 1, HR.out.2.2.1, HR.out.2.2.2.1, _, _, _, _, q1⟩
        case done =>
          rintro D xs W5 hD hxs ⟨k, vx, e', l2, vn, hk, hpre, hR⟩ hK
          obtain rfl : k = l.length := by
            have := congrArg List.length (hpre.symm.trans hxs)
            rw [List.length_take] at this
            omega
          have hDm : D ≠ A.m ∧ D ≠ A.m2 := by
            have := hlt2
            have := hlt3
            omega
          have HD0 : Hid (w.heap.size ≤ D) := by
            show _ ≤ _
            have := HB.out.size
            have := hCP.a.low.size
            omega
          have HL0 : Hid (Lp W1 W5 A sb ib C D e' l2 vn e2 l v0 v0 l vx (l.length : Int) q.k q.b) := ⟨hR.cp, hR.md, hR.ib, hK, hDm⟩
          have HLEN : Hid (l2.length ≤ 160) := by show _ ≤ _; have := hR.len; omega
          have HIB : Hid (W1.heap.size ≤ ib) := by show _ ≤ _; have := HI.out.2.2.2; omega
          have HF2 : Hid (∀ W', Below W1.heap.size W1 W' → W'.cell? ⟨w.heap.size + 1, 0, none⟩ = some (.slice ao2 len2 cap2)) := fun W' hb => (HF.out.2.below hb).cell 0
          have HDP : Hid (A.p = p ∧ A.p2 = p2 ∧ A.ob = ob ∧ A.nb = nb ∧ A.bb = bb ∧ A.z = z) := by show _ ∧ _; rw [HA.out]; simp
          have i3 := hR.ib.thawed 0
          have i2 := hR.ib.cell 0
          have m1 := HF2.out _ hR.cp.a.low
          simp only [List.getElem?_toArray, List.getElem?_cons_zero] at i2
          obtain ⟨ax, kx, rfl⟩ := row_form hR.md.ox
          clear hR hK hD hxs hpre hk szL BL fa R0 hbkL hAp hSlt hSge hqS hS hC hCP hlt2 hlt3 hib hsblt hsbw HLL hDm HSL HBLK
          have g2 : (0 : Int) ≤ (len2 : Int) := by omega
          go_upto_region 23 with fail
          obtain ⟨W6, hW6⟩ : ∃ W6, W6 = W5.setCell ⟨ib, 0, none⟩ (.int .i64 ((len2 : Int) - 1)) := ⟨_, rfl⟩
          rw [← hW6]
          have HL1 : Hid (Lp W1 W6 A sb ib C D e' l2 vn e2 l v0 v0 l (.slice ax l.length kx) ((len2 : Int) - 1) q.k q.b) := by show Lp _ _ _ _ _ _ _ _ _ _ _ _ _ _ _ _ _ _ _; rw [hW6]; exact HL0.out.set HIB.out _
          clear hW6 i3 i2 m1 HL0
          go_loopw [17] (fun bv wr => ∃ t : Nat, t ≤ len2 ∧ bv = .bool true ∧ ∃ e3 l3 vo, Lp W1 wr A sb ib C D e' l2 vn e3 l3 vo v0 l (.slice ax l.length kx) ((t : Int) - 1) q.k q.b ∧ l3.length + t ≤ 80 + len2) (fun _ wr => (intOf ((wr.cell? ⟨ib, 0, none⟩).getD undef) + 1).toNat)
          case atStart => exact ⟨len2, Nat.le_refl _, rfl, e2, l, v0, HL1.out, by have := HL8.out; omega⟩
          case round =>
            obtain ⟨t, ht, rfl, e3, l3, vo, hL, hll⟩ := hrel
            obtain ⟨wq, hwq⟩ : ∃ wq, wq = wr := ⟨_, rfl⟩
            rw [← hwq] at hL ⊢
            clear hwq
            have i2 := hL.ib.cell 0
            have m1 := HF2.out _ hL.cp.a.low
            simp only [List.getElem?_toArray, List.getElem?_cons_zero] at i2
            rcases t with _ | s
            · have HLL2 := Lib.hid hL
              have HL3 : Hid (l3.length ≤ 160) := by show _ ≤ _; omega
              rw [show (((0 : Nat) : Int) - 1) = (-1 : Int) from rfl] at i2
              clear hL ht hll HL1
              obtain ⟨av0, cv0, hv0f, _, _⟩ := HLL2.out.cp.sm.form
              subst hv0f
              obtain ⟨avn, cvn, rfl, _, _⟩ := HLL2.out.cp.sa.form
              obtain ⟨avo, cvo, rfl, _, _⟩ := HLL2.out.cp.sc.form
              have hox := HLL2.out.md.ox
              rw [List.take_of_length_le (Nat.le_refl _)] at hox
              have HOX := Lib.hid hox
              have HSM : Hid (∀ W', Below wq.heap.size wq W' → Calls Try.prog 16 #[.slice ax l.length kx, .slice av0 l.length cv0] W' fun e' w' => e' = .returned (.bool true) ∧ Below W'.heap.size W' w') := fun W' hb => by
                have h := same_any ((Seg.of_row HOX.out).below hb).holds ((HLL2.out.cp.sm).below hb).holds (by have := HL8.out; omega) (by have := HL8.out; omega)
                rw [show sameP l l = true from by simp [sameP]] at h
                exact h
              have HK1 : Hid (∀ W', Below wq.heap.size wq W' → Calls Try.prog 13 #[.pointer (some ⟨p, 0, none⟩), .agg #[.slice avn l2.length cvn, .int .u64 (q.k : Int), .int .u64 (q.b : Int)], .string ⟨#[]⟩] W' fun e' w' => e' = .returned (.bool true) ∧ Below W'.heap.size W' w') := fun W' hb => by
                rw [← HDP.out.1]
                exact looks_any (HLL2.out.cp.below hb).a (HLL2.out.cp.below hb).sa (by have := HLEN.out; omega) ⟨#[]⟩
              have HK2 : Hid (∀ W', Below wq.heap.size wq W' → Calls Try.prog 13 #[.pointer (some ⟨p2, 0, none⟩), .agg #[.slice avo l3.length cvo, .int .u64 (q.k : Int), .int .u64 (q.b : Int)], .string ⟨#[]⟩] W' fun e' w' => e' = .returned (.bool true) ∧ Below W'.heap.size W' w') := fun W' hb => by
                rw [← HDP.out.2.1]
                exact looks_any (HLL2.out.cp.below hb).c (HLL2.out.cp.below hb).sc (by have := HL3.out; omega) ⟨#[]⟩
              have HCL : Hid (∀ W', Below wq.heap.size wq W' → W'.cell? ⟨sb, 0, none⟩ = some (.slice ax l.length kx) ∧ W'.cell? ⟨z, 0, none⟩ = some (.slice av0 l.length cv0) ∧ W'.cell? ⟨bb, 0, none⟩ = some (.pointer (some ⟨p, 0, none⟩)) ∧ W'.cell? ⟨nb, 0, none⟩ = some (.slice avn l2.length cvn) ∧ W'.cell? ⟨nb, 1, none⟩ = some (.int .u64 (q.k : Int)) ∧ W'.cell? ⟨nb, 2, none⟩ = some (.int .u64 (q.b : Int)) ∧ W'.cell? ⟨ob, 0, none⟩ = some (.slice avo l3.length cvo) ∧ W'.cell? ⟨ob, 1, none⟩ = some (.int .u64 (q.k : Int)) ∧ W'.cell? ⟨ob, 2, none⟩ = some (.int .u64 (q.b : Int))) := fun W' hb => by
                have h := HLL2.out.below hb
                have h1 := h.cp.fm.cell 0
                have h2 := h.cp.fb.cell 0
                have h3 := h.cp.fn.cell 0
                have h4 := h.cp.fn.cell 1
                have h5 := h.cp.fn.cell 2
                have h6 := h.cp.fo.cell 0
                have h7 := h.cp.fo.cell 1
                have h8 := h.cp.fo.cell 2
                rw [HDP.out.2.2.2.2.2] at h1
                rw [HDP.out.2.2.2.2.1, HDP.out.1] at h2
                rw [HDP.out.2.2.2.1] at h3 h4 h5
                rw [HDP.out.2.2.1] at h6 h7 h8
                exact ⟨(h.md.fx.cell 0).trans rfl, h1, h2, h3, h4, h5, h6, h7, h8⟩
              clear hox m1
              obtain ⟨z1, z2, _, _, _, _, _, _, _⟩ := HCL.out _ (Below.refl _ _)
              go_wp2_with (first
                | (go_at_call 16; refine (HSM.out _ (Below.refl _ _)).mono ?_; rintro e8 w8 ⟨rfl, hb8⟩; have H8 := Lib.hid hb8; obtain ⟨_, _, z3, z4, z5, z6, _, _, _⟩ := HCL.out _ hb8; clear hb8)
                | (have _t := H9; go_at_call 13; refine (HK2.out _ H9.out).mono ?_; rintro e10 w10 ⟨rfl, hb10⟩; have H10 := Lib.hid (Below.step H9.out hb10); clear hb10)
                | (go_at_call 13; refine (HK1.out _ H8.out).mono ?_; rintro e9 w9 ⟨rfl, hb9⟩; have H9 := Lib.hid (Below.step H8.out hb9); obtain ⟨_, _, _, _, _, _, z7, z8, z9⟩ := HCL.out _ (Below.step H8.out hb9); clear hb9)
                | (go_at_call 9; refine (awake_any _).mono ?_; rintro e11 w11 ⟨rfl, hb11⟩; have H11 := Lib.hid (Below.step H10.out hb11); clear hb11))
              have hlowE : Below w.heap.size w w11 := Below.step HB.out (Below.step HLL2.out.cp.a.low H11.out)
              refine calm_ret1 (v := .bool true) rfl (HLL2.out.below H11.out).df ?_ ⟨rfl, ?_⟩
              · simp [results, Try.results4, go_sem]
              · exact Turned.below (S := [D]) hlowE (Turned.put (by simp) _) (by simpa using HD0.out) hlowE.size
            · have hs : (((s + 1 : Nat) : Int) - 1) = (s : Int) := by omega
              rw [hs] at hL i2
              have HLq := Lib.hid (And.intro hL hll)
              have s0 : (0 : Int) ≤ (s : Int) := by omega
              have s1 : (s : Int) < (len2 : Int) := by omega
              have s80 : (s : Int) < 80 := by omega
              have hsl : s < len2 := by omega
              have sd : decide (s < len2) = true := decide_eq_true hsl
              obtain ⟨blk, off, rfl, dd, hc⟩ := deed_of HDD2.out hsl
              have HC2 : Hid (∀ W, Below W1.heap.size W1 W → W.cell? ⟨blk, off + s * 5, none⟩ = some (.int .i64 dd.what) ∧ W.cell? ⟨blk, off + s * 5 + 1, none⟩ = some (.string dd.key) ∧ W.cell? ⟨blk, off + s * 5 + 2, none⟩ = some (.string dd.value) ∧ W.cell? ⟨blk, off + s * 5 + 3, none⟩ = some (.string dd.old) ∧ W.cell? ⟨blk, off + s * 5 + 4, none⟩ = some (.int .i64 dd.n)) := fun W hb => hc W (Below.step HB.out hb)
              obtain ⟨d0, d2, d3, d4, d5⟩ := HC2.out _ hL.cp.a.low
              clear hc hL hll ht hs HL1
              cases hfd : dd.fit
              · have HFD := Lib.hid hfd
                clear hfd
                go_wp2_with (go_at_call 11; refine (fitD_any dd _).mono ?_; rw [HFD.out]; rintro e8 w8 ⟨rfl, hb8⟩; have H8 := Lib.hid (HLq.out.1.below hb8); have i4 := H8.out.ib.cell 0; have i5 := H8.out.ib.thawed 0; simp only [List.getElem?_toArray, List.getElem?_cons_zero] at i4; clear hb8)
                have HZ := Lib.hid (H8.out.set HIB.out ((s : Int) - 1))
                have j2 := HZ.out.ib.cell 0
                simp only [List.getElem?_toArray, List.getElem?_cons_zero] at j2
                go_roundw
                case rel => exact ⟨s, by omega, rfl, e3, l3, _, HZ.out, by have := HLq.out.2; omega⟩
                case measure => rw [j2, i2]; simp [intOf]
              · have HFD := Lib.hid hfd
                clear hfd i2 m1 d0 d2 d3 d4 d5
                obtain ⟨d0, d2, d3, d4, d5⟩ := HC2.out _ HLq.out.1.cp.a.low
                have i2 := HLq.out.1.ib.cell 0
                have m1 := HF2.out _ HLq.out.1.cp.a.low
                simp only [List.getElem?_toArray, List.getElem?_cons_zero] at i2
                have I2 := Lib.hid i2
                go_upto_region 26 with (go_at_call 11; refine (fitD_any dd _).mono ?_; rw [HFD.out]; rintro e8 w8 ⟨rfl, hb8⟩; have H8 := Lib.hid hb8; clear hb8)
                clear i2 m1 d0 d2 d3 d4 d5
                have BD := Lib.hid (Below.step H8.out (show Below w8.heap.size w8 w8.drew from (Below.refl _ _).drew))
                have hL := HLq.out.1.below BD.out
                have hl3 := HLq.out.2
                obtain ⟨an, cn, rfl, _, _⟩ := hL.cp.sc.form
                have HLD := Lib.hid hL
                have y0 := hL.cp.fo.cell 0
                have y1 := hL.cp.fo.cell 1
                have y2 := hL.cp.fo.cell 2
                rw [HDP.out.2.2.1] at y0 y1 y2
                simp only [rcs, List.getElem?_toArray, List.getElem?_cons_zero, List.getElem?_cons_succ] at y0 y1 y2
                have i1 := hL.ib.cell 0
                simp only [List.getElem?_toArray, List.getElem?_cons_zero] at i1
                have m1 := HF2.out _ hL.cp.a.low
                obtain ⟨d0, d2, d3, d4, d5⟩ := HC2.out _ hL.cp.a.low
                have HD : Hid (Calls Try.prog 12 #[.pointer (some ⟨A.p2, 0, none⟩), rb (.slice an l3.length cn) q.k q.b, dd.v] w8.drew (Nw.DoesB W1 w8.drew A.p2 A.q2 e3 A.m2 q.k q.b (.slice an l3.length cn) (actS dd l3 q.k q.b).1)) := Nw.does_any hL.cp.c hL.cp.sc (by omega) dd
                obtain ⟨L2, hL2⟩ : ∃ L2, (actS dd l3 q.k q.b).1 = L2 := ⟨_, rfl⟩
                rw [hL2] at HD
                have HL2 : Hid (L2.length + s ≤ 80 + len2) := by
                  show _ ≤ _
                  have := act_len dd l3 q.k q.b
                  rw [hL2] at this
                  omega
                unfold rb Dd.v at HD
                rw [HDP.out.2.1] at HD
                clear hL hL2 hl3
                refine (wpIn_wide (n := 0)).1 ?_
                refine region_mix [0, 4, 7, 8, 9, 11] [0, 0, 0, 0, 12, 28, 63, 127, 255, 255, 511, 2047] [0, 1, 2, 3, 4, 5, 6, 7, 8, 9, 10, 11] (by kernel_rfl) rfl (by kernel_rfl) ?_
                refine mix_pure (v := ?_) (by simp only [List.getElem?_toArray, List.getElem?_cons_zero] <;> rfl) (by kernel_rfl) ⟨Or.inl ⟨by kernel_rfl, ?_⟩, fun _ => (by rfl)⟩ ?_; rotate_left 1; focus (intro w; go_simp; try with_reducible rfl)
                simp only [Act.put, List.setIfInBounds_toArray, List.set_cons_zero, List.set_cons_succ]
                refine mix_step (by simp only [List.getElem?_toArray, List.getElem?_cons_succ, List.getElem?_cons_zero] <;> rfl) (by kernel_rfl) (fun K hK => ?_)
                go_simp
                refine hK _ _ ?_
                clear hK K
                refine mix_step (by simp only [List.getElem?_toArray, List.getElem?_cons_succ, List.getElem?_cons_zero] <;> rfl) (by kernel_rfl) (fun K hK => ?_)
                go_simp
                refine hK _ _ ?_
                clear hK K
                refine mix_step (by simp only [List.getElem?_toArray, List.getElem?_cons_succ, List.getElem?_cons_zero] <;> rfl) (by kernel_rfl) (fun K hK => ?_)
                go_simp
                refine hK _ _ ?_
                clear hK K
                refine mix_pure (v := ?_) (by simp only [List.getElem?_toArray, List.getElem?_cons_succ, List.getElem?_cons_zero] <;> rfl) (by kernel_rfl) ⟨Or.inl ⟨by kernel_rfl, ?_⟩, fun _ => (by rfl)⟩ ?_; rotate_left 1; focus (intro w; go_simp; try with_reducible rfl)
                simp only [Act.put, List.setIfInBounds_toArray, List.set_cons_zero, List.set_cons_succ]
                refine mix_step (by simp only [List.getElem?_toArray, List.getElem?_cons_succ, List.getElem?_cons_zero] <;> rfl) (by kernel_rfl) (fun K hK => ?_)
                go_simp
                refine hK _ _ ?_
                clear hK K
                refine mix_step (by simp only [List.getElem?_toArray, List.getElem?_cons_succ, List.getElem?_cons_zero] <;> rfl) (by kernel_rfl) (fun K hK => ?_)
                go_simp
                refine ⟨trivial, rfl, ?_⟩
                refine (callsIn_wide.2 HD.out).mono ?_
                rintro e6 w6 ⟨v6, e4, rfl, hH6, hT6, hS6⟩
                obtain ⟨a6, k6, rfl, _, _⟩ := hS6.1.form
                unfold rb
                rw [← HDP.out.2.1] at hH6
                have X6 := hT6.other HLD.out.cp.fo (HLD.out.cp.c.bk.out HLD.out.cp.fo (by decide) (by decide))
                have HDO := Lib.hid (HLD.out.does hH6 hT6 hS6)
                have t0 := X6.cell 0
                have t1 := X6.cell 1
                have t2 := X6.cell 2
                have u0 := X6.thawed 0
                have u1 := X6.thawed 1
                have u2 := X6.thawed 2
                rw [HDP.out.2.2.1] at t0 t1 t2 u0 u1 u2
                simp only [rcs, List.getElem?_toArray, List.getElem?_cons_zero, List.getElem?_cons_succ] at t0 t1 t2
                clear hH6 hT6 hS6 X6
                refine hK _ _ ?_
                clear hK K
                refine mix_pure (v := ?_) (by simp only [List.getElem?_toArray, List.getElem?_cons_succ, List.getElem?_cons_zero] <;> rfl) (by kernel_rfl) ⟨Or.inl ⟨by kernel_rfl, ?_⟩, fun _ => (by rfl)⟩ ?_; rotate_left 1; focus (intro w; go_simp; try with_reducible rfl)
                simp only [Act.put, List.setIfInBounds_toArray, List.set_cons_zero, List.set_cons_succ]
                refine mix_pure (v := ?_) (by simp only [List.getElem?_toArray, List.getElem?_cons_succ, List.getElem?_cons_zero] <;> rfl) (by kernel_rfl) ⟨Or.inl ⟨by kernel_rfl, ?_⟩, fun _ => (by rfl)⟩ ?_; rotate_left 1; focus (intro w; go_simp; try with_reducible rfl)
                simp only [Act.put, List.setIfInBounds_toArray, List.set_cons_zero, List.set_cons_succ]
                refine mix_pure (v := ?_) (by simp only [List.getElem?_toArray, List.getElem?_cons_succ, List.getElem?_cons_zero] <;> rfl) (by kernel_rfl) ⟨Or.inl ⟨by kernel_rfl, ?_⟩, fun _ => (by rfl)⟩ ?_; rotate_left 1; focus (intro w; go_simp; try with_reducible rfl)
                simp only [Act.put, List.setIfInBounds_toArray, List.set_cons_zero, List.set_cons_succ]
                refine mix_step (by simp only [List.getElem?_toArray, List.getElem?_cons_succ, List.getElem?_cons_zero] <;> rfl) (by kernel_rfl) (fun K hK => ?_)
                go_simp
                refine hK _ _ ?_
                clear hK K
                refine mix_pure (v := ?_) (by simp only [List.getElem?_toArray, List.getElem?_cons_succ, List.getElem?_cons_zero] <;> rfl) (by kernel_rfl) ⟨Or.inl ⟨by kernel_rfl, ?_⟩, fun _ => (by rfl)⟩ ?_; rotate_left 1; focus (intro w; go_simp; try with_reducible rfl)
                simp only [Act.put, List.setIfInBounds_toArray, List.set_cons_zero, List.set_cons_succ]
                refine mix_end ?_
                obtain ⟨Wn, hWn⟩ : ∃ Wn, Wn = stored w6 ob (.slice a6 L2.length k6) q.k q.b := ⟨_, rfl⟩
                rw [HDP.out.2.2.1, ← hWn] at HDO
                unfold stored at hWn
                rw [← hWn]
                have i4 := HDO.out.ib.cell 0
                have i5 := HDO.out.ib.thawed 0
                simp only [List.getElem?_toArray, List.getElem?_cons_zero] at i4
                clear hWn t0 t1 t2 u0 u1 u2 y0 y1 y2 i1 m1 d0 d2 d3 d4 d5
                go_wp2_with fail
                have HZ := Lib.hid (HDO.out.set HIB.out ((s : Int) - 1))
                have j2 := HZ.out.ib.cell 0
                simp only [List.getElem?_toArray, List.getElem?_cons_zero] at j2
                go_roundw
                case rel => exact ⟨s, by omega, rfl, e4, L2, _, HZ.out, HL2.out⟩
                case measure => rw [j2, I2.out]; simp [intOf]

        case stop =>
          rintro D c pre W5 hD hS2 h hK'
          exact h.elim
end Go.Proofs.Ytcpmnkihhenbgaa
