/- BookQuota's helpers: counted, exceeds. -/
import Derived.Test.YtcpmnkihhenbgaaFactsK
import Derived.Test.YtcpmnkihhenbgaaOpenB
import Derived.Laws.Cover1
namespace Go.Proofs.Ytcpmnkihhenbgaa
open Go.RowKit
set_option maxRecDepth 1000000
set_option maxHeartbeats 4000000

theorem lenP_take_succ {l : List Pr} {i : Nat} {x : Pr} (h : l[i]? = some x) : lenP (l.take (i + 1)) = lenP (l.take i) + (x.1.size + x.2.size) := by
  obtain ⟨hi, rfl⟩ := List.getElem?_eq_some_iff.1 h
  rw [List.take_succ_eq_append_getElem hi]
  unfold lenP
  rw [List.map_append, List.sum_append]
  simp
theorem srt_at {l : List Pr} (hs : SrtP l) {i : Nat} {x y : Pr} (hx : l[i]? = some x) (hy : l[i + 1]? = some y) : kl x.1 y.1 = true := by
  unfold SrtP SrtK at hs
  have h := List.pairwise_iff_getElem.1 hs i (i + 1) (by simp [keys]; have := (List.getElem?_eq_some_iff.1 hx).1; omega) (by simp [keys]; exact (List.getElem?_eq_some_iff.1 hy).1) (by omega)
  obtain ⟨h1, rfl⟩ := List.getElem?_eq_some_iff.1 hx
  obtain ⟨h2, rfl⟩ := List.getElem?_eq_some_iff.1 hy
  simpa [keys] using h
theorem lenP_lt {l : List Pr} (ht : TxtP l) (hn : l.length < 1000) : lenP l ≤ 48000 := by
  have := lenP_le ht
  omega
theorem txt_take {l : List Pr} (ht : TxtP l) (i : Nat) : TxtP (l.take i) := fun t h => ht t (List.mem_of_mem_take h)
theorem counted_any {W : World} {p q e m : Nat} {l : List Pr} {K B : Nat} {v : Value} (h : BookAt W p q e m l K B) (hn : l.length < 1000) (hv : Holds W v l) :
    Calls Try.prog 23 #[.pointer (some ⟨p, 0, none⟩), v] W fun e' w' => e' = .returned (.bool true) ∧ Below W.heap.size W w' := by
  obtain ⟨a, cap, rfl, hc⟩ := hv
  have HC := Lib.hid hc
  have HB := Lib.hid h
  have HN := Lib.hid hn
  clear hc h hn
  go_enter Try.func23, Try.ntmps23
  go_wp2_with fail
  go_loopw [5, 6] (fun nv iv wr => ∃ i : Nat, i ≤ l.length ∧ iv = .int .i64 i ∧ nv = .int .u64 (lenP (l.take i) : Nat) ∧ Below W.heap.size W wr) (fun _ iv _ => l.length - (intOf iv).toNat)
  case atStart => exact ⟨0, Nat.zero_le _, rfl, rfl, Below.refl _ _⟩
  case round =>
    obtain ⟨i, hi, rfl, rfl, hbw⟩ := hrel
    have hgood := HB.out.good
    by_cases hlt : i < l.length
    · obtain ⟨⟨x, y⟩, hx⟩ : ∃ t, l[i]? = some t := ⟨_, List.getElem?_eq_getElem hlt⟩
      obtain ⟨b, o, rfl, hb, k1, k2⟩ := HC.out i _ hx
      replace k1 := (hbw.cell (p := ⟨b, o + i * 2, none⟩) hb).trans k1
      replace k2 := (hbw.cell (p := ⟨b, o + i * 2 + 1, none⟩) hb).trans k2
      dsimp only at k1 k2
      have hxy := hgood.2 _ (List.mem_of_getElem? hx)
      dsimp only at hxy
      have hq := lenP_lt (txt_take hgood.2 i) (by have := HN.out; simp; omega)
      have hs := lenP_take_succ hx
      dsimp only at hs
      obtain ⟨n, hn⟩ : ∃ n, lenP (l.take i) = n := ⟨_, rfl⟩
      rw [hn] at hq hs ⊢
      have jl : (i : Int) < (l.length : Int) := by omega
      have j0 : (0 : Int) ≤ (i : Int) := by omega
      have k80 : (i : Int) < 1000 := by have := HN.out; omega
      have jd : decide (i < l.length) = true := decide_eq_true hlt
      have z1 : IntKind.u64.wrap ((x.size : Nat) : Int) = (x.size : Int) := by rw [IntKind.wrap_u64]; omega
      have z2 : IntKind.u64.wrap ((y.size : Nat) : Int) = (y.size : Int) := by rw [IntKind.wrap_u64]; omega
      have z3 : IntKind.u64.wrap ((n : Int) + (x.size : Int)) = (n : Int) + (x.size : Int) := by rw [IntKind.wrap_u64]; omega
      have z4 : IntKind.u64.wrap ((n : Int) + (x.size : Int) + (y.size : Int)) = (n : Int) + (x.size : Int) + (y.size : Int) := by rw [IntKind.wrap_u64]; omega
      have HX := Lib.hid (And.intro hx (And.intro hbw (And.intro hb (And.intro hs (And.intro hgood hi)))))
      rcases Nat.eq_zero_or_pos i with h0 | h0
      · subst h0
        clear hx hbw hb hs hgood hi hn
        rw [Nat.zero_mul, Nat.add_zero] at k1
        rw [Nat.zero_mul, Nat.add_zero] at k2
        go_wp2_with fail
        go_region
        go_wp2_with fail
        go_region
        go_wp2_with fail
        refine ⟨⟨1, by omega, rfl, ?_, HX.out.2.1.drew.drew⟩, ?_⟩
        · have := HX.out.2.2.2.1; simp only [Nat.zero_add] at this; rw [this]; simp; omega
        · simp [intOf]; omega
      · obtain ⟨k, hk⟩ : ∃ k, i = k + 1 := ⟨i - 1, by omega⟩
        obtain ⟨⟨x0, y0⟩, hx0⟩ : ∃ t, l[k]? = some t := ⟨_, List.getElem?_eq_getElem (by omega)⟩
        obtain ⟨b', o', e', _, q1, _⟩ := HC.out k _ hx0
        cases e'
        replace q1 := (hbw.cell (p := ⟨b, o + k * 2, none⟩) hb).trans q1
        dsimp only at q1
        have hkl := srt_at hgood.1 hx0 (hk ▸ hx)
        dsimp only at hkl
        have jk : (i : Int) - 1 = (k : Int) := by omega
        have jk0 : (0 : Int) < (i : Int) := by omega
        have jk3 : decide (0 < i) = true := decide_eq_true (by omega)
        have jk4 : decide ((0 : Int) < (i : Int)) = true := decide_eq_true (by omega)
        have jk1 : (0 : Int) ≤ (k : Int) := by omega
        have jk2 : (k : Int) < (l.length : Int) := by omega
        have HK := Lib.hid hkl
        have hle : Op.bytesLess x.toList x0.toList = false := by rw [kl_eq]; exact kl_not hkl
        have hne : (x.toList == x0.toList) = false := by rw [kl_beq]; exact decide_eq_false (fun e => kl_ne hkl e.symm)
        clear hx hbw hb hs hgood hi hn hk hx0 hkl h0
        go_wp2_with fail
        go_region
        go_wp2_with fail
        go_region
        go_wp2_with fail
        refine ⟨⟨i + 1, by omega, by simp, ?_, HX.out.2.1.drew.drew⟩, ?_⟩
        · have := HX.out.2.2.2.1; rw [this]; simp; omega
        · simp [intOf]; omega
    · have HX := Lib.hid (And.intro hbw hgood)
      have hll : l.take i = l := List.take_of_length_le (by omega)
      have jl : ¬ (i : Int) < (l.length : Int) := by omega
      have jd : decide (i < l.length) = false := decide_eq_false hlt
      rw [hll]
      have z1 : IntKind.u64.wrap ((l.length : Nat) : Int) = (l.length : Int) := by have := HN.out; rw [IntKind.wrap_u64]; omega
      clear hbw hgood hi
      go_wp2_with (first
        | (go_at_call 24; refine (keys_any (HB.out.below HX.out.1) (by have := HN.out; omega)).mono ?_; rintro e1 w1 ⟨rfl, h1⟩; replace h1 := h1.symm; subst h1)
        | (go_at_call 25; refine (bytes_any (HB.out.below HX.out.1)).mono ?_; rintro e2 w2 ⟨rfl, h2⟩; replace h2 := h2.symm; subst h2))
      go_ret
      exact ⟨rfl, HX.out.1⟩
theorem drop_take_succ {l : List Pr} {i : Nat} {x : Pr} {z : ByteArray} (h : l[i]? = some x) : dropP z (l.take (i + 1)) = if x.1 = z then dropP z (l.take i) else dropP z (l.take i) ++ [x] := by
  obtain ⟨hi, rfl⟩ := List.getElem?_eq_some_iff.1 h
  rw [List.take_succ_eq_append_getElem hi]
  unfold dropP delT
  rw [List.filter_append]
  by_cases e : (l[i]).1 = z
  · rw [if_pos e, List.filter_cons_of_neg (by simpa using e)]
    simp
  · rw [if_neg e, List.filter_cons_of_pos (by simpa using e)]
    rfl
theorem lenP_snoc (l : List Pr) (x : Pr) : lenP (l ++ [x]) = lenP l + (x.1.size + x.2.size) := by
  unfold lenP
  rw [List.map_append, List.sum_append]
  simp
/-- Whether a value under a key exceeds the limits. -/
def overB (x y : ByteArray) (l : List Pr) (K B : Nat) : Bool := decide (K < (putP x y l).length ∨ B < lenP (putP x y l))
def ExAt (d : Dd) (l : List Pr) (i c n : Nat) : Prop := c = (dropP d.key (l.take i)).length + 1 ∧ n = d.key.size + d.value.size + lenP (dropP d.key (l.take i))
theorem exceeds_any (q : Lm) {W : World} {l : List Pr} {v : Value} (d : Dd) (hf : d.fit = true) (hn : l.length < 1000) (ht : TxtP l) (hv : Holds W v l) :
    Calls Try.prog 26 #[q.v, v, d.v] W fun e' w' => e' = .returned (.bool (overB d.key d.value l q.k q.b)) ∧ Below W.heap.size W w' := by
  obtain ⟨a, cap, rfl, hc⟩ := hv
  have hdf : d.key.size ≤ 100 ∧ d.value.size ≤ 100 := by
    have := of_decide_eq_true hf
    exact ⟨this.1, this.2.1⟩
  obtain ⟨W1, hW1⟩ : ∃ W1, W1 = (W.alloc (.cells #[.int .u64 (q.k : Int), .int .u64 (q.b : Int)] 24)).alloc (.cells d.cs 33) := ⟨_, rfl⟩
  have B1 : Below W.heap.size W W1 := by rw [hW1]; exact Below.new (Below.new (Below.refl _ _) _) _
  have f0 : Fresh W1 W.heap.size #[.int .u64 (q.k : Int), .int .u64 (q.b : Int)] 24 := by rw [hW1]; exact (Fresh.new _ _ _ _ rfl).alloc _
  have f1 : Fresh W1 (W.heap.size + 1) d.cs 33 := by rw [hW1]; exact Fresh.new _ _ _ _ (by simp)
  have HF0 := Lib.hid f0
  have HF1 := Lib.hid f1
  have HB1 := Lib.hid B1
  have HC := Lib.hid hc
  have HN := Lib.hid hn
  have HT := Lib.hid ht
  have HDF := Lib.hid hdf
  have e1 := f1.cell 1
  have e2 := f1.cell 2
  simp only [Dd.cs, List.getElem?_toArray, List.getElem?_cons_zero, List.getElem?_cons_succ] at e1 e2
  have z1 : IntKind.u64.wrap ((d.key.size : Int) + (d.value.size : Int)) = (d.key.size : Int) + (d.value.size : Int) := by rw [IntKind.wrap_u64]; omega
  have z2 : IntKind.i64.wrap ((d.key.size : Int) + (d.value.size : Int)) = (d.key.size : Int) + (d.value.size : Int) := by rw [IntKind.wrap_i64]; omega
  obtain ⟨r, hr⟩ : ∃ r, overB d.key d.value l q.k q.b = r := ⟨_, rfl⟩
  have HR := Lib.hid hr
  rw [hr]
  have B1s : W.heap.size < W1.heap.size := f0.lt
  unfold Dd.cs at hW1
  have HW1 := Lib.hid hW1
  clear hW1 B1 f0 f1 hc hn ht hdf hr hf
  unfold Lm.v Dd.v
  go_enter Try.func26, Try.ntmps26
  go_upto_region 1 with fail
  rw [← HW1.out]
  go_region
  go_wp2_with fail
  go_loopw [7, 8, 9] (fun kv bv iv wr => ∃ i c n : Nat, i ≤ l.length ∧ iv = .int .i64 i ∧ kv = .int .u64 c ∧ bv = .int .u64 n ∧ ExAt d l i c n ∧ Below W1.heap.size W1 wr) (fun _ _ iv _ => l.length - (intOf iv).toNat)
  case atStart =>
    refine ⟨0, 1, d.key.size + d.value.size, Nat.zero_le _, rfl, rfl, by simp, ⟨?_, ?_⟩, (Below.refl _ _).drew⟩
    · simp [dropP, delT]
    · simp [dropP, delT, lenP]
  case round =>
    obtain ⟨i, c, n, hi, rfl, rfl, rfl, hex, hbw⟩ := hrel
    have e1' := (hbw.cell (p := ⟨W.heap.size + 1, 1, none⟩) (cell_lt e1)).trans e1
    by_cases hlt : i < l.length
    · obtain ⟨⟨x, y⟩, hx⟩ : ∃ t, l[i]? = some t := ⟨_, List.getElem?_eq_getElem hlt⟩
      obtain ⟨b, o, rfl, hb, k1, k2⟩ := HC.out i _ hx
      replace k1 := (HB1.out.cell (p := ⟨b, o + i * 2, none⟩) hb).trans k1
      replace k2 := (HB1.out.cell (p := ⟨b, o + i * 2 + 1, none⟩) hb).trans k2
      replace k1 := (hbw.cell (p := ⟨b, o + i * 2, none⟩) (cell_lt k1)).trans k1
      replace k2 := (hbw.cell (p := ⟨b, o + i * 2 + 1, none⟩) (cell_lt k2)).trans k2
      dsimp only at k1 k2
      have hxy := HT.out _ (List.mem_of_getElem? hx)
      dsimp only at hxy
      have hq := lenP_lt (drop_txt (x := d.key) (txt_take HT.out i)) (by have := HN.out; have := drop_len d.key (l.take i); simp at this; omega)
      have hcl : c ≤ 1000 := by have := HN.out; have := drop_len d.key (l.take i); simp at this; have := hex.1; omega
      have hnl : n ≤ 49000 := by have := hex.2; have := HDF.out; omega
      have jl : (i : Int) < (l.length : Int) := by omega
      have j0 : (0 : Int) ≤ (i : Int) := by omega
      have k80 : (i : Int) < 1000 := by have := HN.out; omega
      have jd : decide (i < l.length) = true := decide_eq_true hlt
      by_cases hxk : x = d.key
      · have HX := Lib.hid (And.intro hx (And.intro hbw hex))
        have heq : (x.toList == d.key.toList) = true := by rw [kl_beq]; exact decide_eq_true hxk
        have HXK := Lib.hid hxk
        clear hx hbw hb hex hi hq hxk
        go_wp2_with fail
        go_region
        go_wp2_with fail
        refine ⟨⟨i + 1, c, n, by omega, by simp, rfl, rfl, ⟨?_, ?_⟩, HX.out.2.1.drew⟩, by simp [intOf]; omega⟩
        · rw [drop_take_succ HX.out.1, if_pos HXK.out]; exact HX.out.2.2.1
        · rw [drop_take_succ HX.out.1, if_pos HXK.out]; exact HX.out.2.2.2
      · have HX := Lib.hid (And.intro hx (And.intro hbw hex))
        have heq : (x.toList == d.key.toList) = false := by rw [kl_beq]; exact decide_eq_false hxk
        have HXK := Lib.hid hxk
        have y1 : IntKind.u64.wrap ((c : Int) + 1) = (c : Int) + 1 := by rw [IntKind.wrap_u64]; omega
        have y2 : IntKind.i64.wrap ((x.size : Int) + (y.size : Int)) = (x.size : Int) + (y.size : Int) := by rw [IntKind.wrap_i64]; omega
        have y3 : IntKind.u64.wrap ((x.size : Int) + (y.size : Int)) = (x.size : Int) + (y.size : Int) := by rw [IntKind.wrap_u64]; omega
        have y4 : IntKind.u64.wrap ((n : Int) + ((x.size : Int) + (y.size : Int))) = (n : Int) + ((x.size : Int) + (y.size : Int)) := by rw [IntKind.wrap_u64]; omega
        clear hx hbw hb hex hi hq hxk
        go_wp2_with fail
        go_region
        go_wp2_with fail
        go_region
        go_wp2_with fail
        refine ⟨⟨i + 1, c + 1, n + (x.size + y.size), by omega, by simp, by simp, by simp, ⟨?_, ?_⟩, HX.out.2.1.drew.drew⟩, by simp [intOf]; omega⟩
        · rw [drop_take_succ HX.out.1, if_neg HXK.out, List.length_append, List.length_singleton]; have := HX.out.2.2.1; omega
        · rw [drop_take_succ HX.out.1, if_neg HXK.out, lenP_snoc]; have := HX.out.2.2.2; dsimp only; omega
    · have hll : l.take i = l := List.take_of_length_le (by omega)
      have hci := lenP_ins d.key d.value (dropP d.key l)
      have hc : (putP d.key d.value l).length = c := by have := hex.1; rw [hll] at this; exact hci.2.trans this.symm
      have hn : lenP (putP d.key d.value l) = n := by have := hex.2; rw [hll] at this; have h := hci.1; unfold putP; omega
      have g0 := (hbw.cell (p := ⟨W.heap.size, 0, none⟩) (by have := B1s; omega)).trans (HF0.out.cell 0)
      have g1 := (hbw.cell (p := ⟨W.heap.size, 1, none⟩) (by have := B1s; omega)).trans (HF0.out.cell 1)
      simp only [List.getElem?_toArray, List.getElem?_cons_zero, List.getElem?_cons_succ] at g0 g1
      have jl : ¬ (i : Int) < (l.length : Int) := by omega
      have jd : decide (i < l.length) = false := decide_eq_false hlt
      have HR2 : Hid (decide (q.k < c ∨ q.b < n) = r) := by
        show _ = _
        rw [← HR.out, overB, hc, hn]
      have HBW := Lib.hid (Below.step HB1.out hbw)
      clear hbw hex hi hc hn hci hll
      by_cases h1 : q.k < c
      · have u1 : (q.k : Int) < (c : Int) := by omega
        have u2 : decide (q.k < c) = true := decide_eq_true h1
        go_wp2_with fail
        go_ret
        refine ⟨?_, HBW.out⟩
        rw [← HR2.out, decide_eq_true (.inl h1)]
        rfl
      · have u1 : ¬ (q.k : Int) < (c : Int) := by omega
        have u2 : decide (q.k < c) = false := decide_eq_false h1
        by_cases h2 : q.b < n
        · have u3 : (q.b : Int) < (n : Int) := by omega
          have u4 : decide (q.b < n) = true := decide_eq_true h2
          go_wp2_with fail
          go_ret
          refine ⟨?_, HBW.out⟩
          rw [← HR2.out, decide_eq_true (.inr h2)]
          rfl
        · have u3 : ¬ (q.b : Int) < (n : Int) := by omega
          have u4 : decide (q.b < n) = false := decide_eq_false h2
          go_wp2_with fail
          go_ret
          refine ⟨?_, HBW.out⟩
          rw [← HR2.out, decide_eq_false (by rintro (h | h); exact h1 h; exact h2 h)]
          rfl
end Go.Proofs.Ytcpmnkihhenbgaa
