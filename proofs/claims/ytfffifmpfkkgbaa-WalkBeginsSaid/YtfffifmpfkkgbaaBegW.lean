/- WalkBegins: the walk of the law. -/
import Derived.Test.YtfffifmpfkkgbaaPt
import Derived.Test.YtfffifmpfkkgbaaAwakeW
namespace Go.Proofs.Ytfffifmpfkkgbaa
open Go.RowKit Go.Shelf
set_option maxRecDepth 1000000
set_option maxHeartbeats 4000000

theorem beg_pre {l : List Pr} (p : ByteArray) : begP p l = ((l.drop (atK p (keys l))).take (begP p l).length) := by
  have h : begP p l <+: fromP p l := List.takeWhile_prefix _
  exact List.prefix_iff_eq_take.1 h
theorem beg_room {l : List Pr} (p : ByteArray) : atK p (keys l) + (begP p l).length ≤ l.length := by
  have h : begP p l <+: fromP p l := List.takeWhile_prefix _
  have h1 := h.length_le
  have h2 : atK p (keys l) ≤ l.length := by rw [← keys_len]; exact atK_le _ _
  unfold fromP at h1
  simp at h1
  omega
theorem at_empty (l : List Pr) : atK ⟨#[]⟩ (keys l) = 0 := by
  cases l with
  | nil => rfl
  | cons z l =>
    rw [show keys (z :: l) = z.1 :: keys l from rfl, atK_cons, if_neg]
    cases h : z.1.data.toList <;> simp [kl, bl, Op.bytesLess, h]
theorem bet_before {l : List Pr} (hs : SrtP l) {p : ByteArray} (hp : p.size ≠ 0) : (betP ⟨#[]⟩ p l).length = atK p (keys l) := by
  have h2 : atK p (keys l) ≤ l.length := by rw [← keys_len]; exact atK_le _ _
  rw [bet_take hs _ hp, from_empty, at_empty, Nat.sub_zero, List.length_take]
  omega
theorem beg_longer (p more : ByteArray) (x : ByteArray) (h : begB (p ++ more) x = true) : begB p x = true := by
  unfold begB at h ⊢
  rw [append_list] at h
  generalize p.data.toList = a at h ⊢
  generalize more.data.toList = b at h
  generalize x.data.toList = c at h ⊢
  induction a generalizing c with
  | nil => simp
  | cons u a ih =>
    cases c with
    | nil => simp [List.isPrefixOf] at h
    | cons v c =>
      simp only [List.cons_append, List.isPrefixOf, Bool.and_eq_true] at h ⊢
      exact ⟨h.1, ih c h.2⟩
theorem beg_less {l : List Pr} (hs : SrtP l) (p more : ByteArray) : (begP (p ++ more) l).length ≤ (begP p l).length := by
  rw [← beg_filter hs, ← beg_filter hs]
  have : l.filter (fun z => begB (p ++ more) z.1) = (l.filter (fun z => begB p z.1)).filter (fun z => begB (p ++ more) z.1) := by
    rw [List.filter_filter]
    refine List.filter_congr (fun z _ => ?_)
    cases h : begB (p ++ more) z.1
    · rfl
    · rw [beg_longer p more z.1 h]; rfl
  rw [this]
  exact List.length_filter_le _ _
/-- A part of a slice of pairs. -/
theorem Holds.part {W : World} {a : Option Addr} {n cap : Nat} {l : List Pr} (h : Holds W (.slice a n cap) l) {lo k c2 : Nat} (hk : lo + k ≤ l.length) (hcap : l.length ≤ cap) : Holds W (.slice (fromAd a cap lo) k c2) ((l.drop lo).take k) := by
  obtain ⟨a', c', e, h'⟩ := h
  cases e
  have hl : ((l.drop lo).take k).length = k := by simp; omega
  refine ⟨_, c2, by rw [hl], fun j x hj => ?_⟩
  have hjk : j < k := by have := (List.getElem?_eq_some_iff.1 hj).1; omega
  rw [List.getElem?_take, if_pos hjk, List.getElem?_drop] at hj
  obtain ⟨b, o, rfl, h2, h3, h4⟩ := h' (lo + j) x hj
  by_cases hc : cap = lo
  · omega
  · refine ⟨b, o + lo * 2, by unfold fromAd; rw [if_neg hc]; simp [Addr.add_lit], h2, ?_, ?_⟩
    · rw [← h3]; congr 2; omega
    · rw [← h4]; congr 2; omega
theorem Holds.ini {W : World} {a : Option Addr} {n cap : Nat} {l : List Pr} (h : Holds W (.slice a n cap) l) {k : Nat} (hk : k ≤ l.length) : Holds W (.slice a k cap) (l.take k) := by
  obtain ⟨a', c', e, h'⟩ := h
  cases e
  refine ⟨_, cap, by rw [List.length_take, Nat.min_eq_left hk], fun j x hj => ?_⟩
  have hjk : j < k := by have := (List.getElem?_eq_some_iff.1 hj).1; rw [List.length_take] at this; omega
  rw [List.getElem?_take, if_pos hjk] at hj
  exact h' j x hj
theorem beg_out (ao : Option Addr) (len cap : Nat) (s t : ByteArray) (w : World) (hout : 200 < s.size ∨ 200 < t.size) :
    Calls Try.prog 6 #[.slice ao len cap, .string s, .string t] w fun e w' => e = .returned (.bool true) ∧ Below w.heap.size w w' := by
  have HA := Lib.hid (awake_any w)
  obtain ⟨ns, hns⟩ : ∃ ns, s.size = ns := ⟨_, rfl⟩
  obtain ⟨nt, hnt⟩ : ∃ nt, t.size = nt := ⟨_, rfl⟩
  rw [hns, hnt] at hout
  by_cases h1 : 200 < ns
  · have j1 : (200 : Int) < (ns : Int) := by omega
    clear hout h1
    go_enter Try.func6, Try.ntmps6
    go_wp2_with (go_at_call 7; refine HA.out.mono ?_; rintro e1 w1 ⟨rfl, hb1⟩; have H1 := Lib.hid hb1; clear hb1)
    go_ret
    exact ⟨rfl, H1.out⟩
  · have j1 : ¬ (200 : Int) < (ns : Int) := by omega
    have j2 : (200 : Int) < (nt : Int) := by omega
    clear hout h1
    go_enter Try.func6, Try.ntmps6
    go_wp2_with (go_at_call 7; refine HA.out.mono ?_; rintro e1 w1 ⟨rfl, hb1⟩; have H1 := Lib.hid hb1; clear hb1)
    go_ret
    exact ⟨rfl, H1.out⟩
theorem beg_in (ao : Option Addr) (len cap : Nat) (hlen : len ≤ 9223372036854775807) (s t : ByteArray) (w : World) (ds : Nat → Dd) (hD : HasD w ao len ds) (h1 : s.size ≤ 200) (h2 : t.size ≤ 200) :
    Calls Try.prog 6 #[.slice ao len cap, .string s, .string t] w fun e w' => e = .returned (.bool true) ∧ Below w.heap.size w w' := by
  have HA := Lib.hid (awake_any w)
  obtain ⟨ns, hns⟩ : ∃ ns, s.size = ns := ⟨_, rfl⟩
  obtain ⟨nt, hnt⟩ : ∃ nt, t.size = nt := ⟨_, rfl⟩
  have j1 : ¬ (200 : Int) < (ns : Int) := by omega
  have j2 : ¬ (200 : Int) < (nt : Int) := by omega
  have HST := Lib.hid (show s.size ≤ maxLen ∧ (s ++ t).size ≤ maxLen ∧ ns + nt ≤ 400 by rw [append_size]; unfold maxLen; omega)
  have jcat : (s.size : Int) + (t.size : Int) ≤ 9223372036854775807 := by omega
  obtain ⟨l, hl⟩ : ∃ l, runD ds (min len 50) [] = l := ⟨_, rfl⟩
  have hll : l.length ≤ 50 := by
    have := run_length ds (min len 50) []
    rw [hl] at this
    simp at this
    omega
  have HD := Lib.hid (And.intro hlen (And.intro hD (And.intro hl hll)))
  obtain ⟨X, hX⟩ : ∃ X, begP s l = X := ⟨_, rfl⟩
  obtain ⟨ST, hST⟩ : ∃ ST, s ++ t = ST := ⟨_, rfl⟩
  obtain ⟨Y, hY⟩ : ∃ Y, begP ST l = Y := ⟨_, rfl⟩
  have HXY := Lib.hid (And.intro hX (And.intro hST hY))
  rw [hST] at HST
  clear hlen hD h1 h2 hl hll hX hY
  go_enter Try.func6, Try.ntmps6
  go_upto_region 6 with (first
    | (go_at_call 7; refine HA.out.mono ?_; rintro e1 w1 ⟨rfl, hb1⟩; have H1 := Lib.hid hb1; clear hb1)
    | (go_at_call 12; refine (built_any H1.out ao len cap HD.out.1 ds HD.out.2.1).mono ?_; rintro e2 w2 ⟨p, q, e, m, rfl, hbw, hb2, hge, hA2⟩; rw [HD.out.2.2.1] at hA2; have H2 := Lib.hid (And.intro hb2 hA2); clear hbw hb2 hge hA2))
  have hlen1 : l.length < 100000 := by have := HD.out.2.2.2; omega
  have HL1 := Lib.hid hlen1
  have B1 := Lib.hid (fun W (h : Below w2.heap.size w2 W) => begin_q (H2.out.2.below h) HL1.out s HST.out.1)
  have B2 := Lib.hid (fun W (h : Below w2.heap.size w2 W) => begin_q (H2.out.2.below h) HL1.out ST HST.out.2.1)
  have B3 := Lib.hid (fun W (h : Below w2.heap.size w2 W) => pairs_any (H2.out.2.below h) HL1.out)
  rw [HXY.out.1] at B1
  rw [HXY.out.2.2] at B2
  clear hlen1
  go_upto_region 7 with (first
    | (go_at_call 23; with_reducible refine (B1.out _ (Below.refl _ _)).mono ?_; rintro e3 w3 ⟨v3, rfl, hb3, ho3⟩; obtain ⟨a3, k3, rfl⟩ := row_form ho3; have H3 := Lib.hid (And.intro hb3 ho3); clear hb3 ho3)
    | (go_at_call 23; with_reducible refine (B2.out _ H3.out.1).mono ?_; rintro e4 w4 ⟨v4, rfl, hb4, ho4⟩; obtain ⟨a4, k4, rfl⟩ := row_form ho4; have H4 := Lib.hid (And.intro hb4 ho4); clear hb4 ho4)
    | (go_at_call 15; with_reducible refine (B3.out _ (Below.step H3.out.1 H4.out.1)).mono ?_; rintro e5 w5 ⟨v5, rfl, hb5, ho5⟩; obtain ⟨a5, k5, rfl⟩ := row_form ho5; have H5 := Lib.hid (And.intro hb5 ho5); clear hb5 ho5))
  simp only [decide_eq_false (show ¬ (200 : Int) < (ns : Int) by omega), decide_eq_false (show ¬ (200 : Int) < (nt : Int) by omega), Bool.or_self]
  obtain ⟨nl, hnl⟩ : ∃ nl, l.length = nl := ⟨_, rfl⟩
  have HNL := Lib.hid hnl
  obtain ⟨nX, hnX⟩ : ∃ nX, X.length = nX := ⟨_, rfl⟩
  obtain ⟨nY, hnY⟩ : ∃ nY, Y.length = nY := ⟨_, rfl⟩
  have HNXY := Lib.hid (And.intro hnX hnY)
  rw [hnl, hnX, hnY]
  clear hnX hnY
  have hh5 : Hid (∀ W, Below w5.heap.size w5 W → ∀ (j : Nat) (z : Pr), l[j]? = some z → ∃ b o, a5 = some ⟨b, o, none⟩ ∧ b < W.heap.size ∧ W.cell? ⟨b, o + j * 2, none⟩ = some (.string z.1) ∧ W.cell? ⟨b, o + j * 2 + 1, none⟩ = some (.string z.2)) := by
    intro W hb j z hz
    obtain ⟨a', c', e', h'⟩ := (Holds.of_own H5.out.2).below hb
    cases e'
    exact h' j z hz
  have hnl50 : nl ≤ 50 := by have := HD.out.2.2.2; omega
  have HN50 := Lib.hid hnl50
  clear hnl hnl50
  go_wp2_with fail
  go_loopw [11, 12] (fun vv iv wr => ∃ i : Nat, i ≤ nl ∧ iv = .int .i64 i ∧ (∃ av nv cv, vv = .slice av nv cv) ∧ wr.ownsRow w5.heap.size 34 2 vv ((l.take i).filter (fun z => begB s z.1)).length (flatP ((l.take i).filter (fun z => begB s z.1))) ∧ Below w5.heap.size w5 wr) (fun _ iv _ => nl - (intOf iv).toNat)
  case atStart => exact ⟨0, Nat.zero_le _, rfl, ⟨_, _, _, rfl⟩, ⟨rfl, .inl ⟨rfl, by simp⟩⟩, Below.refl _ _⟩
  case round =>
    obtain ⟨i, hi, rfl, ⟨av, nv, cv, rfl⟩, ho, hb⟩ := hrel
    have hn50 := HN50.out
    by_cases hlt : i < nl
    · have hil : i < l.length := by rw [HNL.out]; exact hlt
      obtain ⟨⟨zk, zv⟩, hz⟩ : ∃ z, l[i]? = some z := ⟨_, List.getElem?_eq_getElem hil⟩
      obtain ⟨blk, off, rfl, hblk, c0, c1⟩ := hh5.out wr hb i _ hz
      dsimp only at c0 c1
      have hzs := CodeP.size (H2.out.2.good.2 _ (List.mem_of_getElem? hz)).1
      dsimp only at hzs
      have htk : l.take (i + 1) = l.take i ++ [(zk, zv)] := by
        rw [List.take_succ_eq_append_getElem hil]
        obtain ⟨_, e⟩ := List.getElem?_eq_some_iff.1 hz
        rw [e]
      have HPB := Lib.hid (pbegins_any zk s wr (by unfold maxLen; omega) HST.out.1)
      obtain ⟨r, hr⟩ : ∃ r, begB s zk = r := ⟨_, rfl⟩
      rw [hr] at HPB
      have hfl : (l.take (i + 1)).filter (fun z => begB s z.1) = (l.take i).filter (fun z => begB s z.1) ++ (if r = true then [(zk, zv)] else []) := by
        rw [htk, List.filter_append]
        congr 1
        rw [List.filter_cons]
        dsimp only
        rw [hr]
        rfl
      have hfn : ((l.take i).filter (fun z => begB s z.1)).length ≤ 50 := by
        have h1 := List.length_filter_le (fun z : Pr => begB s z.1) (l.take i)
        have h2 : (l.take i).length ≤ i := by simp; omega
        omega
      obtain ⟨F, hF⟩ : ∃ F, (l.take i).filter (fun z => begB s z.1) = F := ⟨_, rfl⟩
      rw [hF] at ho hfl hfn
      have HFL := Lib.hid hfl
      have j0 : (0 : Int) ≤ (i : Int) := by omega
      have jl : (i : Int) < (nl : Int) := by omega
      have jd : decide (i < nl) = true := decide_eq_true hlt
      have jw : IntKind.i64.wrap ((i : Int) + 1) = (i : Int) + 1 := by rw [IntKind.wrap_i64]; omega
      have hnv : nv = F.length := by
        obtain ⟨_, _, e⟩ := row_form ho
        cases e
        rfl
      subst hnv
      have HO := Lib.hid (And.intro ho (And.intro hb hfn))
      clear hi ho hb hil hz hzs htk hfl hr hfn hn50 hblk hF
      cases r
      · go_wp2_with (go_at_call 24; refine HPB.out.mono ?_; rintro e6 w6 ⟨rfl, hb6⟩; have H6 := Lib.hid hb6; clear hb6)
        go_roundw
        case rel =>
          refine ⟨i + 1, by omega, by simp, ⟨_, _, _, rfl⟩, ?_, Below.step HO.out.2.1 H6.out⟩
          rw [HFL.out]
          simpa using row_keep HO.out.1 fun k hk => H6.out.block k (HO.out.1.lt k hk).2
        case measure => simp [intOf]; omega
      · go_wp2_with (first
          | (go_at_call 24; refine HPB.out.mono ?_; rintro e6 w6 ⟨rfl, hb6⟩; have c0 := (hb6.cell (cell_lt' c0)).trans c0; have c1 := (hb6.cell (cell_lt' c1)).trans c1; have y3 := row_keep HO.out.1 fun k hk => hb6.block k (HO.out.1.lt k hk).2; have B7 := Below.new (Below.refl w6.heap.size w6) (.cells #[.string zk, .string zv] 34); obtain ⟨v7, W7, r7, o7, g7, _⟩ := app_one (z := (zk, zv)) (row_keep y3 fun k hk => B7.block k (y3.lt k hk).2) (Fresh.new w6 w6.heap.size #[.string zk, .string zv] 34 rfl) (Nat.le_trans (Nat.le_trans HO.out.2.1.size hb6.size) B7.size) (by have := HO.out.2.2; omega); obtain ⟨a7, k7, rfl⟩ := row_form o7; have b7 : Below w5.heap.size w5 W7 := Below.grown2 (Below.step HO.out.2.1 (Below.step hb6 B7)) g7 (fun r hr => (HO.out.1.lt r hr).1); have H7 := Lib.hid (And.intro o7 b7); clear hb6 y3 B7 o7 g7 b7)
          | (at_builtin; refine Lib.wpList_append_run _ rfl _ _ _ _ rfl _ _ rfl rfl _ _ (r7 _) ?_; clear r7))
        go_roundw
        case rel =>
          refine ⟨i + 1, by omega, by simp, ⟨_, _, _, rfl⟩, ?_, H7.out.2⟩
          rw [HFL.out]
          simpa using H7.out.1
        case measure => simp [intOf]; omega
    · obtain rfl : i = nl := by omega
      have hF : (l.take i).filter (fun z => begB s z.1) = X := by
        rw [List.take_of_length_le (by rw [HNL.out]; exact Nat.le_refl _), beg_filter H2.out.2.good.1, HXY.out.1]
      rw [hF] at ho
      have hnv : nv = X.length := by
        obtain ⟨_, _, e⟩ := row_form ho
        cases e
        rfl
      have HNV := Lib.hid hnv
      have jl : ¬ (i : Int) < (i : Int) := by omega
      have hCNT := count_q (H2.out.2.below (Below.step H3.out.1 (Below.step H4.out.1 (Below.step H5.out.1 hb)))) HL1.out ⟨#[]⟩ s
      have hroom := beg_room (l := l) s
      rw [HXY.out.1, HNXY.out.1, HNL.out] at hroom
      obtain ⟨bf, hbf⟩ : ∃ bf, atK s (keys l) = bf := ⟨_, rfl⟩
      rw [hbf] at hroom
      have hk5 : i ≤ k5 := by
        have h1 := (Seg.of_row H5.out.2).form
        obtain ⟨_, _, e, h2, _⟩ := h1
        cases e
        rw [HNL.out] at h2
        exact h2
      have HO := Lib.hid (And.intro ho hb)
      have HK5 := Lib.hid hk5
      have hyx := beg_less (l := l) H2.out.2.good.1 s t
      rw [HXY.out.2.1, HXY.out.2.2, HXY.out.1, HNXY.out.1, HNXY.out.2] at hyx
      have HYX := Lib.hid hyx
      have hcapk : (i : Int) ≤ (k5 : Int) := by omega
      by_cases hs0 : s.size = 0
      · have hse : s = ⟨#[]⟩ := by
          apply bytes_ext
          have : s.data.toList.length = 0 := by rw [length_list]; exact hs0
          rw [List.length_eq_zero_iff.1 this]
        have hb0 : bf = 0 := by rw [← hbf, hse]; exact at_empty l
        have HZ : Hid (Value.int IntKind.i64 0 = Value.int IntKind.i64 (bf : Int)) := by rw [hb0]; rfl
        have hemp : s.toList.isEmpty = true := by rw [hse, ByteArray.toList_eq]; rfl
        have HCNT := Lib.hid hCNT
        have HBA : Hid (atK s (keys l) = bf) := hbf
        have HBF : Hid (bf + nX ≤ i) := hroom
        clear hi ho hb hF hCNT hroom hbf hk5 hyx hs0 hb0 hnv hlt hn50 hse hcapk
        go_upto_region 16 with (go_at_call 17; refine HCNT.out.mono ?_; rintro e6 w6 ⟨rfl, hb6⟩; have H6 := Lib.hid hb6; clear hb6)
        rw [HZ.out]
        have hk5 := HK5.out
        have hroom := HBF.out
        have jw1 : IntKind.i64.wrap ((bf : Int) + (nX : Int)) = (bf : Int) + (nX : Int) := by have := HN50.out; rw [IntKind.wrap_i64]; omega
        have jle : ¬ (i : Int) < (bf : Int) + (nX : Int) := by omega
        have jcap : (bf : Int) + (nX : Int) ≤ (k5 : Int) := by omega
        have jbf : (0 : Int) ≤ (bf : Int) := by omega
        have jbf2 : (bf : Int) ≤ (bf : Int) + (nX : Int) := by omega
        have jyx : ¬ (nX : Int) < (nY : Int) := by have := HYX.out; omega
        clear hroom hk5
        have HX6 : Hid (∀ W, Below w6.heap.size w6 W → Holds W (.slice a3 nX k3) X ∧ Holds W (.slice av nv cv) X ∧ Holds W (.slice (fromAd a5 k5 bf) nX (k5 - bf)) X) := by
          intro W hW
          have b36 : Below w3.heap.size w3 W := Below.step H4.out.1 (Below.step H5.out.1 (Below.step HO.out.2 (Below.step H6.out hW)))
          have g1 := (Holds.of_own H3.out.2).below b36
          rw [HNXY.out.1] at g1
          have g2 := (Holds.of_own HO.out.1).below (Below.step H6.out hW)
          have g3 := (Holds.of_own H5.out.2).below (Below.step HO.out.2 (Below.step H6.out hW))
          rw [HNL.out] at g3
          have hb := HBF.out
          have g4 := g3.part (lo := bf) (k := nX) (c2 := k5 - bf) (by rw [HNL.out]; omega) (by rw [HNL.out]; exact HK5.out)
          have e4 : (l.drop bf).take nX = X := by
            have h1 := beg_pre (l := l) s
            rw [HXY.out.1, HNXY.out.1, HBA.out] at h1
            exact h1.symm
          rw [e4] at g4
          exact ⟨g1, g2, g4⟩
        have hsm : sameP X X = true := by simp [sameP]
        have hxl : Hid (X.length < 1000000) := by have := HNXY.out.1; have := HD.out.2.2.2; have := HYX.out; have := HN50.out; show _ < _; omega
        go_wp2_with (first
          | (go_at_call 14; with_reducible refine (same_any (HX6.out _ (Below.refl _ _)).1 (HX6.out _ (Below.refl _ _)).2.1 hxl.out hxl.out).mono ?_; rw [hsm]; rintro e7 w7 ⟨rfl, hb7⟩; have H7 := Lib.hid hb7; clear hb7)
          | (go_at_call 14; refine (same_any (la := X) (lb := X) (HX6.out _ H7.out).1 (by have h := (HX6.out _ H7.out).2.2; unfold fromAd at h; first | (simpa using h; done) | (rw [if_neg (by assumption)] at h; exact h)) hxl.out hxl.out).mono ?_; rw [hsm]; rintro e8 w8 ⟨rfl, hb8⟩; have H8 := Lib.hid (Below.step H7.out hb8); clear hb8))
        all_goals
          have hhY : Hid (∀ W, Below w8.heap.size w8 W → ∀ (j : Nat) (z : Pr), Y[j]? = some z → ∃ b o, a4 = some ⟨b, o, none⟩ ∧ b < W.heap.size ∧ W.cell? ⟨b, o + j * 2, none⟩ = some (.string z.1) ∧ W.cell? ⟨b, o + j * 2 + 1, none⟩ = some (.string z.2)) := by
            intro W hb j z hz
            obtain ⟨a', c', e', h'⟩ := (Holds.of_own H4.out.2).below (Below.step H5.out.1 (Below.step HO.out.2 (Below.step H6.out (Below.step H8.out hb))))
            cases e'
            exact h' j z hz
          have HFIN := Lib.hid (Below.step H2.out.1 (Below.step H3.out.1 (Below.step H4.out.1 (Below.step H5.out.1 (Below.step HO.out.2 (Below.step H6.out H8.out))))))
          try clear jw1
          try clear jw2
          try clear jle
          try clear jcap
          try clear jyx
          try clear hemp
          try clear jbf
          try clear jbf2
          try clear hsm
          try clear jcat
          try clear hcapk
          try simp only [Int.zero_add]
          go_loopw [14] (fun iv wr => ∃ j : Nat, j ≤ nY ∧ iv = .int .i64 j ∧ Below w8.heap.size w8 wr) (fun iv _ => nY - (intOf iv).toNat)
          case atStart => exact ⟨0, Nat.zero_le _, rfl, Below.refl _ _⟩
          case round =>
            obtain ⟨j, hj, rfl, hb⟩ := hrel
            have hy50 := HYX.out
            have hn50 := HN50.out
            have hbf9 := HBF.out
            by_cases hlt : j < nY
            · have hil : j < Y.length := by rw [HNXY.out.2]; exact hlt
              obtain ⟨⟨zk, zv⟩, hz⟩ : ∃ z, Y[j]? = some z := ⟨_, List.getElem?_eq_getElem hil⟩
              obtain ⟨blk, off, rfl, hblk, c0, c1⟩ := hhY.out wr hb j _ hz
              dsimp only at c0
              have hmem := List.mem_of_getElem? hz
              rw [← HXY.out.2.2, ← beg_filter H2.out.2.good.1] at hmem
              obtain ⟨hm1, hm2⟩ := List.mem_filter.1 hmem
              dsimp only at hm2
              have hzs := CodeP.size (H2.out.2.good.2 _ hm1).1
              dsimp only at hzs
              have HPB := Lib.hid (pbegins_any zk ST wr (by unfold maxLen; omega) HST.out.2.1)
              rw [hm2] at HPB
              have j0 : (0 : Int) ≤ (j : Int) := by omega
              have jl : (j : Int) < (nY : Int) := by omega
              have jd : decide (j < nY) = true := decide_eq_true hlt
              have jw : IntKind.i64.wrap ((j : Int) + 1) = (j : Int) + 1 := by rw [IntKind.wrap_i64]; omega
              have HB := Lib.hid hb
              clear hj hb hil hz hmem hm1 hm2 hzs hy50 hn50 hbf9 hblk c1
              go_wp2_with (go_at_call 24; refine HPB.out.mono ?_; rintro e9 w9 ⟨rfl, hb9⟩; have H9 := Lib.hid hb9; clear hb9)
              go_roundw
              case rel =>
                first
                  | exact ⟨j + 1, by omega, by simp, Below.step HB.out H9.out⟩
                  | exact ⟨_, .int .i64 ((j : Int) + 1), _, _, _, _, _, _, _, _, _, _, _, _, _, _, _, _, ⟨j + 1, by omega, by simp, Below.step HB.out H9.out⟩, rfl⟩
              case measure => simp [intOf]; omega
            · obtain rfl : j = nY := by omega
              have jl : ¬ (j : Int) < (j : Int) := by omega
              have HB := Lib.hid (Below.step HFIN.out hb)
              clear hj hb hy50 hn50 hbf9 hlt
              go_wp2_with fail
              go_ret
              exact ⟨rfl, HB.out⟩
      · have hemp : s.toList.isEmpty = false := by
          rw [Bool.eq_false_iff, ByteArray.toList_eq]
          intro h
          rw [List.isEmpty_iff] at h
          exact hs0 (by rw [← length_list, h]; rfl)
        rw [bet_before H2.out.2.good.1 hs0, hbf] at hCNT
        have HCNT := Lib.hid hCNT
        have HBA : Hid (atK s (keys l) = bf) := hbf
        have HBF : Hid (bf + nX ≤ i) := hroom
        have jw1 : IntKind.i64.wrap ((bf : Int) + (nX : Int)) = (bf : Int) + (nX : Int) := by have := HN50.out; rw [IntKind.wrap_i64]; omega
        have jle : ¬ (i : Int) < (bf : Int) + (nX : Int) := by omega
        have jcap : (bf : Int) + (nX : Int) ≤ (k5 : Int) := by omega
        have jbf : (0 : Int) ≤ (bf : Int) := by omega
        have jbf2 : (bf : Int) ≤ (bf : Int) + (nX : Int) := by omega
        have jyx : ¬ (nX : Int) < (nY : Int) := by have := HYX.out; omega
        clear hi ho hb hF hCNT hroom hbf hk5 hyx hs0 hnv hlt hn50 hcapk
        go_upto_region 16 with (go_at_call 17; refine HCNT.out.mono ?_; rintro e6 w6 ⟨rfl, hb6⟩; have H6 := Lib.hid hb6; clear hb6)
        have HX6 : Hid (∀ W, Below w6.heap.size w6 W → Holds W (.slice a3 nX k3) X ∧ Holds W (.slice av nv cv) X ∧ Holds W (.slice (fromAd a5 k5 bf) nX (k5 - bf)) X) := by
          intro W hW
          have b36 : Below w3.heap.size w3 W := Below.step H4.out.1 (Below.step H5.out.1 (Below.step HO.out.2 (Below.step H6.out hW)))
          have g1 := (Holds.of_own H3.out.2).below b36
          rw [HNXY.out.1] at g1
          have g2 := (Holds.of_own HO.out.1).below (Below.step H6.out hW)
          have g3 := (Holds.of_own H5.out.2).below (Below.step HO.out.2 (Below.step H6.out hW))
          rw [HNL.out] at g3
          have hb := HBF.out
          have g4 := g3.part (lo := bf) (k := nX) (c2 := k5 - bf) (by rw [HNL.out]; omega) (by rw [HNL.out]; exact HK5.out)
          have e4 : (l.drop bf).take nX = X := by
            have h1 := beg_pre (l := l) s
            rw [HXY.out.1, HNXY.out.1, HBA.out] at h1
            exact h1.symm
          rw [e4] at g4
          exact ⟨g1, g2, g4⟩
        have hsm : sameP X X = true := by simp [sameP]
        have hxl : Hid (X.length < 1000000) := by have := HNXY.out.1; have := HD.out.2.2.2; have := HYX.out; have := HN50.out; show _ < _; omega
        go_wp2_with (first
          | (go_at_call 14; with_reducible refine (same_any (HX6.out _ (Below.refl _ _)).1 (HX6.out _ (Below.refl _ _)).2.1 hxl.out hxl.out).mono ?_; rw [hsm]; rintro e7 w7 ⟨rfl, hb7⟩; have H7 := Lib.hid hb7; clear hb7)
          | (go_at_call 14; refine (same_any (la := X) (lb := X) (HX6.out _ H7.out).1 (by have h := (HX6.out _ H7.out).2.2; unfold fromAd at h; first | (simpa using h; done) | (rw [if_neg (by assumption)] at h; exact h)) hxl.out hxl.out).mono ?_; rw [hsm]; rintro e8 w8 ⟨rfl, hb8⟩; have H8 := Lib.hid (Below.step H7.out hb8); clear hb8))
        all_goals
          have hhY : Hid (∀ W, Below w8.heap.size w8 W → ∀ (j : Nat) (z : Pr), Y[j]? = some z → ∃ b o, a4 = some ⟨b, o, none⟩ ∧ b < W.heap.size ∧ W.cell? ⟨b, o + j * 2, none⟩ = some (.string z.1) ∧ W.cell? ⟨b, o + j * 2 + 1, none⟩ = some (.string z.2)) := by
            intro W hb j z hz
            obtain ⟨a', c', e', h'⟩ := (Holds.of_own H4.out.2).below (Below.step H5.out.1 (Below.step HO.out.2 (Below.step H6.out (Below.step H8.out hb))))
            cases e'
            exact h' j z hz
          have HFIN := Lib.hid (Below.step H2.out.1 (Below.step H3.out.1 (Below.step H4.out.1 (Below.step H5.out.1 (Below.step HO.out.2 (Below.step H6.out H8.out))))))
          try clear jw1
          try clear jw2
          try clear jle
          try clear jcap
          try clear jyx
          try clear hemp
          try clear jbf
          try clear jbf2
          try clear hsm
          try clear jcat
          try clear hcapk
          try simp only [Int.zero_add]
          go_loopw [14] (fun iv wr => ∃ j : Nat, j ≤ nY ∧ iv = .int .i64 j ∧ Below w8.heap.size w8 wr) (fun iv _ => nY - (intOf iv).toNat)
          case atStart => exact ⟨0, Nat.zero_le _, rfl, Below.refl _ _⟩
          case round =>
            obtain ⟨j, hj, rfl, hb⟩ := hrel
            have hy50 := HYX.out
            have hn50 := HN50.out
            have hbf9 := HBF.out
            by_cases hlt : j < nY
            · have hil : j < Y.length := by rw [HNXY.out.2]; exact hlt
              obtain ⟨⟨zk, zv⟩, hz⟩ : ∃ z, Y[j]? = some z := ⟨_, List.getElem?_eq_getElem hil⟩
              obtain ⟨blk, off, rfl, hblk, c0, c1⟩ := hhY.out wr hb j _ hz
              dsimp only at c0
              have hmem := List.mem_of_getElem? hz
              rw [← HXY.out.2.2, ← beg_filter H2.out.2.good.1] at hmem
              obtain ⟨hm1, hm2⟩ := List.mem_filter.1 hmem
              dsimp only at hm2
              have hzs := CodeP.size (H2.out.2.good.2 _ hm1).1
              dsimp only at hzs
              have HPB := Lib.hid (pbegins_any zk ST wr (by unfold maxLen; omega) HST.out.2.1)
              rw [hm2] at HPB
              have j0 : (0 : Int) ≤ (j : Int) := by omega
              have jl : (j : Int) < (nY : Int) := by omega
              have jd : decide (j < nY) = true := decide_eq_true hlt
              have jw : IntKind.i64.wrap ((j : Int) + 1) = (j : Int) + 1 := by rw [IntKind.wrap_i64]; omega
              have HB := Lib.hid hb
              clear hj hb hil hz hmem hm1 hm2 hzs hy50 hn50 hbf9 hblk c1
              go_wp2_with (go_at_call 24; refine HPB.out.mono ?_; rintro e9 w9 ⟨rfl, hb9⟩; have H9 := Lib.hid hb9; clear hb9)
              go_roundw
              case rel =>
                first
                  | exact ⟨j + 1, by omega, by simp, Below.step HB.out H9.out⟩
                  | exact ⟨_, .int .i64 ((j : Int) + 1), _, _, _, _, _, _, _, _, _, _, _, _, _, _, _, _, ⟨j + 1, by omega, by simp, Below.step HB.out H9.out⟩, rfl⟩
              case measure => simp [intOf]; omega
            · obtain rfl : j = nY := by omega
              have jl : ¬ (j : Int) < (j : Int) := by omega
              have HB := Lib.hid (Below.step HFIN.out hb)
              clear hj hb hy50 hn50 hbf9 hlt
              go_wp2_with fail
              go_ret
              exact ⟨rfl, HB.out⟩
theorem beg_walk (ao : Option Addr) (len cap : Nat) (s t : ByteArray) (w : World) {P1 P2 : Prop} (hd : IsDeeds w ao len) (_ : P1) (_ : P2) :
    Calls Try.prog 6 #[.slice ao len cap, .string s, .string t] w fun e w' => e = .returned (.bool true) ∧ Below w.heap.size w w' := by
  obtain ⟨ds, hD⟩ := hd.has
  by_cases h1 : s.size ≤ 200
  · by_cases h2 : t.size ≤ 200
    · exact beg_in ao len cap hd.1 s t w ds hD h1 h2
    · exact beg_out ao len cap s t w (.inr (by omega))
  · exact beg_out ao len cap s t w (.inl (by omega))
end Go.Proofs.Ytfffifmpfkkgbaa
