/- ManyNext. -/
import Derived.Test.YtiifogbdoajnoaaRowMany
import Derived.Shelf.Abstract
namespace Go.Proofs.Ytiifogbdoajnoaa
open Go.RowKit Go.Shelf
attribute [local go_sem] Oper.semAt_some
set_option maxRecDepth 100000
set_option maxHeartbeats 4000000

theorem ManyAt.apart_def {W : World} {p q e : Nat} {l : List En} {room : Nat} (h : ManyAt W p q e l room) {D : Nat} {x : Option (List Deferred)} (hf : W.heap[D]? = some (.deferred x)) : D ≠ q ∧ D ≠ e := by
  obtain ⟨es, cs, v, hr, _, hl⟩ := h.row
  have hb := hr.box
  unfold Fresh at hb
  have n1 : D ≠ q := by rintro rfl; rw [hf] at hb; cases hb
  refine ⟨n1, ?_⟩
  rcases hr.ty with h3 | ⟨cur, h3⟩
  · rw [h3]; exact n1
  · rintro rfl; rw [hf] at h3; cases h3
structure MidN (w W : World) (p q e K : Nat) (L : List En) : Prop where
  many : ManyAt W p q e L 256
  r0 : Fresh W w.heap.size #[.bool false] 4
  kk : Fresh W K #[.pointer (some ⟨p, 0, none⟩)] 24
  low : Below w.heap.size w W
  hq : w.heap.size ≤ q
  he : w.heap.size ≤ e
theorem MidN.below {w W W' : World} {p q e K : Nat} {L : List En} (h : MidN w W p q e K L) (hb : Below W.heap.size W W') : MidN w W' p q e K L :=
  ⟨h.many.below hb, h.r0.below hb, h.kk.below hb, Below.step h.low hb, h.hq, h.he⟩
theorem MidN.kept {w W W' : World} {row : Option Nat} {p q e K : Nat} {L : List En} (h : MidN w W p q e K L) (hg : W.grownBy W' row) (hr : ∀ r, row = some r → w.heap.size ≤ r ∧ ∃ o : Obj, W.heap[r]? = some o ∧ o.isCells = false) : MidN w W' p q e K L :=
  ⟨h.many.kept hg (fun r e => (hr r e).2), h.r0.kept hg (fun r e => (hr r e).2), h.kk.kept hg (fun r e => (hr r e).2), h.low.grown hg h.low.size (fun r e => (hr r e).1), h.hq, h.he⟩
theorem MidN.turned {S : List Nat} {w W W' : World} {p q e K : Nat} {L : List En} (h : MidN w W p q e K L) (ht : Turned S W W') (hS : ∀ k ∈ S, w.heap.size ≤ k) (hp : p ∉ S) (hq : q ∉ S) (he : e ∉ S) (h0 : w.heap.size ∉ S) (hK : K ∉ S) : MidN w W' p q e K L :=
  ⟨h.many.turned ht hp hq he, ht.other h.r0 h0, ht.other h.kk hK, ht.below h.low hS h.low.size, h.hq, h.he⟩
theorem MidN.moved {w W W' : World} {p q e K : Nat} {L L' : List En} (h : MidN w W p q e K L) (ht : Turned [q, e] W W') (hf : ManyAt W' p q e L' 256) : MidN w W' p q e K L' :=
  ⟨hf, ht.other h.r0 (by have := h.many.apart h.r0 (by decide) (by decide); simp; exact this), ht.other h.kk (by have := h.many.apart h.kk (by decide) (by decide); simp; exact this), ht.below h.low (by have := h.hq; have := h.he; simp; omega) h.low.size, h.hq, h.he⟩
theorem manyNext_any (w : World) {ao : Option Addr} {len cap : Nat} {l : List UInt8} (hb : Bytes w ao l) (hlen : l.length = len) (hmax : len ≤ maxLen) (b : UInt8) :
    Calls Try.prog 6 #[.slice ao len cap, .int .u8 (b.toNat : Int)] w fun e w' => e = .returned (.bool true) ∧ Below w.heap.size w w' := by
  unfold maxLen at hmax
  refine (callsIn_wide (n := 10)).1 ?_
  refine callsIn_of_wp_marks Try.func6 rfl trivial ?_ rfl
  simp only [Try.ntmps6, List.size_toArray, List.length_cons, List.length_nil, Nat.reduceAdd, Nat.reduceSub, Array.replicate_succ, Array.replicate_zero, List.push_toArray, List.append_toArray, List.nil_append, List.cons_append]
  refine wpIn_wide.2 ?_
  refine wp_mono (Q := calmQ _) ?_ calmQ_out
  have HBy := Lib.hid hb
  have HLen := Lib.hid hlen
  clear hb hlen
  by_cases h16 : 300 < len
  · have k1 : (300 : Int) < (len : Int) := by omega
    clear h16 hmax
    go_wp2_with (go_at_call 7; refine (awake_any _).mono ?_; rintro e' w1 ⟨rfl, hb1⟩; have r0 := ((Fresh.new w w.heap.size #[.bool false] 4 rfl).below hb1).cell 0; have f0 := ((Fresh.new w w.heap.size #[.bool false] 4 rfl).below hb1).thawed 0; simp only [List.getElem?_toArray, List.getElem?_cons_zero, List.getElem?_cons_succ] at r0)
    refine calm_ret (v := .bool true) rfl ?_ ⟨rfl, (Below.step (Below.new (Below.refl _ _) _) hb1).setCell (Nat.le_refl _) _⟩
    rw [results_cell1 rfl]
    go_simp
  have k1 : (len : Int) ≤ 300 := by omega
  have H16 : Hid (len ≤ 300) := by show _ ≤ _; omega
  clear h16 hmax
  have HR : Hid (∃ bd : Int, ∀ W, Below w.heap.size w W → Calls Try.prog 21 #[.slice ao len cap] W fun e w' => ∃ p q e2, e = .returned (.tuple #[.pointer (some ⟨p, 0, none⟩), .int .i64 bd]) ∧ On W w' p q e2 (rowOf l) 256 ∧ W.heap.size ≤ p) :=
    Lib.hid ⟨_, fun W hW => row_any (cap := cap) (HBy.out.low hW) HLen.out H16.out⟩
  obtain ⟨bd, hR⟩ := HR.out
  have HR := Lib.hid hR
  clear hR
  go_upto_region 5 with (go_at_call 7; refine (awake_any _).mono ?_; rintro e' w1 ⟨rfl, hb1⟩)
  have B1 : Below w.heap.size w w1 := Below.step (Below.new (Below.refl _ _) _) hb1
  have f1 : Fresh w1 w.heap.size #[.bool false] 4 := (Fresh.new w w.heap.size #[.bool false] 4 rfl).below hb1
  have HB1 := Lib.hid (And.intro B1 f1)
  clear B1 f1 hb1
  go_upto_region 9 with (go_at_call 21; refine (HR.out _ HB1.out.1).mono ?_; rintro e' w2 ⟨p, q, e, rfl, hO2, hp2⟩)
  have hb2 := hO2.low
  have hf2 := hO2.many
  have hq2 := hO2.hq
  have he2 := hO2.he
  obtain ⟨W3, hW3⟩ : ∃ W3, W3 = (w2.alloc (.cells #[.pointer (some ⟨p, 0, none⟩)] 24)).alloc (.cells #[.int .i64 0] 3) := ⟨_, rfl⟩
  rw [← hW3]
  have s3 : W3.heap.size = w2.heap.size + 2 := by rw [hW3]; simp
  have F3 : Fresh W3 (w2.heap.size + 1) #[.int .i64 0] 3 := by rw [hW3]; exact Fresh.new _ _ _ _ (by simp)
  have M3 : MidN w W3 p q e w2.heap.size (rowOf l) := by
    have low : Below w2.heap.size w2 W3 := by rw [hW3]; exact Below.new (Below.new (Below.refl _ _) _) _
    have hsz := HB1.out.1.size
    refine ⟨hf2.below low, (HB1.out.2.below hb2).below low, ?_, Below.step (Below.step HB1.out.1 hb2) low, by omega, by omega⟩
    rw [hW3]; exact (Fresh.new _ _ _ _ rfl).alloc _
  have hsz := HB1.out.1.size
  have hsz2 := hb2.size
  have hqp := hf2.lt
  have h1lt := HB1.out.2.lt
  have SZ : Hid (W3.heap.size = w2.heap.size + 2 ∧ q < w2.heap.size ∧ p < w2.heap.size ∧ w.heap.size < q ∧ w.heap.size < p ∧ e < w2.heap.size ∧ w.heap.size < e) := by show _ ∧ _; omega
  have k0 := M3.kk.cell 0
  simp only [List.getElem?_toArray, List.getElem?_cons_zero] at k0
  have HM3 := Lib.hid (And.intro M3 F3)
  have HSrt := Lib.hid (rowOf_srt l)
  have HIn := Lib.hid (fun x => rowOf_in l x)
  have HBL := Lib.hid (fun W (hW : Below w.heap.size w W) => HBy.out.low hW)
  obtain ⟨L, hL⟩ : ∃ L, rowOf l = L := ⟨_, rfl⟩
  rw [hL] at HM3 HSrt HIn
  obtain ⟨K, hK⟩ : ∃ K, w2.heap.size = K := ⟨_, rfl⟩
  rw [hK] at SZ HM3 k0 ⊢
  clear hW3 s3 F3 M3 hO2 he2 hb2 hf2 hq2 hp2 hsz hsz2 hqp h1lt hL hK HB1 HR
  go_wp2_with (go_at_call 13; refine (allv_any _ _).mono ?_; rintro e WL ⟨rfl, hWL⟩; have HWL := Lib.hid hWL; clear hWL)
  have szL : WL.heap.size = W3.heap.size + 1 := by rw [HWL.out]; simp
  have BL : Below W3.heap.size W3 WL := by rw [HWL.out]; exact Below.new (Below.refl _ _) _
  have fa : Fresh WL W3.heap.size #[.pointer (some ⟨p, 0, none⟩)] 24 := by rw [HWL.out]; exact Fresh.new _ _ _ _ rfl
  have ML : MidN w WL p q e K L := HM3.out.1.below BL
  have FL : Fresh WL (K + 1) #[.int .i64 0] 3 := HM3.out.2.below BL
  have sz := SZ.out
  obtain ⟨S, hS⟩ : ∃ S, S = [K + 1, WL.heap.size + 1] := ⟨_, rfl⟩
  have nS : ∀ k, k ≠ K + 1 → k ≠ WL.heap.size + 1 → k ∉ S := fun k h1 h2 h3 => by rw [hS] at h3; simp at h3; omega
  have lS : ∀ k ∈ S, w.heap.size ≤ k := fun k h => by rw [hS] at h; simp at h; omega
  have HNS := Lib.hid (And.intro nS lS)
  refine (wpIn_wide (n := 10)).1 ?_
  refine range_box rfl (by omega) (gf := 32) (lb := #[.pointer (some ⟨W3.heap.size, 0, none⟩)]) rfl trivial (enters_of Try.func32 (by kernel_rfl) rfl)
    (all_own kTurned 9 (by omega) W3.heap.size S L 256 WL p q e ML.many ((fa.cell 0).trans rfl) (fun k h => by rw [hS] at h; simp at h; omega))
    (fun h k => h.trans k) (fun Wc o _ => Turned.put (by rw [hS]; simp) o) (Below.refl _ _) (fun _ => rfl)
    (fun pre Wc => ∃ k, k ≤ L.length ∧ pre = L.take k ∧ MidN w Wc p q e K L ∧ Fresh Wc (K + 1) #[.int .i64 (fromAt L k)] 3)
    (fun _ _ _ => False)
    (fun pre X Y row ⟨k, h1, h2, h3, h4⟩ hg hr => ⟨k, h1, h2, h3.kept hg (fun r e => ⟨by have := (hr r e).1; omega, (hr r e).2⟩), h4.kept hg (fun r e => (hr r e).2)⟩)
    (fun _ _ _ _ _ h _ _ => h)
    ⟨0, Nat.zero_le _, rfl, ML, FL⟩
    (fun x a' Wc => ∃ bx, a' = { tmps := #[.slice ao len cap, .int .u8 (b.toNat : Int), undef, undef, .pointer (some ⟨w.heap.size, 0, none⟩), .pointer (some ⟨K, 0, none⟩), .int .i64 bd, .pointer (some ⟨K + 1, 0, none⟩), .int .u8 (x.1.toNat : Int), .pointer (some ⟨bx, 0, none⟩), undef, undef, undef, undef, undef, undef, undef, undef, undef, undef, undef, undef, undef, undef, undef, .bool true, .bool false, .slice ao len cap, .int .i64 (len : Int), .bool (decide (300 < (len : Int))), .tuple #[.pointer (some ⟨p, 0, none⟩), .int .i64 bd], .slice ao len cap, .tuple #[.pointer (some ⟨p, 0, none⟩), .int .i64 bd], .pointer (some ⟨p, 0, none⟩), .int .i64 bd, .pointer (some ⟨p, 0, none⟩), .bool false, .pointer (some ⟨p, 0, none⟩), .func (.func 32) #[] #[.pointer (some ⟨W3.heap.size, 0, none⟩)], .int .u8 (x.1.toNat : Int), refV x.2.1 x.2.2, undef, undef, undef, undef, undef, undef, undef, undef, undef, undef, undef, undef, undef, undef, undef, undef, undef, undef, undef, undef, undef, undef, undef, undef, undef, undef, undef, undef, undef, undef, undef, undef, undef, undef, undef, undef, undef, undef, undef, undef, undef, undef, undef, undef, undef, undef, undef, undef, undef, undef, undef, undef, undef, undef, undef, undef, undef, undef, undef, undef, undef, undef, undef, undef, undef, undef, undef, undef, undef, undef, undef, undef, undef, undef, undef, undef, undef, undef, undef, undef, undef, undef, undef, undef, undef, undef, undef, undef, undef, undef, undef, undef, undef, undef, undef, undef, undef, undef, undef, undef], defers := [] } ∧ Fresh Wc bx #[.int .i64 x.2.1, .int .u32 x.2.2] 35)
    (fun x a' _ X Y row ⟨bx, h1, h2⟩ hg hr => ⟨bx, h1, h2.kept hg (fun r e => (hr r e).2)⟩)
    ?assignment ?round ?done ?stop
  case assignment =>
    rintro l' pre x Wc K' hG ⟨k, hk, hpre, hM, hF⟩ hK
    have low : Below Wc.heap.size Wc (Wc.alloc (.cells #[.int .i64 x.2.1, .int .u32 x.2.2] 35)) := Below.new (Below.refl _ _) _
    have HK := Lib.hid (hK _ (Wc.alloc (.cells #[.int .i64 x.2.1, .int .u32 x.2.2] 35)) ((KeepsOthers.alloc _ _).from _) ((Turned.refl _ Wc).alloc _) ⟨k, hk, hpre, hM.below low, hF.below low⟩ ⟨Wc.heap.size, rfl, Fresh.new _ _ _ _ rfl⟩)
    clear hK hM hF hG low
    clear szL sz BL fa ML FL
    unfold enV
    gi_wp2
    exact HK.out
  case round =>
    rintro l' pre x a' W5 hG ⟨k, hk, hpre, hM, hF⟩ ⟨bx, rfl, hbx⟩ hz
    obtain ⟨j, hj, hjx⟩ := hG
    obtain ⟨h4, h5⟩ := List.append_inj' hjx rfl
    obtain rfl : k = j := by
      have := congrArg List.length (hpre.symm.trans h4)
      rw [List.length_take, List.length_take] at this
      omega
    have hx : x = L[k] := by simpa using h5
    have hnx : pre ++ [x] = L.take (k + 1) := by rw [hjx]; exact (List.take_succ_eq_append_getElem hj).symm
    have hV := nextV_some HSrt.out k hj
    have hle := fromAt_le HSrt.out k hj
    have hf1 : fromAt L (k + 1) = (x.1.toNat : Int) + 1 := by rw [fromAt, List.getElem?_eq_getElem hj, hx]
    rw [← hx] at hV hle
    obtain ⟨c, s, g⟩ := x
    dsimp only at hV hle hf1 hbx ⊢
    have d0 := hM.kk.cell 0
    have d1 := hF.cell 0
    have d2 := hbx.cell 0
    have d3 := hbx.cell 1
    have d4 := hF.thawed 0
    simp only [List.getElem?_toArray, List.getElem?_cons_zero, List.getElem?_cons_succ] at d0 d1 d2 d3
    obtain ⟨f, hff⟩ : ∃ f, fromAt L k = f := ⟨_, rfl⟩
    rw [hff] at hV hle d1 hF
    have HN : Hid (Calls Try.prog 16 #[.pointer (some ⟨p, 0, none⟩), .int .i64 f] W5 fun e' w' => e' = .returned (.tuple #[.int .u8 (c.toNat : Int), .agg #[.int .i64 s, .int .u32 g], .bool true]) ∧ Below W5.heap.size W5 w') := Lib.hid (by
      have := next_any hM.many f
      rw [hV] at this
      exact this)
    have HM := Lib.hid (And.intro hM (And.intro hF hbx))
    have HX := Lib.hid (And.intro hj (And.intro hnx hf1))
    have hl0 := hM.kk.lt
    have hl1 := hF.lt
    have hl2 := hbx.lt
    have cw := wrap_byte c
    have c0 : (0 : Int) ≤ (c.toNat : Int) := by omega
    have c1 : (c.toNat : Int) ≤ 255 := by have := c.toNat_lt; omega
    clear hM hF hbx hj hjx h4 h5 hx hnx hV hf1 hff hpre hk
    clear szL sz BL fa ML FL
    gi_wp2_with (refine ⟨trivial, ?_⟩; gi_at_call 16; with_reducible refine (callsIn_round HN.out).mono ?_; rintro e' w6 ⟨rfl, hb6⟩; have hb7 : Below W5.heap.size W5 (w6.alloc (.cells #[.int .i64 s, .int .u32 g] 35)) := Below.new hb6 _; have e0 := (HM.out.2.2.below hb7).cell 0; have e1 := (HM.out.2.2.below hb7).cell 1; have e2 := (HM.out.2.1.below hb7).cell 0; have e3 := (HM.out.2.1.below hb7).thawed 0; simp only [List.getElem?_toArray, List.getElem?_cons_zero, List.getElem?_cons_succ] at e0 e1 e2; have HB7 := Lib.hid hb7; clear hb7 hb6)
    have sz := SZ.out
    have szL : WL.heap.size = W3.heap.size + 1 := by rw [HWL.out]; simp
    have T1 : Turned [K + 1] W5 ((w6.alloc (.cells #[.int .i64 s, .int .u32 g] 35)).setCell ⟨K + 1, 0, none⟩ (.int .i64 ((c.toNat : Int) + 1))) := (Turned.of_below HB7.out).setCell (.inl (by simp)) _ _
    refine ⟨KeepsFrom.of_turned T1 (by intro k hk; simp at hk; omega), T1.wide (by intro k hk; simp at hk; subst hk; rw [hS]; simp), k + 1, HX.out.1, HX.out.2.1, HM.out.1.turned T1 (by intro k hk; simp at hk; omega) (by simp; omega) (by simp; omega) (by simp; omega) (by simp; omega) (by simp), ?_⟩
    rw [HX.out.2.2]
    exact (HM.out.2.1.below HB7.out).set 0 _
  case done =>
    rintro D xs W5 hD hxs ⟨k, hk, hpre, hM, hF⟩ hK
    obtain rfl : k = L.length := by
      have := congrArg List.length (hpre.symm.trans hxs)
      rw [List.length_take] at this
      omega
    have hV := nextV_none HSrt.out
    obtain ⟨f, hff⟩ : ∃ f, fromAt L L.length = f := ⟨_, rfl⟩
    rw [hff] at hV hF
    have d0 := hM.kk.cell 0
    have d1 := hF.cell 0
    simp only [List.getElem?_toArray, List.getElem?_cons_zero, List.getElem?_cons_succ] at d0 d1
    have HN : Hid (Calls Try.prog 16 #[.pointer (some ⟨p, 0, none⟩), .int .i64 f] W5 fun e' w' => e' = .returned (.tuple #[.int .u8 0, .agg #[.int .i64 0, .int .u32 0], .bool false]) ∧ Below W5.heap.size W5 w') := Lib.hid (by
      have := next_any hM.many f
      rw [hV] at this
      exact this)
    have HM := Lib.hid hM
    have HK := Lib.hid hK
    have HD := Lib.hid hD
    clear hM hF hV hff hk hpre hK hD szL sz BL fa ML FL
    go_wp2_with (go_at_call 16; refine HN.out.mono ?_; rintro e' w6 ⟨rfl, hb6⟩)
    obtain ⟨W6, hW6⟩ : ∃ W6, W6 = w6.alloc (.cells #[.int .i64 0, .int .u32 0] 35) := ⟨_, rfl⟩
    rw [← hW6]
    have hb7 : Below W5.heap.size W5 W6 := by rw [hW6]; exact Below.new hb6 _
    have HM6 := Lib.hid (HM.out.below hb7)
    have HK6 : Hid (W6.heap[D]? = some (.deferred (some []))) := by
      have hlt : D < W5.heap.size := (Array.getElem?_eq_some_iff.1 HK.out).1
      exact (hb7.block D hlt).trans HK.out
    clear hW6 hb6 hb7 HM HK d0 d1 HN
    go_loopw [16, 17] (fun wz i wr => ∃ j : Nat, j ≤ len ∧ i = .int .i64 j ∧ wz = .bool (decide (b ∈ l.take j)) ∧ wr = W6) (fun _ i _ => len - (intOf i).toNat)
    case atStart => exact ⟨0, Nat.zero_le _, rfl, by simp, rfl⟩
    case round =>
      obtain ⟨j, hj, rfl, rfl, hwr⟩ := hrel
      subst hwr
      obtain ⟨u, hu⟩ : ∃ u, decide (b ∈ l.take j) = u := ⟨_, rfl⟩
      rw [hu]
      by_cases hlt : j < len
      · have jl : (j : Int) < (len : Int) := by omega
        have j0 : (0 : Int) ≤ (j : Int) := by omega
        have jb : (j : Int) ≤ 300 := by omega
        have jd : decide (j < len) = true := decide_eq_true hlt
        have hjl : j < l.length := by rw [HLen.out]; exact hlt
        obtain ⟨g, o, hao, hc, hg⟩ := (HBL.out _ HM6.out.low).at' j hjl
        obtain ⟨c, hcc⟩ : ∃ c, l[j] = c := ⟨_, rfl⟩
        have hnx : decide (b ∈ l.take (j + 1)) = (u || ((c.toNat : Int) == (b.toNat : Int))) := by
          rw [List.take_succ_eq_append_getElem hjl, hcc, ← hu, Bool.eq_iff_iff]
          simp only [List.mem_append, List.mem_singleton, decide_eq_true_eq, Bool.or_eq_true, beq_iff_eq]
          constructor
          · rintro (h | h)
            · exact .inl h
            · exact .inr (by rw [h])
          · rintro (h | h)
            · exact .inl h
            · exact .inr (UInt8.toNat_inj.1 (Int.ofNat_inj.1 h)).symm
        rw [hcc] at hc
        have HNX := Lib.hid hnx
        subst hao
        clear hu hnx hcc
        cases u
        · go_wp2
          go_roundw
          case rel => exact ⟨j + 1, by omega, by go_num, by rw [HNX.out]; simp, trivial⟩
          case measure => simp [intOf] <;> omega
        · go_wp2
          go_roundw
          case rel => exact ⟨j + 1, by omega, by go_num, by rw [HNX.out]; simp, trivial⟩
          case measure => simp [intOf] <;> omega
      · obtain rfl : j = len := by omega
        have hul : u = isIn b L := by
          rw [← hu, List.take_of_length_le (by rw [HLen.out]; exact Nat.le_refl _), Bool.eq_iff_iff, decide_eq_true_eq]
          exact (HIn.out b).symm
        subst hul
        clear hu
        obtain ⟨s, g, hsg⟩ := refOf_agg b L
        have hE1 : refOf b (takeS b L) = .agg #[.int .i64 0, .int .u32 0] := by rw [refOf, take_not HSrt.out, if_neg (by simp)]
        have sz := SZ.out
        have hw := HM6.out.many.lt
        have hK6 := HM6.out.kk.lt
        have HFd : Hid (∀ W, MidN w W p q e K L → Calls Try.prog 15 #[.pointer (some ⟨p, 0, none⟩), .int .u8 (b.toNat : Int)] W fun e' w' => e' = .returned (.tuple #[.agg #[.int .i64 s, .int .u32 g], .bool (isIn b L)]) ∧ Below W.heap.size W w') := Lib.hid fun W h => by
          have := finds_any h.many b
          rw [hsg] at this
          exact this
        have HTk : Hid (∀ W, MidN w W p q e K L → Calls Try.prog 14 #[.pointer (some ⟨p, 0, none⟩), .int .u8 (b.toNat : Int)] W fun e' w' => e' = .returned (.tuple #[.agg #[.int .i64 s, .int .u32 g], .int .i64 (if isIn b L = true then 0 else 5)]) ∧ Turned [q, e] W w' ∧ MidN w w' p q e K (takeS b L)) := Lib.hid fun W h => by
          have := take_any h.many b
          rw [hsg] at this
          refine this.mono ?_
          rintro e' w' ⟨rfl, ht, hf⟩
          exact ⟨rfl, ht, h.moved ht hf⟩
        have HFe : Hid (∀ W, MidN w W p q e K (takeS b L) → Calls Try.prog 15 #[.pointer (some ⟨p, 0, none⟩), .int .u8 (b.toNat : Int)] W fun e' w' => e' = .returned (.tuple #[.agg #[.int .i64 0, .int .u32 0], .bool false]) ∧ Below W.heap.size W w') := Lib.hid fun W h => by
          have := finds_any h.many b
          rw [hE1, take_not HSrt.out] at this
          exact this
        have hLen := take_len b L
        obtain ⟨n1, hn1⟩ : ∃ n1, (takeS b L).length = n1 := ⟨_, rfl⟩
        obtain ⟨n0, hn0⟩ : ∃ n0, L.length = n0 := ⟨_, rfl⟩
        have HLn : Hid (∀ W, MidN w W p q e K L → Calls Try.prog 18 #[.pointer (some ⟨p, 0, none⟩)] W fun e' w' => e' = .returned (.int .i64 (n0 : Int)) ∧ w' = W) := Lib.hid fun W h => by rw [← hn0]; exact len_any h.many
        have HLm : Hid (∀ W, MidN w W p q e K (takeS b L) → Calls Try.prog 18 #[.pointer (some ⟨p, 0, none⟩)] W fun e' w' => e' = .returned (.int .i64 (n1 : Int)) ∧ w' = W) := Lib.hid fun W h => by rw [← hn1]; exact len_any h.many
        obtain ⟨L', hL'⟩ : ∃ L', takeS b L = L' := ⟨_, rfl⟩
        rw [hL'] at HTk HFe HLm
        obtain ⟨u, hu⟩ : ∃ u, isIn b L = u := ⟨_, rfl⟩
        have hq : u = true → 0 < n0 := fun h => by rw [← hn0]; have := isIn_lt (hu.trans h); omega
        rw [hn1, hn0, hu] at hLen
        rw [hu] at HFd HTk ⊢
        have HQ := Lib.hid (And.intro sz (And.intro hw hK6))
        clear hsg hE1 hL' hn1 hn0 hu sz hw hK6 hlt hj
        have d0 := HM6.out.kk.cell 0
        simp only [List.getElem?_toArray, List.getElem?_cons_zero, List.getElem?_cons_succ] at d0
        go_upto_region 23 with (go_at_call 15; refine (HFd.out _ HM6.out).mono ?_; rintro e' w7 ⟨rfl, hb7⟩)
        obtain ⟨W7, hW7⟩ : ∃ W7, W7 = w7.alloc (.cells #[.int .i64 s, .int .u32 g] 35) := ⟨_, rfl⟩
        rw [← hW7]
        obtain ⟨B18, hB18⟩ : ∃ B, w7.heap.size = B := ⟨_, rfl⟩
        rw [hB18]
        have bb : Below wr.heap.size wr W7 := by rw [hW7]; exact Below.new hb7 _
        have M7 := HM6.out.below bb
        have X18 : Fresh W7 B18 #[.int .i64 s, .int .u32 g] 35 := by rw [hW7]; exact Fresh.new _ _ _ _ hB18
        have hs7 := hb7.size
        have K7 : W7.heap[D]? = some (.deferred (some [])) := (bb.block D (Array.getElem?_eq_some_iff.1 HK6.out).1).trans HK6.out
        have H7 := Lib.hid (And.intro M7 (And.intro X18 (And.intro K7 (show (B18 ≠ q ∧ B18 ≠ e) ∧ (D ≠ q ∧ D ≠ e) from ⟨M7.many.apart X18 (by decide) (by decide), M7.many.apart_def K7⟩))))
        have d7 := M7.kk.cell 0
        simp only [List.getElem?_toArray, List.getElem?_cons_zero, List.getElem?_cons_succ] at d7
        clear hW7 hB18 bb M7 X18 hs7 hb7 K7 d0
        go_upto_region 25 with (first
          | (go_at_call 18; refine (HLn.out _ H7.out.1).mono ?_; rintro e' w8 ⟨rfl, hw8⟩; replace hw8 := hw8.symm; subst hw8)
          | (go_at_call 14; refine (HTk.out _ H7.out.1).mono ?_; rintro e' w8 ⟨rfl, ht8, hm8⟩))
        obtain ⟨W8, hW8⟩ : ∃ W8, W8 = w8.alloc (.cells #[.int .i64 s, .int .u32 g] 35) := ⟨_, rfl⟩
        rw [← hW8]
        obtain ⟨B21, hB21⟩ : ∃ B, w8.heap.size = B := ⟨_, rfl⟩
        rw [hB21]
        have bb : Below w8.heap.size w8 W8 := by rw [hW8]; exact Below.new (Below.refl _ _) _
        have M8 := hm8.below bb
        have X18 : Fresh W8 B18 #[.int .i64 s, .int .u32 g] 35 := (ht8.other H7.out.2.1 (by simp; exact H7.out.2.2.2.1)).below bb
        have X21 : Fresh W8 B21 #[.int .i64 s, .int .u32 g] 35 := by rw [hW8]; exact Fresh.new _ _ _ _ hB21
        have K8 : W8.heap[D]? = some (.deferred (some [])) := by
          have h0 := H7.out.2.2.1
          have h1 := (ht8.block D (Array.getElem?_eq_some_iff.1 h0).1 (by simp; exact H7.out.2.2.2.2)).trans h0
          exact (bb.block D (Array.getElem?_eq_some_iff.1 h1).1).trans h1
        have H8 := Lib.hid (And.intro M8 (And.intro X18 (And.intro X21 K8)))
        have d8 := M8.kk.cell 0
        simp only [List.getElem?_toArray, List.getElem?_cons_zero, List.getElem?_cons_succ] at d8
        clear hW8 hB21 bb M8 X18 X21 K8 ht8 hm8 d7
        go_upto_region 26 with (go_at_call 15; refine (HFe.out _ H8.out.1).mono ?_; rintro e' w9 ⟨rfl, hb9⟩)
        obtain ⟨W9, hW9⟩ : ∃ W9, W9 = w9.alloc (.cells #[.int .i64 0, .int .u32 0] 35) := ⟨_, rfl⟩
        rw [← hW9]
        have bb : Below W8.heap.size W8 W9 := by rw [hW9]; exact Below.new hb9 _
        have M9 := H8.out.1.below bb
        have K9 : W9.heap[D]? = some (.deferred (some [])) := (bb.block D (Array.getElem?_eq_some_iff.1 H8.out.2.2.2).1).trans H8.out.2.2.2
        have a0 := (H8.out.2.1.below bb).cell 0
        have a1 := (H8.out.2.1.below bb).cell 1
        have c0 := (H8.out.2.2.1.below bb).cell 0
        have c1 := (H8.out.2.2.1.below bb).cell 1
        have d9 := M9.kk.cell 0
        have r9 := M9.r0.cell 0
        have z9 := M9.r0.thawed 0
        simp only [List.getElem?_toArray, List.getElem?_cons_zero, List.getElem?_cons_succ] at a0 a1 c0 c1 d9 r9
        have HL9 := Lib.hid (HLm.out _ M9)
        have H9 := Lib.hid (And.intro M9 K9)
        clear hW9 bb M9 K9 hb9 d8
        obtain ⟨W10, hW10⟩ : ∃ W10, W10 = W9.setCell ⟨w.heap.size, 0, none⟩ (.bool true) := ⟨_, rfl⟩
        have F10 : Fresh W10 w.heap.size #[.bool true] 4 := by rw [hW10]; exact H9.out.1.r0.set 0 _
        have hDD : w.heap.size < D := by
          have h1 := HD.out
          have h2 := HQ.out.1
          have h3 : WL.heap.size = W3.heap.size + 1 := by rw [HWL.out]; simp
          omega
        have hDw : D ≠ w.heap.size := by omega
        have K10 : W10.heap[D]? = some (.deferred (some [])) := by
          rw [hW10, Below.heap_setCell _ _ _ _ (by exact hDw)]; exact H9.out.2
        have low10 : Below w.heap.size w (W10.putObj D (.deferred none)) := by
          rw [hW10]
          exact below_put (H9.out.1.low.setCell (Nat.le_refl _) _) (Nat.le_of_lt hDD)
        have F11 := F10
        have rc : (W10.putObj D (.deferred none)).cell? ⟨w.heap.size, 0, none⟩ = some (.bool true) := by
          rw [cell_same (W := W10) (p := ⟨w.heap.size, 0, none⟩) (World.putObj_heap_other hDw.symm)]
          exact (F10.cell 0).trans rfl
        have HF := Lib.hid (And.intro K10 (And.intro low10 rc))
        have HW10 := Lib.hid hW10
        clear F10 F11 hDw hDD K10 low10 rc hW10
        cases u
        · rw [if_neg (by simp)] at hLen
          subst hLen
          clear hq
          go_wp2_with (go_at_call 18; refine HL9.out.mono ?_; rintro e' w8 ⟨rfl, hw8⟩; replace hw8 := hw8.symm; subst hw8)
          rw [← HW10.out]
          have rc := HF.out.2.2
          refine calm_ret1 (v := .bool true) rfl HF.out.1 ?_ ⟨rfl, HF.out.2.1⟩
          rw [results_cell1 rfl]
          go_simp
        · rw [if_pos rfl] at hLen
          have hq := hq rfl
          have q1 : ((n1 : Int) == (n0 : Int)) = false := by rw [beq_eq_false_iff_ne]; omega
          clear hLen
          go_wp2_with (go_at_call 18; refine HL9.out.mono ?_; rintro e' w8 ⟨rfl, hw8⟩; replace hw8 := hw8.symm; subst hw8)
          rw [← HW10.out]
          have rc := HF.out.2.2
          refine calm_ret1 (v := .bool true) rfl HF.out.1 ?_ ⟨rfl, HF.out.2.1⟩
          rw [results_cell1 rfl]
          go_simp
  case stop =>
    rintro D c pre W5 hD hS h hK
    exact h.elim
theorem u8_open {n : Int} (h : (Lit.int .u8 n).wf = true) : ∃ b : UInt8, n = (b.toNat : Int) := by
  have := Go.bounds_u8 h
  refine ⟨UInt8.ofNat n.toNat, ?_⟩
  rw [UInt8.toNat_ofNat', Nat.mod_eq_of_lt (by omega), Int.toNat_of_nonneg this.1]
theorem manyNext_walk (ao : Option Addr) (len cap : Nat) (zs : List Int) (b : Int) (w : World) (h : IsRow .u8 w ao len cap zs) (hb : (Lit.int .u8 b).wf = true) :
    Calls Try.prog 6 #[.slice ao len cap, .int .u8 b] w fun e w' => e = .returned (.bool true) ∧ Below w.heap.size w w' := by
  obtain ⟨c, rfl⟩ := u8_open hb
  obtain ⟨hm, l, hl, hB⟩ := bytes_open h
  exact manyNext_any w hB hl hm c
end Go.Proofs.Ytiifogbdoajnoaa
