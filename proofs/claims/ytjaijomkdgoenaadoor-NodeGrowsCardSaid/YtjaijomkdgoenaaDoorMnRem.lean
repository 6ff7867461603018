/- An entry that is removed: the last one fills its gap. -/
import Derived.Test.YtjaijomkdgoenaaDoorMnAdd
import Derived.Deep.RegionHeld3
namespace Go.Proofs.YtjaijomkdgoenaaDoor.Mn
open Go.RowKit
set_option maxRecDepth 100000
set_option maxHeartbeats 4000000

theorem results_cell1 {fn : Func} {p : Tmp} {ty : TypeId} (h : fn.results = #[.cell p ty]) (tmps : Array Value) (P : Program) (w : World) :
    (results fn tmps).run P w = ((asAddr (tmps.getD p undef)).run P w).andThen fun a w₁ => (loadVar ty a).run P w₁ := by
  simp only [results, h]
  simp [Sem.run_bind, Result.andThen]
theorem flat_set : ∀ (es : List En) (i : Nat) (x : En), i < es.length → flat (es.set i x) = (((flat es).set (i * 3) (.int .u8 (x.1.toNat : Int))).set (i * 3 + 1) (.int .i64 x.2.1)).set (i * 3 + 2) (.int .u32 x.2.2)
  | [], i, x, h => by simp at h
  | y :: es, 0, x, h => rfl
  | y :: es, i + 1, x, h => by
    have := flat_set es i x (by simpa using h)
    have e : ∀ (z : En) (l : List En), flat (z :: l) = .int .u8 (z.1.toNat : Int) :: .int .i64 z.2.1 :: .int .u32 z.2.2 :: flat l := fun _ _ => rfl
    rw [List.set_cons_succ, e, e, this]
    rw [show (i + 1) * 3 = i * 3 + 1 + 1 + 1 from by omega, show i * 3 + 1 + 1 + 1 + 1 = (i * 3 + 1) + 1 + 1 + 1 from rfl, show i * 3 + 1 + 1 + 1 + 2 = (i * 3 + 2) + 1 + 1 + 1 from rfl]
    simp only [List.set_cons_succ]
theorem flat_take (es : List En) (k : Nat) : flat (es.take k) = (flat es).take (k * 3) := by
  induction es generalizing k with
  | nil => simp [flat]
  | cons y es ih =>
    cases k with
    | zero => simp [flat]
    | succ k =>
      have e : ∀ (z : En) (l : List En), flat (z :: l) = .int .u8 (z.1.toNat : Int) :: .int .i64 z.2.1 :: .int .u32 z.2.2 :: flat l := fun _ _ => rfl
      rw [List.take_succ_cons, e, e, ih, show (k + 1) * 3 = k * 3 + 1 + 1 + 1 from by omega]
      simp only [List.take_succ_cons]
/-- The entries without one: the last one stands in its place. -/
def without (i : Nat) (x : En) (es : List En) : List En := (es.set i x).take (es.length - 1)
theorem tab_without {cs : Array Value} {es : List En} {b c : UInt8} {s g s2 g2 : Int} {i n : Nat} {v : Value} (h : Tab cs es) (hs : cs.size = 258) (hd : es.Pairwise fun x y => x.1 ≠ y.1) (hn : es.length = n + 1) (hi : es[i]? = some (b, s, g)) (hx : es[n]? = some (c, s2, g2)) :
    Tab (((cs.setIfInBounds c.toNat (.int .u16 ((i : Int) + 1))).setIfInBounds b.toNat (.int .u16 0)).setIfInBounds 256 v) (without i (c, s2, g2) es) := by
  have hb := b.toNat_lt
  have hc := c.toNat_lt
  have hil := (List.getElem?_eq_some_iff.1 hi).1
  have hw : ∀ j, (without i (c, s2, g2) es)[j]? = if j < n then (if i = j then some (c, s2, g2) else es[j]?) else none := by
    intro j
    rw [without, hn, Nat.add_sub_cancel]
    by_cases hj : j < n
    · rw [if_pos hj, List.getElem?_take_of_lt hj, List.getElem?_set]
      by_cases e : i = j
      · subst e; rw [if_pos rfl, if_pos rfl, if_pos hil]
      · rw [if_neg e, if_neg e]
    · rw [if_neg hj, List.getElem?_take_eq_none (by omega)]
  have uniq : ∀ (j k : Nat) (y z : En), es[j]? = some y → es[k]? = some z → y.1 = z.1 → j = k := by
    intro j k y z hj hk e
    have p1 : Pos es y.1 (j + 1) := .inr ⟨j, y.2.1, y.2.2, rfl, hj⟩
    have p2 : Pos es y.1 (k + 1) := .inr ⟨k, z.2.1, z.2.2, rfl, by rw [e]; exact hk⟩
    have := p1.uniq hd p2
    omega
  intro y
  have hy := y.toNat_lt
  by_cases e1 : y = b
  · subst e1
    refine ⟨0, ?_, .inl ⟨rfl, ?_⟩⟩
    · rw [Array.getElem?_setIfInBounds_ne (by omega), Array.getElem?_setIfInBounds_self_of_lt (by simp; omega)]; rfl
    · intro z hz e
      obtain ⟨j, hj⟩ := List.mem_iff_getElem?.1 hz
      rw [hw] at hj
      by_cases hjn : j < n
      · rw [if_pos hjn] at hj
        by_cases ej : i = j
        · rw [if_pos ej] at hj
          cases hj
          have := uniq i n _ _ hi hx (by exact e.symm)
          omega
        · rw [if_neg ej] at hj
          exact ej (uniq i j _ _ hi hj (by exact e.symm))
      · rw [if_neg hjn] at hj; cases hj
  · have n1 : b.toNat ≠ y.toNat := fun x => e1 (UInt8.toNat_inj.1 x).symm
    by_cases e2 : y = c
    · subst e2
      refine ⟨i + 1, ?_, .inr ⟨i, s2, g2, rfl, ?_⟩⟩
      · rw [Array.getElem?_setIfInBounds_ne (by omega), Array.getElem?_setIfInBounds_ne n1, Array.getElem?_setIfInBounds_self_of_lt (by omega)]; rfl
      · have hne : i ≠ n := by rintro rfl; rw [hi] at hx; cases hx; exact e1 rfl
        rw [hw, if_pos (by omega), if_pos rfl]
    · have n2 : c.toNat ≠ y.toNat := fun x => e2 (UInt8.toNat_inj.1 x).symm
      obtain ⟨m, h1, h2⟩ := h y
      refine ⟨m, by rw [Array.getElem?_setIfInBounds_ne (by omega), Array.getElem?_setIfInBounds_ne n1, Array.getElem?_setIfInBounds_ne n2]; exact h1, ?_⟩
      rcases h2 with ⟨h3, h4⟩ | ⟨j, s', g', h3, h4⟩
      · refine .inl ⟨h3, fun z hz e => ?_⟩
        obtain ⟨j, hj⟩ := List.mem_iff_getElem?.1 hz
        rw [hw] at hj
        by_cases hjn : j < n
        · rw [if_pos hjn] at hj
          by_cases ej : i = j
          · rw [if_pos ej] at hj; cases hj; exact e2 e.symm
          · rw [if_neg ej] at hj; exact h4 z (List.mem_of_getElem? hj) e
        · rw [if_neg hjn] at hj; cases hj
      · refine .inr ⟨j, s', g', h3, ?_⟩
        have hjl := (List.getElem?_eq_some_iff.1 h4).1
        have j1 : j ≠ n := by rintro rfl; rw [h4] at hx; cases hx; exact e2 rfl
        have j2 : i ≠ j := by rintro rfl; rw [h4] at hi; cases hi; exact e1 rfl
        rw [hw, if_pos (by omega), if_neg j2]; exact h4
theorem dist_without {es : List En} {i n : Nat} {x y : En} (hd : es.Pairwise fun x y => x.1 ≠ y.1) (hn : es.length = n + 1) (hi : es[i]? = some y) (hx : es[n]? = some x) : (without i x es).Pairwise fun x y => x.1 ≠ y.1 := by
  have hil := (List.getElem?_eq_some_iff.1 hi).1
  rw [without, hn, Nat.add_sub_cancel, List.pairwise_iff_getElem]
  intro j k hj hk hjk
  simp only [List.length_take, List.length_set] at hj hk
  rw [List.getElem_take, List.getElem_take, List.getElem_set, List.getElem_set]
  have P := List.pairwise_iff_getElem.1 hd
  obtain ⟨xl, rfl⟩ := List.getElem?_eq_some_iff.1 hx
  by_cases e1 : i = j
  · rw [if_pos e1, if_neg (by omega)]
    exact (P k n (by omega) xl (by omega)).symm
  · rw [if_neg e1]
    by_cases e2 : i = k
    · rw [if_pos e2]
      exact P j n (by omega) xl (by omega)
    · rw [if_neg e2]
      exact P j k (by omega) (by omega) hjk
theorem rem_fin {W W9 : World} {q e : Nat} {es : List En} {room : Nat} {cs : Array Value} {v : Value} (h : RowM W q e es room cs v) {b c : UInt8} {i n : Nat} {s g s2 g2 : Int} (hi : es[i]? = some (b, s, g)) (hn : es.length = n + 1) (hx : es[n]? = some (c, s2, g2)) {cap : Nat} {cur : Array Value}
    (h1 : es.length ≤ cap) (h2 : cap ≤ maxLen) (h3 : cur.size = cap * 3) (h4 : cur.toList.take (es.length * 3) = flat es) (hT : Turned [q, e] W W9)
    (Q9 : Fresh W9 q (((cs.setIfInBounds c.toNat (.int .u16 ((i : Int) + 1))).setIfInBounds b.toNat (.int .u16 0)).setIfInBounds 256 (.slice (some ⟨e, 0, none⟩) n cap)) 92)
    (E9 : Fresh W9 e (((cur.setIfInBounds (i * 3) (.int .u8 (c.toNat : Int))).setIfInBounds (i * 3 + 1) (.int .i64 s2)).setIfInBounds (i * 3 + 2) (.int .u32 g2)) 137) :
    ∃ cs2 v2, Turned [q, e] W W9 ∧ RowM W9 q e (without i (c, s2, g2) es) room cs2 v2 := by
  have hb := b.toNat_lt
  have hc := c.toNat_lt
  have hil := (List.getElem?_eq_some_iff.1 hi).1
  have hlen : (without i (c, s2, g2) es).length = n := by rw [without, List.length_take, List.length_set]; omega
  refine ⟨_, .slice (some ⟨e, 0, none⟩) n cap, hT, Q9, by simp [h.size], tab_without h.tab h.size h.dist hn hi hx, ?_, ?_, ?_, fun k hk => by simpa [Value.ownBlock] using hk.symm, dist_without h.dist hn hi hx, by have := h.len; omega, E9.lt, .inr ⟨_, E9⟩⟩
  · rw [Array.getElem?_setIfInBounds_self_of_lt (by simp [h.size])]
  · rw [Array.getElem?_setIfInBounds_ne (by omega), Array.getElem?_setIfInBounds_ne (by omega), Array.getElem?_setIfInBounds_ne (by omega)]; exact h.room
  · rw [hlen]
    refine ⟨by rw [flat_length, hlen], .inr ⟨e, cap, _, rfl, Nat.zero_le _, E9, by omega, h2, by simp [h3], ?_⟩⟩
    rw [without, flat_take, flat_set _ _ _ hil, hn, Nat.add_sub_cancel]
    simp only [Array.toList_setIfInBounds, List.take_set]
    have e1 : cur.toList.take (n * 3) = (flat es).take (n * 3) := by
      rw [← h4, List.take_take, hn, Nat.min_eq_left (by omega)]
    rw [e1]
theorem remove_any {W : World} {q e : Nat} {es : List En} {room : Nat} {cs : Array Value} {v : Value} (h : RowM W q e es room cs v) (b : UInt8) {i : Nat} {s g : Int} (hi : es[i]? = some (b, s, g)) {n : Nat} (hn : es.length = n + 1) {c : UInt8} {s2 g2 : Int} (hx : es[n]? = some (c, s2, g2)) :
    Calls Tryd.prog 109 #[.pointer (some ⟨q, 0, none⟩), .int .u8 (b.toNat : Int)] W fun e' w' => e' = .returned (.agg #[.int .i64 s, .int .u32 g]) ∧ ∃ cs2 v2, Turned [q, e] W w' ∧ RowM w' q e (without i (c, s2, g2) es) room cs2 v2 := by
  obtain ⟨W1, hW1⟩ : ∃ W1, W1 = W.alloc (.cells #[.int .i64 0, .int .u32 0] 29) := ⟨_, rfl⟩
  have B1 : Below W.heap.size W W1 := by rw [hW1]; exact Below.new (Below.refl _ _) _
  have bx : Fresh W1 W.heap.size #[.int .i64 0, .int .u32 0] 29 := by rw [hW1]; exact Fresh.new _ _ _ _ rfl
  have h1 := h.below B1
  obtain ⟨cap, cur, rfl, hcur, hcap⟩ : ∃ cap cur, v = .slice (some ⟨e, 0, none⟩) (n + 1) cap ∧ Fresh W1 e cur 137 ∧ es.length ≤ cap ∧ cap ≤ maxLen ∧ cur.size = cap * 3 ∧ cur.toList.take (es.length * 3) = flat es := by
    rcases h1.form with ⟨_, h2⟩ | ⟨cap, cur, hv, hr⟩
    · subst h2; simp at hn
    · exact ⟨cap, cur, by rw [hv, hn], hr⟩
  have c0 : W1.cell? ⟨q, 256, none⟩ = some (.slice (some ⟨e, 0, none⟩) (n + 1) cap) := (h1.box.cell _).trans h1.ent
  obtain ⟨d0, d1, d2, _⟩ := h1.at hx
  obtain ⟨k, hk⟩ : ∃ k, b.toNat = k := ⟨_, rfl⟩
  obtain ⟨m, hm⟩ : ∃ m, c.toNat = m := ⟨_, rfl⟩
  have hlen := h.len
  have hil := (List.getElem?_eq_some_iff.1 hi).1
  have n0 : (0 : Int) ≤ (n : Int) := Int.natCast_nonneg _
  have n1 : (n : Int) < (n : Int) + 1 := by omega
  have nw : IntKind.i64.wrap (n : Int) = (n : Int) := IntWalk.i64_in _ (by omega)
  simp only [hm] at d0
  have HE := Lib.hid (fun W' (hb : Below W1.heap.size W1 W') => hk ▸ entry_any (h1.below hb) b hi)
  have HW1 := Lib.hid hW1
  have HB1 := Lib.hid B1
  have HBX := Lib.hid bx
  have HCU := Lib.hid (And.intro hcur hcap)
  have HNE : Hid (q < W.heap.size ∧ e < W.heap.size ∧ q ≠ e ∧ W.heap.size < W1.heap.size) := by
    have := h.box.lt; have := h.lt; have := bx.lt
    refine ⟨by omega, by omega, ?_, by omega⟩
    rintro rfl
    have := h1.box
    unfold Fresh at this hcur
    rw [this] at hcur
    cases hcur
  have HBM : Hid (k < 256 ∧ m < 256) := by have := b.toNat_lt; have := c.toNat_lt; show _ ∧ _; omega
  have HTK : Hid (cs[k]? = some (.int .u16 ((i : Int) + 1))) := by
    obtain ⟨j, hj, hp⟩ := h.tab b
    obtain rfl := hp.uniq h.dist (.inr ⟨i, s, g, rfl, hi⟩)
    rw [hk] at hj; rw [hj]; rfl
  clear h1 hW1 hlen B1 bx hcur hcap
  go_enter Tryd.func109, Tryd.ntmps109
  rw [hk]
  go_upto_region 1 with fail
  rw [← HW1.out]
  dsimp only at d0 d1 d2
  go_region_held3 (fun W' => W'.cell? ⟨q, 256, none⟩ = some (.slice (some ⟨e, 0, none⟩) (n + 1) cap) ∧ W'.cell? ⟨e, n * 3, none⟩ = some (.int .u8 (m : Int)) ∧ W'.cell? ⟨e, n * 3 + 1, none⟩ = some (.int .i64 s2) ∧ W'.cell? ⟨e, n * 3 + 2, none⟩ = some (.int .u32 g2))
    (first | go_keep | exact (0 : Nat))
    (first
      | (go_at_call 107
         refine (HE.out _ (by first | exact (Below.refl _ _).drew | exact Below.new ((Below.refl _ _).drew) _)).mono ?_
         rintro e' w2 ⟨rfl, rfl⟩))
  all_goals
    clear c0 d0 d1 d2
    obtain ⟨W3, hW3⟩ : ∃ W3, W3 = (W1.alloc (.cells #[.int .u8 (m : Int), .int .i64 s2, .int .u32 g2] 137)).drew.drew := ⟨_, rfl⟩
    rw [← hW3]
    have B3 : Below W1.heap.size W1 W3 := by rw [hW3]; exact (Below.new (Below.refl _ _) _).drew.drew
    have X6 : Fresh W3 W1.heap.size #[.int .u8 (m : Int), .int .i64 s2, .int .u32 g2] 137 := by rw [hW3]; exact (Fresh.new _ _ _ _ rfl).drew.drew
    have s3 : W3.heap.size = W1.heap.size + 1 := by rw [hW3]; simp
    have R3 := (h.below HB1.out).below B3
    obtain ⟨-, a1, a2, -⟩ := R3.at hi
    dsimp only at a1 a2
    have H3 := Lib.hid (And.intro B3 (And.intro X6 R3))
    clear hW3 B3 X6 R3
    go_upto_region 3 with fail
    obtain ⟨W4, hW4⟩ : ∃ W4, W4 = W3.alloc (.cells #[.int .i64 s, .int .u32 g] 29) := ⟨_, rfl⟩
    rw [← hW4]
    have B4 : Below W3.heap.size W3 W4 := by rw [hW4]; exact Below.new (Below.refl _ _) _
    have X7 : Fresh W4 W3.heap.size #[.int .i64 s, .int .u32 g] 29 := by rw [hW4]; exact Fresh.new _ _ _ _ rfl
    have X6 := H3.out.2.1.below B4
    have R4 := H3.out.2.2.below B4
    obtain ⟨e0, e1, e2, ef⟩ := R4.at hi
    have ef0 := ef (i * 3)
    have ef1 := ef (i * 3 + 1)
    have ef2 := ef (i * 3 + 2)
    obtain ⟨x0, x1, x2⟩ : W4.cell? ⟨W1.heap.size, 0, none⟩ = some (.int .u8 (m : Int)) ∧ W4.cell? ⟨W1.heap.size, 1, none⟩ = some (.int .i64 s2) ∧ W4.cell? ⟨W1.heap.size, 2, none⟩ = some (.int .u32 g2) := ⟨X6.cell 0, X6.cell 1, X6.cell 2⟩
    dsimp only at e0 e1 e2
    have H4 := Lib.hid (And.intro B4 (And.intro X6 (And.intro X7 R4)))
    clear hW4 B4 X6 X7 R4 ef a1 a2
    go_upto_region 4 with fail
    obtain ⟨W5, hW5⟩ : ∃ W5, W5 = ((W4.setCell ⟨e, i * 3, none⟩ (.int .u8 (m : Int))).setCell ⟨e, i * 3 + 1, none⟩ (.int .i64 s2)).setCell ⟨e, i * 3 + 2, none⟩ (.int .u32 g2) := ⟨_, rfl⟩
    rw [← hW5]
    have hne := HNE.out
    have E5 : Fresh W5 e (((cur.setIfInBounds (i * 3) (.int .u8 (m : Int))).setIfInBounds (i * 3 + 1) (.int .i64 s2)).setIfInBounds (i * 3 + 2) (.int .u32 g2)) 137 := by
      rw [hW5]; exact ((((HCU.out.1.below H3.out.1).below H4.out.1).set _ _).set _ _).set _ _
    have Q5 : Fresh W5 q cs 92 := by rw [hW5]; exact ((H4.out.2.2.2.box.other (by omega) _ _).other (by omega) _ _).other (by omega) _ _
    have X6 : Fresh W5 W1.heap.size #[.int .u8 (m : Int), .int .i64 s2, .int .u32 g2] 137 := by rw [hW5]; exact ((H4.out.2.1.other (by omega) _ _).other (by omega) _ _).other (by omega) _ _
    have X7 : Fresh W5 W3.heap.size #[.int .i64 s, .int .u32 g] 29 := by rw [hW5]; exact ((H4.out.2.2.1.other (by omega) _ _).other (by omega) _ _).other (by omega) _ _
    have X4 : Fresh W5 W.heap.size #[.int .i64 0, .int .u32 0] 29 := by rw [hW5]; exact ((((HBX.out.below H3.out.1).below H4.out.1).other (by omega) _ _).other (by omega) _ _).other (by omega) _ _
    have T5 : Turned [q, e] W W5 := by
      rw [hW5]
      exact ((Turned.of_below (Below.step (Below.step HB1.out H3.out.1) H4.out.1)).setCell (.inl (by simp)) _ _).setCell (.inl (by simp)) _ _ |>.setCell (.inl (by simp)) _ _
    have y0 := X6.cell 0
    have y1 : W5.cell? ⟨q, k, none⟩ = some (.int .u16 ((i : Int) + 1)) := (Q5.cell k).trans HTK.out
    obtain ⟨z, y2⟩ : ∃ z, W5.cell? ⟨q, m, none⟩ = some z := ⟨_, (Q5.cell m).trans (Array.getElem?_eq_getElem (by have := HBM.out; have := h.size; omega))⟩
    have y3 := Q5.thawed m
    simp only [List.getElem?_toArray, List.getElem?_cons_zero] at y0
    have H5 := Lib.hid (And.intro E5 (And.intro Q5 (And.intro X7 (And.intro X4 T5))))
    clear hW5 E5 Q5 X6 X7 X4 T5 x0 x1 x2 e0 e1 e2 ef0 ef1 ef2 hne
    have k0 : (0 : Int) ≤ (k : Int) := Int.natCast_nonneg _
    have k1 : (k : Int) < 256 := by have := HBM.out; omega
    have m0 : (0 : Int) ≤ (m : Int) := Int.natCast_nonneg _
    have m1 : (m : Int) < 256 := by have := HBM.out; omega
    go_region
    go_upto_region 5 with fail
    have hs := h.size
    have hbm := HBM.out
    obtain ⟨W6, hW6⟩ : ∃ W6, W6 = (W5.setCell ⟨q, m, none⟩ (.int .u16 ((i : Int) + 1))).drew := ⟨_, rfl⟩
    rw [← hW6]
    have Q6 : Fresh W6 q (cs.setIfInBounds m (.int .u16 ((i : Int) + 1))) 92 := by rw [hW6]; exact (H5.out.2.1.set _ _).drew
    obtain ⟨z, y2⟩ : ∃ z, W6.cell? ⟨q, k, none⟩ = some z := ⟨_, (Q6.cell k).trans (Array.getElem?_eq_getElem (by simp; omega))⟩
    have y3 := Q6.thawed k
    obtain ⟨W7, hW7⟩ : ∃ W7, W7 = W6.setCell ⟨q, k, none⟩ (.int .u16 0) := ⟨_, rfl⟩
    have HQ6 := Lib.hid Q6
    have HW7 := Lib.hid hW7
    have HBM2 := Lib.hid hbm
    have HS := Lib.hid hs
    have HW6 := Lib.hid hW6
    clear y0 y1 hW7 hW6 hbm hs Q6
    go_upto_region 6 with fail
    rw [← HW7.out]
    have hs := HS.out
    have hbm := HBM2.out
    have hW7 := HW7.out
    have Q6 := HQ6.out
    have hW6 := HW6.out
    rw [hW6] at hW7
    have Q7 : Fresh W7 q ((cs.setIfInBounds m (.int .u16 ((i : Int) + 1))).setIfInBounds k (.int .u16 0)) 92 := by rw [hW7]; exact (H5.out.2.1.set _ _).drew.set _ _
    have hne := HNE.out
    have E7 := (H5.out.1.other (Ne.symm hne.2.2.1) m (.int .u16 ((i : Int) + 1))).drew.other (Ne.symm hne.2.2.1) k (.int .u16 0)
    have hs3 : W1.heap.size < W3.heap.size := by omega
    have X7 := (H5.out.2.2.1.other (q := q) (by omega) m (.int .u16 ((i : Int) + 1))).drew.other (q := q) (by omega) k (.int .u16 0)
    have X4 := (H5.out.2.2.2.1.other (q := q) (by omega) m (.int .u16 ((i : Int) + 1))).drew.other (q := q) (by omega) k (.int .u16 0)
    have T7 : Turned [q, e] W W7 := by rw [hW7]; exact (H5.out.2.2.2.2.setCell (.inl (by simp)) _ _).drew.setCell (.inl (by simp)) _ _
    rw [← hW7] at E7 X7 X4
    have c7 : W7.cell? ⟨q, 256, none⟩ = some (.slice (some ⟨e, 0, none⟩) (n + 1) cap) := by
      rw [Q7.cell, Array.getElem?_setIfInBounds_ne (by omega), Array.getElem?_setIfInBounds_ne (by omega)]; exact h.ent
    have f7 := Q7.thawed 256
    have H7 := Lib.hid (And.intro E7 (And.intro Q7 (And.intro X7 (And.intro X4 T7))))
    clear y2 y3 hW6 hW7 Q6 Q7 E7 X7 X4 T7 hne hs hbm hs3
    have ncap : n ≤ cap := by have := HCU.out.2.1; omega
    go_region
    obtain ⟨W8, hW8⟩ : ∃ W8, W8 = (W7.setCell ⟨q, 256, none⟩ (.slice (some ⟨e, 0, none⟩) n cap)).drew := ⟨_, rfl⟩
    go_upto_region 7 with fail
    rw [← hW8]
    have Q8 := (H7.out.2.1.set 256 (.slice (some ⟨e, 0, none⟩) n cap)).drew
    rw [← hW8] at Q8
    have hne := HNE.out
    have E8 := (H7.out.1.other (Ne.symm hne.2.2.1) 256 (.slice (some ⟨e, 0, none⟩) n cap)).drew
    have X7 := (H7.out.2.2.1.other (q := q) (by omega) 256 (.slice (some ⟨e, 0, none⟩) n cap)).drew
    have X4 := (H7.out.2.2.2.1.other (q := q) (by omega) 256 (.slice (some ⟨e, 0, none⟩) n cap)).drew
    have T8 : Turned [q, e] W W8 := by rw [hW8]; exact (H7.out.2.2.2.2.setCell (.inl (by simp)) _ _).drew
    rw [← hW8] at E8 X7 X4
    rw [s3] at X7
    have u0 := X7.cell 0
    have u1 := X7.cell 1
    have v0 := X4.cell 0
    have v1 := X4.cell 1
    have w0 := X4.thawed 0
    have w1 := X4.thawed 1
    simp only [List.getElem?_toArray, List.getElem?_cons_zero, List.getElem?_cons_succ] at u0 u1 v0 v1
    have H8 := Lib.hid (And.intro E8 (And.intro Q8 (And.intro X4 T8)))
    clear hW8 E8 Q8 X7 X4 T8 c7 f7
    go_wp2_with fail
    obtain ⟨W9, hW9⟩ : ∃ W9, W9 = (W8.setCell ⟨W.heap.size, 0, none⟩ (.int .i64 s)).setCell ⟨W.heap.size, 1, none⟩ (.int .u32 g) := ⟨_, rfl⟩
    rw [← hW9]
    have X9 : Fresh W9 W.heap.size #[.int .i64 s, .int .u32 g] 29 := by rw [hW9]; exact (H8.out.2.2.1.set 0 _).set 1 _
    have E9 := (H8.out.1.other (q := W.heap.size) (by omega) 0 (.int .i64 s)).other (q := W.heap.size) (by omega) 1 (.int .u32 g)
    have Q9 := (H8.out.2.1.other (q := W.heap.size) (by omega) 0 (.int .i64 s)).other (q := W.heap.size) (by omega) 1 (.int .u32 g)
    have T9 : Turned [q, e] W W9 := by rw [hW9]; exact (H8.out.2.2.2.setCell (.inr (Nat.le_refl _)) _ _).setCell (.inr (Nat.le_refl _)) _ _
    rw [← hW9] at E9 Q9
    have g0 := X9.cell 0
    have g1 := X9.cell 1
    simp only [List.getElem?_toArray, List.getElem?_cons_zero, List.getElem?_cons_succ] at g0 g1
    have FIN : ∃ cs2 v2, Turned [q, e] W W9 ∧ RowM W9 q e (without i (c, s2, g2) es) room cs2 v2 := by
      rw [← hk] at Q9
      rw [← hm] at Q9 E9
      exact rem_fin h hi hn hx HCU.out.2.1 HCU.out.2.2.1 HCU.out.2.2.2.1 HCU.out.2.2.2.2 T9 Q9 E9
    have HFIN := Lib.hid FIN
    clear hW9 X9 E9 Q9 T9 FIN hne
    refine bodyPost_ret (v := .agg #[.int .i64 s, .int .u32 g]) ?_ rfl ⟨rfl, HFIN.out⟩
    rw [results_cell1 rfl]
    go_simp
end Go.Proofs.YtjaijomkdgoenaaDoor.Mn
