/- The walk of handle.Read. -/
import Derived.Test.YtcfkaginjcgmhaaDoorParts
namespace Go.Proofs.YtcfkaginjcgmhaaDoor
open Go.RowKit
set_option maxRecDepth 100000
set_option maxHeartbeats 4000000

def Fresh (W : World) (p : Nat) (cs : Array Value) (t : TypeId) : Prop := W.heap[p]? = some (.cells cs t (0, 0))
theorem Fresh.new (W : World) (p : Nat) (cs : Array Value) (t : TypeId) (hp : W.heap.size = p) : Fresh (W.alloc (.cells cs t)) p cs t := by subst hp; exact heap_alloc_new W _
theorem Fresh.lt {W : World} {p : Nat} {cs : Array Value} {t : TypeId} (h : Fresh W p cs t) : p < W.heap.size := (Array.getElem?_eq_some_iff.1 h).1
theorem Fresh.below {W W' : World} {p : Nat} {cs : Array Value} {t : TypeId} (h : Fresh W p cs t) (hb : Below W.heap.size W W') : Fresh W' p cs t := (hb.block p h.lt).trans h
theorem Fresh.alloc {W : World} {p : Nat} {cs : Array Value} {t : TypeId} (h : Fresh W p cs t) (o : Obj) : Fresh (W.alloc o) p cs t := h.below ((Below.refl _ _).alloc (Nat.le_refl _) o)
theorem Fresh.cell {W : World} {p : Nat} {cs : Array Value} {t : TypeId} (h : Fresh W p cs t) (i : Nat) : W.cell? ⟨p, i, none⟩ = cs[i]? := by simp [World.cell?, show W.heap[p]? = _ from h]
theorem Fresh.thawed {W : World} {p : Nat} {cs : Array Value} {t : TypeId} (h : Fresh W p cs t) (i : Nat) : W.frozen? ⟨p, i, none⟩ = false := by simp [World.frozen?, show W.heap[p]? = _ from h]

theorem Fresh.set {W : World} {p : Nat} {cs : Array Value} {t : TypeId} (h : Fresh W p cs t) (i : Nat) (v : Value) : Fresh (W.setCell ⟨p, i, none⟩ v) p (cs.setIfInBounds i v) t := by
  unfold Fresh at *
  simp only [World.setCell, Array.getElem?_modify, h, Option.map_some, if_pos]
  rfl
theorem Fresh.set3 {W : World} {p : Nat} {a b c : Value} {t : TypeId} (h : Fresh W p #[a, b, c] t) (x y z : Value) : Fresh (((W.setCell ⟨p, 0, none⟩ x).setCell ⟨p, 1, none⟩ y).setCell ⟨p, 2, none⟩ z) p #[x, y, z] t := ((h.set 0 x).set 1 y).set 2 z
theorem below_set3 {w W : World} {p : Nat} (h : Below w.heap.size w W) (hp : w.heap.size ≤ p) (x y z : Value) : Below w.heap.size w (((W.setCell ⟨p, 0, none⟩ x).setCell ⟨p, 1, none⟩ y).setCell ⟨p, 2, none⟩ z) :=
  Below.setCell (Below.setCell (Below.setCell h hp x) hp y) hp z

/-- What a loose reading makes of a text. -/
def looseT (l : List UInt8) : Nat := numN (cutP l).1
def looseG (l : List UInt8) : Nat := numN (cutP (cutP l).2).1
def looseR (l : List UInt8) : Nat := rightsN (cutP (cutP l).2).2
theorem loose_of {t g r : Nat} (h : okN t g r) : looseT (textL t g r) = t ∧ looseG (textL t g r) = g ∧ looseR (textL t g r) = r := by
  obtain ⟨h1, h2, h3, h4, h5, h6⟩ := h
  have a := cutP_text t g r
  unfold looseT looseG looseR
  rw [a.1, a.2]
  exact ⟨numN_dec t (by omega), numN_dec g h4, rights_letters r (by omega)⟩

def readV (o : Option (Nat × Nat × Nat)) : Value := match o with
  | some (t, g, r) => .tuple #[hv t g r, .int .i64 0]
  | none => .tuple #[hv 0 0 0, .int .i64 7]

theorem read_any (s : ByteArray) (w : World) (hs : s.size ≤ 1000) (htab : Tab w) (herr : Errs w) :
    Calls Tryd.prog 15 #[.string s] w fun e w' => e = .returned (readV (readZ s.data.toList)) ∧ Below w.heap.size w w' := by
  have HT := Lib.hid htab
  have HE := Lib.hid herr
  have HS := Lib.hid hs
  obtain ⟨t, ht⟩ : ∃ t, looseT s.data.toList = t := ⟨_, rfl⟩
  obtain ⟨g, hg⟩ : ∃ g, looseG s.data.toList = g := ⟨_, rfl⟩
  obtain ⟨r, hr⟩ : ∃ r, looseR s.data.toList = r := ⟨_, rfl⟩
  have hgl : g < 4294967296 := by rw [← hg]; exact numN_lt _
  have htl : t < 4294967296 := by rw [← ht]; exact numN_lt _
  have hrl : r < 8 := by rw [← hr]; exact rightsN_lt _
  have l1 := cutP_len s.data.toList
  have l2 := cutP_len (cutP s.data.toList).2
  obtain ⟨A, hA⟩ : ∃ A : ByteArray, (⟨(cutP s.data.toList).1.toArray⟩ : ByteArray) = A := ⟨_, rfl⟩
  obtain ⟨B, hB⟩ : ∃ B : ByteArray, (⟨(cutP s.data.toList).2.toArray⟩ : ByteArray) = B := ⟨_, rfl⟩
  have eA : A.data.toList = (cutP s.data.toList).1 := by rw [← hA]
  have eB : B.data.toList = (cutP s.data.toList).2 := by rw [← hB]
  obtain ⟨C, hC⟩ : ∃ C : ByteArray, (⟨(cutP B.data.toList).1.toArray⟩ : ByteArray) = C := ⟨_, rfl⟩
  obtain ⟨D, hD⟩ : ∃ D : ByteArray, (⟨(cutP B.data.toList).2.toArray⟩ : ByteArray) = D := ⟨_, rfl⟩
  have eC : C.data.toList = (cutP B.data.toList).1 := by rw [← hC]
  have eD : D.data.toList = (cutP B.data.toList).2 := by rw [← hD]
  have NT : Hid (numN A.data.toList = t) := by show _ = _; rw [eA]; exact ht
  have NG : Hid (numN C.data.toList = g) := by show _ = _; rw [eC, eB]; exact hg
  have NR : Hid (rightsN D.data.toList = r) := by show _ = _; rw [eD, eB]; exact hr
  rw [← eA, ← eB, length_list, length_list, length_list] at l1
  rw [← eB, ← eC, ← eD, length_list, length_list, length_list] at l2
  have ZA : Hid (A.size ≤ 281474976710656) := by show _ ≤ _; omega
  have ZB : Hid (B.size ≤ 1000) := by show _ ≤ _; omega
  have ZC : Hid (C.size ≤ 281474976710656) := by show _ ≤ _; omega
  obtain ⟨b1, hb1⟩ : ∃ b : Bool, decide (0 ≤ Lib.indexByte s.data.toList 46) = b := ⟨_, rfl⟩
  obtain ⟨b2, hb2⟩ : ∃ b : Bool, decide (0 ≤ Lib.indexByte B.data.toList 46) = b := ⟨_, rfl⟩
  have C1 := Lib.hid (fun w => cut_any s A B b1 w hs hA hB hb1)
  have C2 := Lib.hid (fun w => cut_any B C D b2 w ZB.out hC hD hb2)
  have HZ : Hid (readZ s.data.toList = if okN t g r ∧ textL t g r = s.data.toList then some (t, g, r) else none) := by
    show _ = _
    by_cases hz : ∃ x, readZ s.data.toList = some x
    · obtain ⟨⟨t', g', r'⟩, hz⟩ := hz
      obtain ⟨k1, k2⟩ := readZ_of hz
      have := loose_of k1
      rw [k2, ht, hg, hr] at this
      obtain ⟨rfl, rfl, rfl⟩ := this
      rw [hz, if_pos ⟨k1, k2⟩]
    · have hn : readZ s.data.toList = none := by
        cases hq : readZ s.data.toList with
        | none => rfl
        | some x => exact absurd ⟨x, hq⟩ hz
      rw [hn, if_neg (fun h => readZ_none hn _ _ _ h.1 h.2)]
  have HRZ := Lib.hid (rightZ_of t g r hgl)
  have hg64 : (g : Int) ≤ 4294967295 := by omega
  clear ht hg hr l1 l2 hA hB eA eB hC hD eC eD hb1 hb2 hs htab herr
  by_cases hok : okN t g r
  · have HOK := Lib.hid hok
    have HR1 : Hid (rightZ t g r = true) := by show _ = _; rw [HRZ.out]; simpa using hok
    by_cases hte : textL t g r = s.data.toList
    · have HV : Hid (readZ s.data.toList = some (t, g, r)) := by show _ = _; rw [HZ.out, if_pos ⟨hok, hte⟩]
      have HTB : Hid (textB t g r = s) := bytes_ext (by rw [textB_list, hte])
      clear hok hte
      go_enter Tryd.func15, Tryd.ntmps15
      go_wp2_with fail
      refine (C1.out _).mono ?_
      rintro e w1 ⟨rfl, hb1⟩
      have B1 := Lib.hid (Below.step ((Below.refl w.heap.size w).alloc (Nat.le_refl _) _) hb1)
      have F1 := Lib.hid ((Fresh.new w _ #[.int .i64 0, .int .u32 0, .int .u8 0] 25 rfl).below hb1)
      clear hb1
      go_wp2_with fail
      refine (C2.out _).mono ?_
      rintro e w2 ⟨rfl, hb2⟩
      have B2 := Lib.hid (Below.step B1.out hb2)
      have F2 := Lib.hid (F1.out.below hb2)
      clear hb2
      go_wp2_with fail
      refine (number_any A ZA.out _ (HE.out.on B2.out)).mono ?_
      rw [NT.out]
      rintro e w3 ⟨rfl, hb3⟩
      have B3 := Lib.hid (Below.step B2.out hb3)
      have F3 := Lib.hid (F2.out.below hb3)
      clear hb3
      go_wp2_with fail
      refine (number_any C ZC.out _ (HE.out.on B3.out)).mono ?_
      rw [NG.out]
      rintro e w4 ⟨rfl, hb4⟩
      have B4 := Lib.hid (Below.step B3.out hb4)
      have F4 := Lib.hid (F3.out.below hb4)
      clear hb4
      go_wp2_with fail
      refine (rights_any D _).mono ?_
      rw [NR.out]
      rintro e w5 ⟨rfl, rfl⟩
      go_wp2_with fail
      refine (right_any t g r _).mono ?_
      rw [HR1.out]
      rintro e w6 ⟨rfl, hb6⟩
      have B6 := Lib.hid (Below.step (Below.new B4.out _) hb6)
      have F6 := Lib.hid ((F4.out.alloc _).below hb6)
      have G6 := Lib.hid ((Fresh.new w5 _ #[.int .i64 t, .int .u32 g, .int .u8 r] 49 rfl).below hb6)
      clear hb6
      have c0 := G6.out.cell 0
      have c1 := G6.out.cell 1
      have c2 := G6.out.cell 2
      simp only [List.getElem?_toArray, List.getElem?_cons_zero, List.getElem?_cons_succ] at c0 c1 c2
      go_wp2_with fail
      refine (text_any t g r HOK.out _ (HT.out.on B6.out)).mono ?_
      rw [HTB.out]
      rintro e w7 ⟨rfl, hb7⟩
      have B7 := Lib.hid (Below.step B6.out hb7)
      have F7 := Lib.hid (F6.out.below hb7)
      have G7 := Lib.hid (G6.out.below hb7)
      clear hb7 c0 c1 c2
      have c0 := G7.out.cell 0
      have c1 := G7.out.cell 1
      have c2 := G7.out.cell 2
      simp only [List.getElem?_toArray, List.getElem?_cons_zero, List.getElem?_cons_succ] at c0 c1 c2
      have x0 := F7.out.cell 0
      have x1 := F7.out.cell 1
      have x2 := F7.out.cell 2
      simp only [List.getElem?_toArray, List.getElem?_cons_zero, List.getElem?_cons_succ] at x0 x1 x2
      have z0 := F7.out.thawed 0
      have z1 := F7.out.thawed 1
      have z2 := F7.out.thawed 2
      go_wp2_with fail
      have FE := F7.out.set3 (.int .i64 t) (.int .u32 g) (.int .u8 r)
      obtain ⟨WX, hWX⟩ : ∃ WX, WX = (((w7.setCell ⟨w.heap.size, 0, none⟩ (.int .i64 t)).setCell ⟨w.heap.size, 1, none⟩ (.int .u32 g)).setCell ⟨w.heap.size, 2, none⟩ (.int .u8 r)) := ⟨_, rfl⟩
      have BE := below_set3 B7.out (Nat.le_refl _) (.int .i64 t) (.int .u32 g) (.int .u8 r)
      rw [← hWX] at FE BE ⊢
      have y0 := FE.cell 0
      have y1 := FE.cell 1
      have y2 := FE.cell 2
      simp only [List.getElem?_toArray, List.getElem?_cons_zero, List.getElem?_cons_succ] at y0 y1 y2
      exact bodyPost_ret (v := .tuple #[.agg #[.int .i64 t, .int .u32 g, .int .u8 r], .int .i64 0]) (by simp [results, Tryd.results15, go_sem, y0, y1, y2]) rfl ⟨by rw [HV.out]; rfl, BE⟩
    · have HV : Hid (readZ s.data.toList = none) := by show _ = _; rw [HZ.out, if_neg (fun h => hte h.2)]
      have hne : ((textB t g r).toList == s.toList) = false := by
        rw [beq_eq_false_iff_ne, ByteArray.toList_eq, ByteArray.toList_eq, textB_list]; exact hte
      clear hok hte
      go_enter Tryd.func15, Tryd.ntmps15
      go_wp2_with fail
      refine (C1.out _).mono ?_
      rintro e w1 ⟨rfl, hb1⟩
      have B1 := Lib.hid (Below.step ((Below.refl w.heap.size w).alloc (Nat.le_refl _) _) hb1)
      have F1 := Lib.hid ((Fresh.new w _ #[.int .i64 0, .int .u32 0, .int .u8 0] 25 rfl).below hb1)
      clear hb1
      go_wp2_with fail
      refine (C2.out _).mono ?_
      rintro e w2 ⟨rfl, hb2⟩
      have B2 := Lib.hid (Below.step B1.out hb2)
      have F2 := Lib.hid (F1.out.below hb2)
      clear hb2
      go_wp2_with fail
      refine (number_any A ZA.out _ (HE.out.on B2.out)).mono ?_
      rw [NT.out]
      rintro e w3 ⟨rfl, hb3⟩
      have B3 := Lib.hid (Below.step B2.out hb3)
      have F3 := Lib.hid (F2.out.below hb3)
      clear hb3
      go_wp2_with fail
      refine (number_any C ZC.out _ (HE.out.on B3.out)).mono ?_
      rw [NG.out]
      rintro e w4 ⟨rfl, hb4⟩
      have B4 := Lib.hid (Below.step B3.out hb4)
      have F4 := Lib.hid (F3.out.below hb4)
      clear hb4
      go_wp2_with fail
      refine (rights_any D _).mono ?_
      rw [NR.out]
      rintro e w5 ⟨rfl, rfl⟩
      go_wp2_with fail
      refine (right_any t g r _).mono ?_
      rw [HR1.out]
      rintro e w6 ⟨rfl, hb6⟩
      have B6 := Lib.hid (Below.step (Below.new B4.out _) hb6)
      have F6 := Lib.hid ((F4.out.alloc _).below hb6)
      have G6 := Lib.hid ((Fresh.new w5 _ #[.int .i64 t, .int .u32 g, .int .u8 r] 49 rfl).below hb6)
      clear hb6
      have c0 := G6.out.cell 0
      have c1 := G6.out.cell 1
      have c2 := G6.out.cell 2
      simp only [List.getElem?_toArray, List.getElem?_cons_zero, List.getElem?_cons_succ] at c0 c1 c2
      go_wp2_with fail
      refine (text_any t g r HOK.out _ (HT.out.on B6.out)).mono ?_
      rintro e w7 ⟨rfl, hb7⟩
      have B7 := Lib.hid (Below.step B6.out hb7)
      have F7 := Lib.hid (F6.out.below hb7)
      have G7 := Lib.hid (G6.out.below hb7)
      clear hb7 c0 c1 c2
      have c0 := G7.out.cell 0
      have c1 := G7.out.cell 1
      have c2 := G7.out.cell 2
      simp only [List.getElem?_toArray, List.getElem?_cons_zero, List.getElem?_cons_succ] at c0 c1 c2
      have x0 := F7.out.cell 0
      have x1 := F7.out.cell 1
      have x2 := F7.out.cell 2
      simp only [List.getElem?_toArray, List.getElem?_cons_zero, List.getElem?_cons_succ] at x0 x1 x2
      have z0 := F7.out.thawed 0
      have z1 := F7.out.thawed 1
      have z2 := F7.out.thawed 2
      go_wp2_with fail
      have FE := F7.out.set3 (.int .i64 0) (.int .u32 0) (.int .u8 0)
      obtain ⟨WX, hWX⟩ : ∃ WX, WX = (((w7.setCell ⟨w.heap.size, 0, none⟩ (.int .i64 0)).setCell ⟨w.heap.size, 1, none⟩ (.int .u32 0)).setCell ⟨w.heap.size, 2, none⟩ (.int .u8 0)) := ⟨_, rfl⟩
      have BE := below_set3 B7.out (Nat.le_refl _) (.int .i64 0) (.int .u32 0) (.int .u8 0)
      rw [← hWX] at FE BE ⊢
      have y0 := FE.cell 0
      have y1 := FE.cell 1
      have y2 := FE.cell 2
      simp only [List.getElem?_toArray, List.getElem?_cons_zero, List.getElem?_cons_succ] at y0 y1 y2
      exact bodyPost_ret (v := .tuple #[.agg #[.int .i64 0, .int .u32 0, .int .u8 0], .int .i64 7]) (by simp [results, Tryd.results15, go_sem, y0, y1, y2]) rfl ⟨by rw [HV.out]; rfl, BE⟩
  · have HR1 : Hid (rightZ t g r = false) := by show _ = _; rw [HRZ.out]; simpa using hok
    have HV : Hid (readZ s.data.toList = none) := by show _ = _; rw [HZ.out, if_neg (fun h => hok h.1)]
    clear hok
    go_enter Tryd.func15, Tryd.ntmps15
    go_wp2_with fail
    refine (C1.out _).mono ?_
    rintro e w1 ⟨rfl, hb1⟩
    have B1 := Lib.hid (Below.step ((Below.refl w.heap.size w).alloc (Nat.le_refl _) _) hb1)
    have F1 := Lib.hid ((Fresh.new w _ #[.int .i64 0, .int .u32 0, .int .u8 0] 25 rfl).below hb1)
    clear hb1
    go_wp2_with fail
    refine (C2.out _).mono ?_
    rintro e w2 ⟨rfl, hb2⟩
    have B2 := Lib.hid (Below.step B1.out hb2)
    have F2 := Lib.hid (F1.out.below hb2)
    clear hb2
    go_wp2_with fail
    refine (number_any A ZA.out _ (HE.out.on B2.out)).mono ?_
    rw [NT.out]
    rintro e w3 ⟨rfl, hb3⟩
    have B3 := Lib.hid (Below.step B2.out hb3)
    have F3 := Lib.hid (F2.out.below hb3)
    clear hb3
    go_wp2_with fail
    refine (number_any C ZC.out _ (HE.out.on B3.out)).mono ?_
    rw [NG.out]
    rintro e w4 ⟨rfl, hb4⟩
    have B4 := Lib.hid (Below.step B3.out hb4)
    have F4 := Lib.hid (F3.out.below hb4)
    clear hb4
    go_wp2_with fail
    refine (rights_any D _).mono ?_
    rw [NR.out]
    rintro e w5 ⟨rfl, rfl⟩
    go_wp2_with fail
    refine (right_any t g r _).mono ?_
    rw [HR1.out]
    rintro e w6 ⟨rfl, hb6⟩
    have B6 := Lib.hid (Below.step (Below.new B4.out _) hb6)
    have F6 := Lib.hid ((F4.out.alloc _).below hb6)
    have G6 := Lib.hid ((Fresh.new w5 _ #[.int .i64 t, .int .u32 g, .int .u8 r] 49 rfl).below hb6)
    clear hb6
    have c0 := G6.out.cell 0
    have c1 := G6.out.cell 1
    have c2 := G6.out.cell 2
    simp only [List.getElem?_toArray, List.getElem?_cons_zero, List.getElem?_cons_succ] at c0 c1 c2
    have x0 := F6.out.cell 0
    have x1 := F6.out.cell 1
    have x2 := F6.out.cell 2
    simp only [List.getElem?_toArray, List.getElem?_cons_zero, List.getElem?_cons_succ] at x0 x1 x2
    have z0 := F6.out.thawed 0
    have z1 := F6.out.thawed 1
    have z2 := F6.out.thawed 2
    go_wp2_with fail
    have FE := F6.out.set3 (.int .i64 0) (.int .u32 0) (.int .u8 0)
    obtain ⟨WX, hWX⟩ : ∃ WX, WX = (((w6.setCell ⟨w.heap.size, 0, none⟩ (.int .i64 0)).setCell ⟨w.heap.size, 1, none⟩ (.int .u32 0)).setCell ⟨w.heap.size, 2, none⟩ (.int .u8 0)) := ⟨_, rfl⟩
    have BE := below_set3 B6.out (Nat.le_refl _) (.int .i64 0) (.int .u32 0) (.int .u8 0)
    rw [← hWX] at FE BE ⊢
    have y0 := FE.cell 0
    have y1 := FE.cell 1
    have y2 := FE.cell 2
    simp only [List.getElem?_toArray, List.getElem?_cons_zero, List.getElem?_cons_succ] at y0 y1 y2
    exact bodyPost_ret (v := .tuple #[.agg #[.int .i64 0, .int .u32 0, .int .u8 0], .int .i64 7]) (by simp [results, Tryd.results15, go_sem, y0, y1, y2]) rfl ⟨by rw [HV.out]; rfl, BE⟩

end Go.Proofs.YtcfkaginjcgmhaaDoor
