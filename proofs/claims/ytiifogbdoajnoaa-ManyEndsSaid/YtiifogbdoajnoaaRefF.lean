/- The reference's row: Find, Turn, Take, Len, Put, Next, New. -/
import Derived.Test.YtiifogbdoajnoaaRowMany
namespace Go.Proofs.Ytiifogbdoajnoaa
open Go.RowKit
set_option maxRecDepth 100000
set_option maxHeartbeats 2000000

theorem cell_row {W : World} {p : Addr} {v : Value} (h : W.cell? p = some v) {o : Obj} (ho : W.heap[p.block]? = some o) : o.isCells = true := by
  unfold World.cell? at h
  rw [ho] at h
  cases o <;> simp_all [Obj.isCells]
theorem kept_block {W W' : World} {row : Option Nat} {p : Addr} {v : Value} (h : W.cell? p = some v) (hg : W.grownBy W' row) (hr : ∀ r, row = some r → ∃ o : Obj, W.heap[r]? = some o ∧ o.isCells = false) : W'.heap[p.block]? = W.heap[p.block]? := by
  refine hg.block _ (cell_lt h) ?_
  intro e
  obtain ⟨o, ho, hc⟩ := hr _ e.symm
  have := cell_row h ho
  rw [hc] at this
  cases this
/-- A cell behind a stretch of stores. -/
theorem cell_many {W : World} {b o : Nat} {vs : List Value} (h : ∀ j, j < vs.length → (W.cell? ⟨b, o + j, none⟩).isSome = true) (k : Nat) :
    (W.setCells b o vs).cell? ⟨b, k, none⟩ = if o ≤ k ∧ k - o < vs.length then vs[k - o]? else W.cell? ⟨b, k, none⟩ := by
  by_cases hk : o ≤ k ∧ k - o < vs.length
  · rw [if_pos hk]
    have := World.cell?_setCells_in b vs o W h (k - o) hk.2
    rw [show o + (k - o) = k from by omega] at this
    rw [this, List.getElem?_eq_getElem hk.2]
  · rw [if_neg hk]
    exact World.cell?_setCells_out b vs o W _ (fun _ _ => by
      show k < o ∨ o + vs.length ≤ k
      omega)
theorem cell_one {W : World} {b o : Nat} {v : Value} (h : (W.cell? ⟨b, o, none⟩).isSome = true) (k : Nat) :
    (W.setCell ⟨b, o, none⟩ v).cell? ⟨b, k, none⟩ = if k = o then some v else W.cell? ⟨b, k, none⟩ := by
  by_cases hk : k = o
  · subst hk; rw [if_pos rfl]; exact World.cell?_setCell_same' _ _ _ h
  · rw [if_neg hk]; exact World.cell?_setCell_other _ _ _ _ (by intro e; cases e; exact hk rfl)
/-- The reference's row holds the same list: a bit for each byte, and the two numbers of its reference. -/
structure RefAt (W : World) (B : Nat) (l : List En) (room : Int) : Prop where
  room : W.cell? ⟨B, 0, none⟩ = some (.int .i64 room)
  is : ∀ c : UInt8, W.cell? ⟨B, 1 + c.toNat, none⟩ = some (.bool (isIn c l))
  ref : ∀ c : UInt8, ∃ s g : Int, W.cell? ⟨B, 257 + c.toNat * 2, none⟩ = some (.int .i64 s) ∧ W.cell? ⟨B, 257 + c.toNat * 2 + 1, none⟩ = some (.int .u32 g) ∧ (isIn c l = true → atOf c l = (c, s, g))
  thaw : ∀ j, j < 769 → W.frozen? ⟨B, j, none⟩ = false
theorem RefAt.lt {W : World} {B : Nat} {l : List En} {room : Int} (h : RefAt W B l room) : B < W.heap.size := cell_lt h.room
theorem RefAt.same {W W' : World} {B : Nat} {l : List En} {room : Int} (h : RefAt W B l room) (e : W'.heap[B]? = W.heap[B]?) : RefAt W' B l room where
  room := (cell_same (p := ⟨B, 0, none⟩) e).trans h.room
  is c := (cell_same (p := ⟨B, _, none⟩) e).trans (h.is c)
  ref c := by
    obtain ⟨s, g, h1, h2, h3⟩ := h.ref c
    exact ⟨s, g, (cell_same (p := ⟨B, _, none⟩) e).trans h1, (cell_same (p := ⟨B, _, none⟩) e).trans h2, h3⟩
  thaw j hj := (frozen_same (p := ⟨B, j, none⟩) e).trans (h.thaw j hj)
theorem RefAt.below {W W' : World} {B : Nat} {l : List En} {room : Int} (h : RefAt W B l room) (hb : Below W.heap.size W W') : RefAt W' B l room := h.same (hb.block B h.lt)
theorem RefAt.turned {S : List Nat} {W W' : World} {B : Nat} {l : List En} {room : Int} (h : RefAt W B l room) (ht : Turned S W W') (hn : B ∉ S) : RefAt W' B l room := h.same (ht.block B h.lt hn)
theorem RefAt.kept {W W' : World} {row : Option Nat} {B : Nat} {l : List En} {room : Int} (h : RefAt W B l room) (hg : W.grownBy W' row) (hr : ∀ r, row = some r → ∃ o : Obj, W.heap[r]? = some o ∧ o.isCells = false) : RefAt W' B l room := h.same (kept_block h.room hg hr)
theorem refOf_at {b : UInt8} {l : List En} {s g : Int} (h : isIn b l = true) (ha : atOf b l = (b, s, g)) : refOf b l = refV s g := by rw [refOf, if_pos h, ha]

theorem rfind_any {W : World} {B : Nat} {l : List En} {room : Int} (h : RefAt W B l room) (b : UInt8) :
    Calls Try.prog 23 #[.pointer (some ⟨B, 0, none⟩), .int .u8 (b.toNat : Int)] W fun e w' => e = .returned (.tuple #[refOf b l, .bool (isIn b l)]) ∧ Below W.heap.size W w' := by
  obtain ⟨W0, hW0⟩ : ∃ W0, W0 = W.alloc (.cells #[.int .i64 0, .int .u32 0] 35) := ⟨_, rfl⟩
  have hB0 : Below W.heap.size W W0 := by rw [hW0]; exact Below.new (Below.refl _ _) _
  have hbox : Fresh W0 W.heap.size #[.int .i64 0, .int .u32 0] 35 := by rw [hW0]; exact Fresh.new _ _ _ _ rfl
  have h0 := h.below hB0
  have i0 := h0.is b
  obtain ⟨s, g, hs, hg, hat⟩ := h0.ref b
  obtain ⟨c0, c1, f0, f1⟩ := hbox.box2
  have k0 : (0 : Int) ≤ (b.toNat : Int) := Int.natCast_nonneg _
  have k1 : (b.toNat : Int) < 256 := by have := b.toNat_lt; omega
  have k2 : b.toNat < 256 := b.toNat_lt
  have HW0 := Lib.hid hW0
  have HB0 := Lib.hid hB0
  have HBX := Lib.hid hbox
  have HA := Lib.hid hat
  obtain ⟨u, hu⟩ : ∃ u, isIn b l = u := ⟨_, rfl⟩
  have HU := Lib.hid hu
  rw [hu] at i0
  clear hW0 hB0 hbox h0 h hat hu
  rw [HU.out]
  have FIN : ∀ (s' g' : Int) (u' : Bool), refOf b l = refV s' g' → isIn b l = u' → ∀ (W3 : World), W3 = (W0.setCell ⟨W.heap.size, 0, none⟩ (.int .i64 s')).setCell ⟨W.heap.size, 1, none⟩ (.int .u32 g') → Below W.heap.size W W3 ∧ Fresh W3 W.heap.size #[.int .i64 s', .int .u32 g'] 35 := by
    intro s' g' u' _ _ W3 hW3
    rw [hW3]
    exact ⟨(HB0.out.setCell (Nat.le_refl _) _).setCell (Nat.le_refl _) _, (HBX.out.set 0 _).set 1 _⟩
  have FIN := Lib.hid FIN
  cases u
  · have hV : refOf b l = refV 0 0 := by rw [refOf, HU.out, if_neg (by simp)]
    rw [hV]
    have HV := Lib.hid hV
    clear hV
    go_enter Try.func23, Try.ntmps23
    go_wp2_with (rw [← HW0.out])
    obtain ⟨W3, hW3⟩ : ∃ W3, W3 = (W0.setCell ⟨W.heap.size, 0, none⟩ (.int .i64 0)).setCell ⟨W.heap.size, 1, none⟩ (.int .u32 0) := ⟨_, rfl⟩
    obtain ⟨B3, F3⟩ := FIN.out 0 0 false HV.out HU.out W3 hW3
    obtain ⟨g0, g1, _, _⟩ := F3.box2
    rw [← hW3]
    clear hW3 F3
    refine bodyPost_ret (v := .tuple #[refV 0 0, .bool false]) ?_ rfl ⟨rfl, B3⟩
    rw [results_cell_tmp rfl]
    go_simp
  · have hV : refOf b l = refV s g := refOf_at HU.out (HA.out HU.out)
    rw [hV]
    have HV := Lib.hid hV
    clear hV
    go_enter Try.func23, Try.ntmps23
    go_wp2_with (rw [← HW0.out])
    obtain ⟨W3, hW3⟩ : ∃ W3, W3 = (W0.setCell ⟨W.heap.size, 0, none⟩ (.int .i64 s)).setCell ⟨W.heap.size, 1, none⟩ (.int .u32 g) := ⟨_, rfl⟩
    obtain ⟨B3, F3⟩ := FIN.out s g true HV.out HU.out W3 hW3
    obtain ⟨g0, g1, _, _⟩ := F3.box2
    rw [← hW3]
    clear hW3 F3
    refine bodyPost_ret (v := .tuple #[refV s g, .bool true]) ?_ rfl ⟨rfl, B3⟩
    rw [results_cell_tmp rfl]
    go_simp

/-- The first place at a number or behind it. -/
def upTo (i : Nat) (l : List En) : Nat := firstIx (fun c => decide (i ≤ c.toNat)) l
theorem upTo_zero (l : List En) : upTo 0 l = 0 := by
  cases l with
  | nil => rfl
  | cons x l => simp [upTo, firstIx, List.findIdx_cons]
theorem upTo_all (i : Nat) (hi : 256 ≤ i) (l : List En) : upTo i l = l.length :=
  firstIx_none _ _ fun j hj => decide_eq_false (by have := l[j].1.toNat_lt; omega)
theorem upTo_next (c : UInt8) {l : List En} (hs : Srt l) : upTo (c.toNat + 1) l = if isIn c l = true then upTo c.toNat l + 1 else upTo c.toNat l := by
  obtain ⟨h1, h2⟩ := place_split c l hs
  show _ = if isIn c l = true then placeIx c l + 1 else placeIx c l
  have hle : placeIx c l ≤ l.length := firstIx_le _ _
  cases hi : isIn c l
  · rw [if_neg (by simp)]
    have hne : ∀ j (h : j < l.length), l[j].1.toNat ≠ c.toNat := fun j h e => by
      have := (isIn_iff hs).2 ⟨l[j], List.getElem_mem h, UInt8.toNat_inj.1 e⟩
      rw [hi] at this; cases this
    rcases Nat.lt_or_eq_of_le hle with hlt | heq
    · exact firstIx_eq _ _ _ hlt (decide_eq_true (by have := h2 _ hlt (Nat.le_refl _); have := hne _ hlt; omega)) (fun j hj => decide_eq_false (by have := h1 j (by omega) hj; omega))
    · rw [heq]; exact firstIx_none _ _ fun j hj => decide_eq_false (by have := h1 j hj (by omega); omega)
  · rw [if_pos rfl]
    obtain ⟨s, g, ha, _⟩ := isIn_at hi
    obtain ⟨hlt, hge⟩ := List.getElem?_eq_some_iff.1 ha
    have low : ∀ j (hj : j < l.length), j < placeIx c l + 1 → l[j].1.toNat ≤ c.toNat := fun j hj h => by
      rcases Nat.lt_or_ge j (placeIx c l) with h3 | h3
      · exact Nat.le_of_lt (h1 j hj h3)
      · have : j = placeIx c l := by omega
        subst this
        rw [hge]; exact Nat.le_refl _
    rcases Nat.lt_or_ge (placeIx c l + 1) l.length with h3 | h3
    · refine firstIx_eq _ _ _ h3 (decide_eq_true ?_) (fun j hj => decide_eq_false (by have := low j (by omega) hj; omega))
      have := List.pairwise_iff_getElem.1 hs _ _ hlt h3 (Nat.lt_succ_self _)
      rw [hge] at this
      exact this
    · have : placeIx c l + 1 = l.length := by omega
      rw [this]; exact firstIx_none _ _ fun j hj => decide_eq_false (by have := low j hj (by omega); omega)
theorem byte_of {i : Nat} (h : i < 256) : ∃ c : UInt8, i = c.toNat := ⟨UInt8.ofNat i, by simp [Nat.mod_eq_of_lt h]⟩

theorem rlen_any {W : World} {B : Nat} {l : List En} {room : Int} (h : RefAt W B l room) (hs : Srt l) (hl : l.length ≤ 256) :
    Calls Try.prog 28 #[.pointer (some ⟨B, 0, none⟩)] W fun e w' => e = .returned (.int .i64 (l.length : Int)) ∧ Below W.heap.size W w' := by
  have H := Lib.hid h
  have HS := Lib.hid hs
  have HL := Lib.hid hl
  clear h hs hl
  go_enter Try.func28, Try.ntmps28
  go_wp2_with fail
  go_loopw [3, 4] (fun n b wr => ∃ i m : Nat, i ≤ 256 ∧ m = upTo i l ∧ m ≤ 256 ∧ n = .int .i64 (m : Int) ∧ b = .int .i64 (i : Int) ∧ Below W.heap.size W wr) (fun _ b _ => 256 - (intOf b).toNat)
  case atStart => exact ⟨0, 0, by omega, (upTo_zero l).symm, by omega, rfl, rfl, Below.refl _ _⟩
  case round =>
    obtain ⟨i, m, hi, hm, hm2, rfl, rfl, hB⟩ := hrel
    have HB := Lib.hid hB
    have HM := Lib.hid hm
    clear hB hm
    by_cases hlt : i < 256
    · obtain ⟨c, rfl⟩ := byte_of hlt
      have il : (c.toNat : Int) < 256 := by omega
      have i0 : (0 : Int) ≤ (c.toNat : Int) := by omega
      have m0 : (0 : Int) ≤ (m : Int) := by omega
      have m1 : (m : Int) ≤ 256 := by omega
      have hc := (H.out.below HB.out).is c
      have hN := upTo_next c HS.out
      have hle : upTo (c.toNat + 1) l ≤ l.length := firstIx_le _ _
      obtain ⟨u, hu⟩ : ∃ u, isIn c l = u := ⟨_, rfl⟩
      rw [hu] at hc hN
      rw [← HM.out] at hN
      have HN := Lib.hid (And.intro hN hle)
      clear hu hN hle hi hm2
      cases u
      · go_wp2_with fail
        go_roundw
        case rel => exact ⟨c.toNat + 1, m, by omega, by have := HN.out.1; rw [if_neg (by simp)] at this; exact this.symm, by omega, by first | rfl | go_num, by go_num, HB.out⟩
        case measure => simp [intOf] <;> omega
      · go_wp2_with fail
        go_roundw
        case rel => exact ⟨c.toNat + 1, m + 1, by omega, by have := HN.out.1; rw [if_pos rfl] at this; exact this.symm, by have := HN.out; rw [if_pos rfl] at this; have := HL.out; omega, by first | rfl | go_num, by go_num, HB.out⟩
        case measure => simp [intOf] <;> omega
    · obtain rfl : i = 256 := by omega
      have HX := Lib.hid (HM.out.trans (upTo_all 256 (Nat.le_refl _) l))
      go_wp2_with fail
      go_ret
      exact ⟨by rw [HX.out]; rfl, HB.out⟩
end Go.Proofs.Ytiifogbdoajnoaa
