/- The reference model of a table: Check, Begin, Held. -/
import Derived.Test.YthhmbmeajgjhcaaRat
namespace Go.Proofs.Ythhmbmeajgjhcaa
open Go.RowKit
set_option maxRecDepth 100000
set_option maxHeartbeats 4000000

/-- A call's box of a reference, made. -/
structure RBox (W W1 : World) (B r : Nat) (l : List Wd) (t : Int) (x g : Int) : Prop where
  is : W1 = W.alloc (.cells #[.int .i64 x, .int .u32 g] 33)
  low : Below W.heap.size W W1
  box : Fresh W1 W.heap.size #[.int .i64 x, .int .u32 g] 33
  at' : RAt W1 B r l t
theorem RAt.boxed {W : World} {B r : Nat} {l : List Wd} {t : Int} (h : RAt W B r l t) (x g : Int) : ∃ W1, RBox W W1 B r l t x g :=
  ⟨_, rfl, Below.new (Below.refl _ _) _, Fresh.new _ _ _ _ rfl, h.below (Below.new (Below.refl _ _) _)⟩
theorem RBox.ref {W W1 : World} {B r : Nat} {l : List Wd} {t x g : Int} (h : RBox W W1 B r l t x g) : W1.cell? ⟨W.heap.size, 0, none⟩ = some (.int .i64 x) ∧ W1.cell? ⟨W.heap.size, 1, none⟩ = some (.int .u32 g) := ⟨h.box.cell 0, h.box.cell 1⟩

theorem rcheck_any {W : World} {B r : Nat} {l : List Wd} {t : Int} (h : RAt W B r l t) (ho : ∀ u ∈ l, RefOk u.s u.g) (hl : l.length ≤ 1000000) (x g w : Int) (hr : RefOk x g) :
    Calls Try.prog 31 #[.pointer (some ⟨r, 0, none⟩), refV x g, .int .u64 w] W fun e w' => e = .returned (.bool ((getW l x g).isSome && (zeroW (getW l x g) == w))) ∧ Below W.heap.size W w' := by
  obtain ⟨W1, hx⟩ := h.boxed x g
  have HA : Hid (∀ W', Below W1.heap.size W1 W' → Calls Try.prog 43 #[.pointer (some ⟨r, 0, none⟩), refV x g] W' fun e w' => e = .returned (.int .i64 (atN l x g)) ∧ Below W'.heap.size W' w') := fun W' hb => rat_any (hx.at'.below hb) ho hl x g hr
  have HX := Lib.hid hx
  have HW := Lib.hid hx.is
  have HL := Lib.hid hl
  obtain ⟨aR, cR, aW, cW, lc, lw, hv⟩ := hx.at'.reads
  have HV := Lib.hid hv
  obtain ⟨r0, r1⟩ := hx.ref
  clear h ho hr hx hv
  rcases at_get x g l with ⟨e1, e2⟩ | ⟨j, u, hj, e1, e2⟩
  · rw [e2] at HA
    rw [e1]
    clear e1 e2
    go_enter Try.func31, Try.ntmps31
    go_upto_region 1 with fail
    rw [← HW.out]
    go_wp2_with fail
    refine (HA.out _ (Below.refl _ _)).mono ?_
    rintro e w2 ⟨rfl, hb2⟩
    have H2 := Lib.hid hb2
    clear hb2 r0 r1
    go_wp2_with fail
    go_ret
    exact ⟨rfl, Below.step HX.out.low H2.out⟩
  · rw [e2] at HA
    rw [e1]
    have hlt : j < l.length := (List.getElem?_eq_some_iff.1 hj).1
    have q0 : (0 : Int) ≤ (j : Int) := Int.natCast_nonneg _
    have q1 : (j : Int) < (l.length : Int) := by omega
    have q3 : decide (j < l.length) = true := decide_eq_true hlt
    obtain ⟨us, ug, uw⟩ := u
    have HJ := Lib.hid hj
    clear e1 e2 hj
    go_enter Try.func31, Try.ntmps31
    go_upto_region 1 with fail
    rw [← HW.out]
    go_wp2_with fail
    refine (HA.out _ (Below.refl _ _)).mono ?_
    rintro e w2 ⟨rfl, hb2⟩
    have H2 := Lib.hid hb2
    clear hb2 r0 r1
    obtain ⟨hf, hc⟩ := HV.out _ H2.out
    obtain ⟨q, k, rfl, rfl, _, hk, _, _, e0⟩ := hc j _ HJ.out
    have c1 := hf.cell 1
    simp only [List.getElem?_toArray, List.getElem?_cons_zero, List.getElem?_cons_succ] at c1
    dsimp only at e0
    clear hf hc hk
    go_wp2_with fail
    go_ret
    exact ⟨by simp [zeroW], Below.step HX.out.low H2.out⟩

theorem rbegin_any {W : World} {B r : Nat} {l : List Wd} {t : Int} (h : RAt W B r l t) (ho : ∀ u ∈ l, RefOk u.s u.g) (hw : ∀ u ∈ l, W64 u.w) (hl : l.length ≤ 1000000) (x g : Int) (hr : RefOk x g) :
    Calls Try.prog 29 #[.pointer (some ⟨r, 0, none⟩), refV x g] W fun e w' => e = .returned (.tuple #[.int .u64 (zeroW (getW l x g)), .int .i64 (stOf (getW l x g))]) ∧ Below W.heap.size W w' := by
  obtain ⟨W1, hx⟩ := h.boxed x g
  have HA : Hid (∀ W', Below W1.heap.size W1 W' → Calls Try.prog 43 #[.pointer (some ⟨r, 0, none⟩), refV x g] W' fun e w' => e = .returned (.int .i64 (atN l x g)) ∧ Below W'.heap.size W' w') := fun W' hb => rat_any (hx.at'.below hb) ho hl x g hr
  have HX := Lib.hid hx
  have HW := Lib.hid hx.is
  have HL := Lib.hid hl
  obtain ⟨aR, cR, aW, cW, lc, lw, hv⟩ := hx.at'.reads
  have HV := Lib.hid hv
  obtain ⟨r0, r1⟩ := hx.ref
  clear h ho hr hx hv
  rcases at_get x g l with ⟨e1, e2⟩ | ⟨j, u, hj, e1, e2⟩
  · rw [e2] at HA
    rw [e1]
    clear e1 e2 hw
    go_enter Try.func29, Try.ntmps29
    go_upto_region 1 with fail
    rw [← HW.out]
    go_wp2_with fail
    refine (HA.out _ (Below.refl _ _)).mono ?_
    rintro e w2 ⟨rfl, hb2⟩
    have H2 := Lib.hid hb2
    clear hb2 r0 r1
    go_wp2_with fail
    go_ret2
    exact ⟨rfl, Below.step HX.out.low H2.out⟩
  · rw [e2] at HA
    rw [e1]
    have hlt : j < l.length := (List.getElem?_eq_some_iff.1 hj).1
    have h64 := hw u (List.mem_of_getElem? hj)
    have q0 : (0 : Int) ≤ (j : Int) := Int.natCast_nonneg _
    have q1 : (j : Int) < (l.length : Int) := by omega
    have q3 : decide (j < l.length) = true := decide_eq_true hlt
    obtain ⟨us, ug, uw⟩ := u
    have HJ := Lib.hid hj
    dsimp only at h64
    have H64 := Lib.hid h64
    have HS : Hid (stOf (some ⟨us, ug, uw⟩) = if (uw / 2 % 2 == 1) = true then 2 else if (uw % 2 == 1) = true then 1 else 0) := by
      show stN uw = _
      unfold stN
      have a1 : (uw / 2 % 2 != 0) = (uw / 2 % 2 == 1) := by rw [Bool.eq_iff_iff]; simp; omega
      have a2 : (uw % 2 != 0) = (uw % 2 == 1) := by rw [Bool.eq_iff_iff]; simp; omega
      rw [a1, a2]
    have HZ : Hid (zeroW (some ⟨us, ug, uw⟩) = uw) := rfl
    rw [HS.out, HZ.out]
    have HOf := Lib.hid (fun W => ofR_any uw W H64.out)
    obtain ⟨d, hd⟩ : ∃ d, (uw / 2 % 2 == 1) = d := ⟨_, rfl⟩
    obtain ⟨c, hc⟩ : ∃ c, (uw % 2 == 1) = c := ⟨_, rfl⟩
    obtain ⟨v, hv⟩ : ∃ v, uw / 4 = v := ⟨_, rfl⟩
    rw [hd, hc, hv] at HOf
    rw [hd, hc]
    clear e1 e2 hj h64 hw hd hc hv HS HZ
    cases d <;> cases c
    all_goals
      go_enter Try.func29, Try.ntmps29
      go_upto_region 1 with fail
      rw [← HW.out]
      go_wp2_with fail
      refine (HA.out _ (Below.refl _ _)).mono ?_
      rintro e w2 ⟨rfl, hb2⟩
      have H2 := Lib.hid hb2
      clear hb2 r0 r1
      obtain ⟨hf, hc⟩ := HV.out _ H2.out
      obtain ⟨q, k, rfl, rfl, _, hk, _, _, e0⟩ := hc j _ HJ.out
      have c1 := hf.cell 1
      simp only [List.getElem?_toArray, List.getElem?_cons_zero, List.getElem?_cons_succ] at c1
      dsimp only at e0
      clear hf hc hk
      go_wp2_with fail
      refine (HOf.out _).mono ?_
      rintro e w3 ⟨rfl, hb3⟩
      have H3 := Lib.hid (Below.step H2.out hb3)
      clear hb3 c1 e0
      obtain ⟨hf, hc⟩ := HV.out _ H3.out
      obtain ⟨q', k', e1, e2, _, hk, _, _, e0⟩ := hc j _ HJ.out
      cases e1
      cases e2
      have c1 := hf.cell 1
      simp only [List.getElem?_toArray, List.getElem?_cons_zero, List.getElem?_cons_succ] at c1
      dsimp only at e0
      have hrlt := hf.lt
      clear hf hc
      go_wp2_with fail
      go_ret2
      exact ⟨rfl, Below.new (Below.step HX.out.low H3.out) _⟩

theorem sumH_take (l : List Wd) (i : Nat) (u : Wd) (h : l[i]? = some u) : sumH (l.take (i + 1)) = sumH (l.take i) + heldN u.w := by
  rw [List.take_add_one, h, sumH_append]
  simp [sumH]
theorem rheld_any {W : World} {B r : Nat} {l : List Wd} {t : Int} (h : RAt W B r l t) (hw : ∀ u ∈ l, W64 u.w) (hl : l.length ≤ 1000000) :
    Calls Try.prog 32 #[.pointer (some ⟨r, 0, none⟩)] W fun e w' => e = .returned (.int .i64 (sumH l)) ∧ Below W.heap.size W w' := by
  obtain ⟨aR, cR, aW, cW, lc, lw, hv⟩ := h.reads
  have HV := Lib.hid hv
  have HL := Lib.hid hl
  have H64 := Lib.hid hw
  clear h hv hw
  go_enter Try.func32, Try.ntmps32
  go_wp2_with fail
  go_loopw [3, 4] (fun nv it wr => ∃ i : Nat, i ≤ l.length ∧ it = .int .i64 i ∧ nv = .int .i64 (sumH (l.take i)) ∧ SameB W wr) (fun _ it _ => l.length - (intOf it).toNat)
  case atStart => exact ⟨0, by omega, rfl, by simp [sumH], Below.refl _ _⟩
  case round =>
    obtain ⟨i, hi, rfl, rfl, hB⟩ := hrel
    have HS := Lib.hid (show Below W.heap.size W wr from hB)
    have hb := sumH_le (l.take i)
    rw [List.length_take] at hb
    obtain ⟨hf, hc⟩ := HV.out _ HS.out
    have c1 := hf.cell 1
    simp only [List.getElem?_toArray, List.getElem?_cons_zero, List.getElem?_cons_succ] at c1
    clear hB
    by_cases hlt : i < l.length
    · obtain ⟨u, hu⟩ : ∃ u, l[i]? = some u := ⟨l[i], List.getElem?_eq_getElem hlt⟩
      obtain ⟨q, k, rfl, rfl, _, hk, _, _, e0⟩ := hc i u hu
      have h64 := H64.out u (List.mem_of_getElem? hu)
      have HT := Lib.hid (sumH_take l i u hu)
      have q1 : (i : Int) < (l.length : Int) := by omega
      have q2 : (l.length : Int) ≤ (cW : Int) := by omega
      have q0 : (0 : Int) ≤ (i : Int) := Int.natCast_nonneg _
      have q3 : decide (i < l.length) = true := decide_eq_true hlt
      have HI : Hid (i < l.length) := hlt
      obtain ⟨us, ug, uw⟩ := u
      dsimp only at e0 h64 HT
      obtain ⟨n, hn⟩ : ∃ n, sumH (l.take i) = n := ⟨_, rfl⟩
      rw [hn] at hb HT ⊢
      have kw : IntKind.i64.wrap (n + 1) = n + 1 := IntWalk.i64_in _ (by omega)
      have HK : Hid (heldN uw = if ((uw % 2 == 1) && !(uw / 2 % 2 == 1)) = true then 1 else 0) := by
        show heldN uw = _
        unfold heldN
        have : (uw % 4 = 1) ↔ ((uw % 2 == 1) && !(uw / 2 % 2 == 1)) = true := by simp; omega
        by_cases h4 : uw % 4 = 1
        · rw [if_pos h4, if_pos (this.1 h4)]
        · rw [if_neg h4, if_neg (fun e => h4 (this.2 e))]
      rw [HK.out] at HT
      have HOf := Lib.hid (fun W => ofR_any uw W h64)
      obtain ⟨d, hd⟩ : ∃ d, (uw / 2 % 2 == 1) = d := ⟨_, rfl⟩
      obtain ⟨c, hcc⟩ : ∃ c, (uw % 2 == 1) = c := ⟨_, rfl⟩
      obtain ⟨v, hv⟩ : ∃ v, uw / 4 = v := ⟨_, rfl⟩
      rw [hd, hcc, hv] at HOf
      rw [hd, hcc] at HT
      clear hu h64 hb hn hd hcc hv hlt hi HK hf hc hk
      cases d <;> cases c
      all_goals
        go_wp2_with fail
        refine (HOf.out _).mono ?_
        rintro e w3 ⟨rfl, hb3⟩
        have H3 := Lib.hid (Below.step HS.out hb3)
        clear hb3 c1 e0
        go_wp2_with fail
        go_roundw
        case rel => exact ⟨i + 1, HI.out, by go_num, by rw [HT.out]; simp, Below.new H3.out _⟩
        case measure => have := HI.out; simp [intOf]; omega
    · obtain rfl : i = l.length := by omega
      rw [List.take_of_length_le (Nat.le_refl _)]
      clear hlt hi hb
      go_wp2_with fail
      go_ret
      exact ⟨rfl, HS.out⟩
end Go.Proofs.Ythhmbmeajgjhcaa
