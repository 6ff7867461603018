/- A book: Get, Put, Delete, Swap. -/
import Derived.Test.YtcpmnkihhenbgaaBook
namespace Go.Proofs.Ytcpmnkihhenbgaa
open Go.RowKit
set_option maxRecDepth 1000000
set_option maxHeartbeats 4000000

/-- What Get gives. -/
def getB (x : ByteArray) (l : List Pr) : ByteArray × Int := if x.size ≤ 16 then (match getT l x with | some t => (t.2, 0) | none => (⟨#[]⟩, 5)) else (⟨#[]⟩, 2)
theorem errV_nil (x : ByteArray) : errV x [] = if x.size ≤ 16 then 0 else 2 := by simp [errV, fitS]
theorem BookAt.cells {W : World} {p q e m : Nat} {l : List Pr} {K B : Nat} (h : BookAt W p q e m l K B) :
    W.cell? ⟨p, 0, none⟩ = some (.pointer (some ⟨q, 0, none⟩)) ∧ W.cell? ⟨q, 1, none⟩ = some (.map (some m)) := by
  obtain ⟨v, hv⟩ := h.st
  exact ⟨h.ptr.cell 0, hv.cells.2.1⟩
theorem BookAt.look {W : World} {p q e m : Nat} {l : List Pr} {K B : Nat} (h : BookAt W p q e m l K B) (x : ByteArray) : (Instr.lookup 68 (.map (some m)) (.string x) true).run Try.prog W = .ok (seeV (getT l x)) W := by
  obtain ⟨v, hv⟩ := h.st
  exact hv.look x
theorem get_any {W : World} {p q e m : Nat} {l : List Pr} {K B : Nat} (h : BookAt W p q e m l K B) (x : ByteArray) :
    Calls Try.prog 28 #[.pointer (some ⟨p, 0, none⟩), .string x] W fun e' w' => e' = .returned (.tuple #[.string (getB x l).1, .int .i64 (getB x l).2]) ∧ Below W.heap.size W w' := by
  have HE := Lib.hid (errno_any h x (RowS.nil W q) h.lt.2.1 (by simp))
  have HH := Lib.hid h
  rw [errV_nil] at HE
  clear h
  unfold getB
  by_cases hx : x.size ≤ 16
  · rw [if_pos hx] at HE ⊢
    cases hg : getT l x with
    | none =>
      go_enter Try.func28, Try.ntmps28
      go_wp2_with (go_at_call 38; refine HE.out.mono ?_; rintro e1 w1 ⟨rfl, hb1⟩; have H1 := HH.out.below hb1; obtain ⟨k0, k1⟩ := H1.cells; have hl := H1.look x; rw [hg] at hl; simp only [seeV] at hl; have HB := Lib.hid hb1; clear H1 hb1)
      go_ret2
      exact ⟨rfl, HB.out⟩
    | some t =>
      go_enter Try.func28, Try.ntmps28
      go_wp2_with (go_at_call 38; refine HE.out.mono ?_; rintro e1 w1 ⟨rfl, hb1⟩; have H1 := HH.out.below hb1; obtain ⟨k0, k1⟩ := H1.cells; have hl := H1.look x; rw [hg] at hl; simp only [seeV] at hl; have HB := Lib.hid hb1; clear H1 hb1)
      go_ret2
      exact ⟨rfl, HB.out⟩
  · rw [if_neg hx] at HE ⊢
    go_enter Try.func28, Try.ntmps28
    go_wp2_with (go_at_call 38; refine HE.out.mono ?_; rintro e1 w1 ⟨rfl, hb1⟩; have HB := Lib.hid hb1; clear hb1)
    go_ret2
    exact ⟨rfl, HB.out⟩

/-- What Put makes of the pairs, and what it answers. -/
def putB (x y : ByteArray) (l : List Pr) (K B : Nat) : List Pr × Int :=
  if x.size ≤ 16 ∧ y.size ≤ 32 then (if (putP x y l).length ≤ K ∧ lenP (putP x y l) ≤ B then (putP x y l, 0) else (l, 10)) else (l, 2)
def delB (x : ByteArray) (l : List Pr) : List Pr × Int := if (getB x l).2 = 0 then (dropP x l, 0) else (l, (getB x l).2)
def swapB (x o y : ByteArray) (l : List Pr) (K B : Nat) : List Pr × Int :=
  if x.size ≤ 16 ∧ o.size ≤ 32 ∧ y.size ≤ 32 then (if (getB x l).2 = 0 then (if (getB x l).1 = o then putB x y l K B else (l, 9)) else (l, (getB x l).2)) else (l, 2)
/-- A book that has turned. -/
structure Went (W W' : World) (p q e e2 m : Nat) (l : List Pr) (K B : Nat) : Prop where
  new : e2 = e ∨ W.heap.size ≤ e2
  turned : Turned [q, e, m] W W'
  bk : BookAt W' p q e2 m l K B
theorem Went.refl {W W' : World} {p q e m : Nat} {l : List Pr} {K B : Nat} (h : BookAt W p q e m l K B) (hb : Below W.heap.size W W') : Went W W' p q e e m l K B := ⟨.inl rfl, .of_below hb, h.below hb⟩
theorem Went.after {W W1 W' : World} {p q e e2 m : Nat} {l : List Pr} {K B : Nat} (hb : Below W.heap.size W W1) (h : Went W1 W' p q e e2 m l K B) : Went W W' p q e e2 m l K B :=
  ⟨h.new.imp id (fun x => Nat.le_trans hb.size x), (Turned.of_below hb).trans h.turned, h.bk⟩
theorem errV_one (x y : ByteArray) : errV x [y] = if x.size ≤ 16 ∧ y.size ≤ 32 then 0 else 2 := by
  have : ((y.size : Int) ≤ 32) ↔ y.size ≤ 32 := by omega
  simp [errV, fitS, this]
theorem errV_two (x o y : ByteArray) : errV x [o, y] = if x.size ≤ 16 ∧ o.size ≤ 32 ∧ y.size ≤ 32 then 0 else 2 := by
  have : ((y.size : Int) ≤ 32) ↔ y.size ≤ 32 := by omega
  have : ((o.size : Int) ≤ 32) ↔ o.size ≤ 32 := by omega
  simp [errV, fitS, *]
theorem put_any {W : World} {p q e m : Nat} {l : List Pr} {K B : Nat} (h : BookAt W p q e m l K B) (hn : l.length < 100000) (x y : ByteArray) :
    Calls Try.prog 31 #[.pointer (some ⟨p, 0, none⟩), .string x, .string y] W fun e' w' => e' = .returned (.int .i64 (putB x y l K B).2) ∧ ∃ e2, Went W w' p q e e2 m (putB x y l K B).1 K B := by
  obtain ⟨W1, hW1⟩ : ∃ W1, W1 = W.alloc (.cells #[.string y] 9) := ⟨_, rfl⟩
  have B1 : Hid (Below W.heap.size W W1) := by show Below _ _ _; rw [hW1]; exact Below.new (Below.refl _ _) _
  have HE : Hid (Calls Try.prog 38 #[.pointer (some ⟨p, 0, none⟩), .string x, .slice (some ⟨W.heap.size, 0, none⟩) 1 1] W1 fun e' w' => e' = .returned (.int .i64 (if x.size ≤ 16 ∧ y.size ≤ 32 then 0 else 2)) ∧ Below W1.heap.size W1 w') := by
    have hf : Fresh W1 W.heap.size (strs [y]).toArray 9 := by rw [hW1]; exact Fresh.new _ _ _ _ rfl
    have := errno_any (h.below B1.out) x (RowS.lit hf (by simp)) hf.lt (by simp)
    rw [errV_one] at this
    exact this
  have HH := Lib.hid (h.below B1.out)
  have HW := Lib.hid h
  have HQ := Lib.hid hW1
  clear h hW1
  unfold putB
  by_cases hx : x.size ≤ 16 ∧ y.size ≤ 32
  · rw [if_pos hx] at HE ⊢
    have HX := Lib.hid hx
    clear hx
    by_cases hf : (putP x y l).length ≤ K ∧ lenP (putP x y l) ≤ B
    · rw [if_pos hf]
      have HF := Lib.hid hf
      clear hf
      go_enter Try.func31, Try.ntmps31
      go_wp2_with (first
        | (go_at_call 38; rw [← HQ.out]; refine HE.out.mono ?_; rintro e1 w1 ⟨rfl, hb1⟩; have H1 := HH.out.below hb1; have k0 := H1.cells.1; have HB := Lib.hid (Below.step B1.out hb1); obtain ⟨v, hs1⟩ := H1.st; have S1 := Lib.hid hs1; have P1 := Lib.hid H1.ptr; clear H1 hb1 hs1)
        | (go_at_call 48; refine (fits_any S1.out hn x y HX.out.1 HX.out.2).mono ?_; rw [decide_eq_true HF.out]; rintro e2 w2 ⟨rfl, hb2⟩; have S2 := Lib.hid (S1.out.below hb2); have P2 := Lib.hid (P1.out.below hb2); have k2 := P2.out.cell 0; simp only [List.getElem?_toArray, List.getElem?_cons_zero] at k2; have HB2 := Lib.hid (Below.step HB.out hb2); clear hb2)
        | (go_at_call 49; refine (set_any S2.out hn x y HX.out.1 HX.out.2).mono ?_; rintro e3 w3 ⟨⟨u3, rfl⟩, v3, g3, hg3, ht3, hs3⟩; have P3 := Lib.hid (ht3.other P2.out (S2.out.p P2.out)); have T3 := Lib.hid ht3; have S3 := Lib.hid hs3; have G3 := Lib.hid hg3; clear hg3 ht3 hs3))
      go_ret
      exact ⟨rfl, g3, Went.after HB2.out ⟨G3.out, T3.out, P3.out, v3, S3.out⟩⟩
    · rw [if_neg hf]
      have HF := Lib.hid hf
      clear hf
      go_enter Try.func31, Try.ntmps31
      go_wp2_with (first
        | (go_at_call 38; rw [← HQ.out]; refine HE.out.mono ?_; rintro e1 w1 ⟨rfl, hb1⟩; have H1 := HH.out.below hb1; have k0 := H1.cells.1; have HB := Lib.hid (Below.step B1.out hb1); obtain ⟨v, hs1⟩ := H1.st; have S1 := Lib.hid hs1; clear H1 hb1 hs1)
        | (go_at_call 48; refine (fits_any S1.out hn x y HX.out.1 HX.out.2).mono ?_; rw [decide_eq_false HF.out]; rintro e2 w2 ⟨rfl, hb2⟩; have HB2 := Lib.hid (Below.step HB.out hb2); clear hb2))
      go_ret
      exact ⟨rfl, e, Went.refl HW.out HB2.out⟩
  · rw [if_neg hx] at HE ⊢
    clear hx
    go_enter Try.func31, Try.ntmps31
    go_wp2_with (go_at_call 38; rw [← HQ.out]; refine HE.out.mono ?_; rintro e1 w1 ⟨rfl, hb1⟩; have HB := Lib.hid (Below.step B1.out hb1); clear hb1)
    go_ret
    exact ⟨rfl, e, Went.refl HW.out HB.out⟩
theorem delete_book {W : World} {p q e m : Nat} {l : List Pr} {K B : Nat} (h : BookAt W p q e m l K B) (hn : l.length < 100000) (x : ByteArray) :
    Calls Try.prog 29 #[.pointer (some ⟨p, 0, none⟩), .string x] W fun e' w' => e' = .returned (.int .i64 (delB x l).2) ∧ ∃ e2, Went W w' p q e e2 m (delB x l).1 K B := by
  have HG := Lib.hid (get_any h x)
  have HH := Lib.hid h
  clear h
  unfold delB
  obtain ⟨r, hr⟩ : ∃ r, getB x l = r := ⟨_, rfl⟩
  obtain ⟨r1, r2⟩ := r
  rw [hr] at HG ⊢
  by_cases hz : r2 = 0
  · subst hz
    rw [if_pos rfl]
    go_enter Try.func29, Try.ntmps29
    go_wp2_with (first
      | (go_at_call 28; refine HG.out.mono ?_; rintro e1 w1 ⟨rfl, hb1⟩; have H1 := HH.out.below hb1; have k0 := H1.cells.1; have HB := Lib.hid hb1; obtain ⟨v, hs1⟩ := H1.st; have S1 := Lib.hid hs1; have P1 := Lib.hid H1.ptr; clear H1 hb1 hs1)
      | (go_at_call 47; refine (unset_any S1.out hn x).mono ?_; rintro e3 w3 ⟨⟨u3, rfl⟩, v3, ht3, hs3⟩; have P3 := Lib.hid (ht3.other P1.out (S1.out.p P1.out)); have T3 := Lib.hid ht3; have S3 := Lib.hid hs3; clear ht3 hs3))
    go_ret
    exact ⟨rfl, e, Went.after HB.out ⟨.inl rfl, T3.out, P3.out, v3, S3.out⟩⟩
  · rw [if_neg hz]
    go_enter Try.func29, Try.ntmps29
    go_wp2_with (first
      | (go_at_call 28; refine HG.out.mono ?_; rintro e1 w1 ⟨rfl, hb1⟩; have HB := Lib.hid hb1; clear hb1))
    go_ret
    exact ⟨rfl, e, Went.refl HH.out HB.out⟩
theorem swap_any {W : World} {p q e m : Nat} {l : List Pr} {K B : Nat} (h : BookAt W p q e m l K B) (hn : l.length < 100000) (x o y : ByteArray) :
    Calls Try.prog 30 #[.pointer (some ⟨p, 0, none⟩), .string x, .string o, .string y] W fun e' w' => e' = .returned (.int .i64 (swapB x o y l K B).2) ∧ ∃ e2, Went W w' p q e e2 m (swapB x o y l K B).1 K B := by
  obtain ⟨W1, hW1⟩ : ∃ W1, W1 = W.alloc (.cells #[.string o, .string y] 9) := ⟨_, rfl⟩
  have B1 : Hid (Below W.heap.size W W1) := by show Below _ _ _; rw [hW1]; exact Below.new (Below.refl _ _) _
  have HE : Hid (Calls Try.prog 38 #[.pointer (some ⟨p, 0, none⟩), .string x, .slice (some ⟨W.heap.size, 0, none⟩) 2 2] W1 fun e' w' => e' = .returned (.int .i64 (if x.size ≤ 16 ∧ o.size ≤ 32 ∧ y.size ≤ 32 then 0 else 2)) ∧ Below W1.heap.size W1 w') := by
    have hf : Fresh W1 W.heap.size (strs [o, y]).toArray 9 := by rw [hW1]; exact Fresh.new _ _ _ _ rfl
    have := errno_any (h.below B1.out) x (RowS.lit hf (by simp)) hf.lt (by simp)
    rw [errV_two] at this
    exact this
  have HH := Lib.hid (h.below B1.out)
  have HW := Lib.hid h
  have HQ := Lib.hid hW1
  clear h hW1
  unfold swapB
  obtain ⟨r, hr⟩ : ∃ r, getB x l = r := ⟨_, rfl⟩
  obtain ⟨r1, r2⟩ := r
  have HR := Lib.hid hr
  rw [hr]
  by_cases hx : x.size ≤ 16 ∧ o.size ≤ 32 ∧ y.size ≤ 32
  · rw [if_pos hx] at HE ⊢
    clear hx
    by_cases hz : r2 = 0
    · subst hz
      rw [if_pos rfl]
      by_cases ho : r1 = o
      · subst ho
        rw [if_pos rfl]
        obtain ⟨s, hs⟩ : ∃ s, putB x y l K B = s := ⟨_, rfl⟩
        obtain ⟨s1, s2⟩ := s
        have HS := Lib.hid hs
        rw [hs]
        clear hs hr
        go_enter Try.func30, Try.ntmps30
        go_wp2_with (first
          | (go_at_call 38; rw [← HQ.out]; refine HE.out.mono ?_; rintro e1 w1 ⟨rfl, hb1⟩; have H1 := Lib.hid (HH.out.below hb1); have HB := Lib.hid (Below.step B1.out hb1); clear hb1)
          | (go_at_call 28; refine (get_any H1.out x).mono ?_; rw [HR.out]; rintro e2 w2 ⟨rfl, hb2⟩; have H2 := Lib.hid (H1.out.below hb2); have HB2 := Lib.hid (Below.step HB.out hb2); clear hb2)
          | (go_at_call 31; refine (put_any H2.out hn x y).mono ?_; rw [HS.out]; rintro e3 w3 ⟨rfl, g3, h3⟩; have H3 := Lib.hid h3; clear h3))
        go_ret
        exact ⟨rfl, g3, Went.after HB2.out H3.out⟩
      · rw [if_neg ho]
        have hne : (r1.toList == o.toList) = false := by rw [kl_beq]; exact decide_eq_false ho
        clear hr
        go_enter Try.func30, Try.ntmps30
        go_wp2_with (first
          | (go_at_call 38; rw [← HQ.out]; refine HE.out.mono ?_; rintro e1 w1 ⟨rfl, hb1⟩; have H1 := Lib.hid (HH.out.below hb1); have HB := Lib.hid (Below.step B1.out hb1); clear hb1)
          | (go_at_call 28; refine (get_any H1.out x).mono ?_; rw [HR.out]; rintro e2 w2 ⟨rfl, hb2⟩; have HB2 := Lib.hid (Below.step HB.out hb2); clear hb2))
        go_ret
        exact ⟨rfl, e, Went.refl HW.out HB2.out⟩
    · rw [if_neg hz]
      clear hr
      go_enter Try.func30, Try.ntmps30
      go_wp2_with (first
        | (go_at_call 38; rw [← HQ.out]; refine HE.out.mono ?_; rintro e1 w1 ⟨rfl, hb1⟩; have H1 := Lib.hid (HH.out.below hb1); have HB := Lib.hid (Below.step B1.out hb1); clear hb1)
        | (go_at_call 28; refine (get_any H1.out x).mono ?_; rw [HR.out]; rintro e2 w2 ⟨rfl, hb2⟩; have HB2 := Lib.hid (Below.step HB.out hb2); clear hb2))
      go_ret
      exact ⟨rfl, e, Went.refl HW.out HB2.out⟩
  · rw [if_neg hx] at HE ⊢
    clear hx hr
    go_enter Try.func30, Try.ntmps30
    go_wp2_with (go_at_call 38; rw [← HQ.out]; refine HE.out.mono ?_; rintro e1 w1 ⟨rfl, hb1⟩; have HB := Lib.hid (Below.step B1.out hb1); clear hb1)
    go_ret
    exact ⟨rfl, e, Went.refl HW.out HB.out⟩
end Go.Proofs.Ytcpmnkihhenbgaa
