/- A book: New, isNil, errno, Get, Keys, Bytes. -/
import Derived.Test.YtcpmnkihhenbgaaFits
namespace Go.Proofs.Ytcpmnkihhenbgaa
open Go.RowKit
set_option maxRecDepth 1000000
set_option maxHeartbeats 4000000

structure BookAt (W : World) (p q e m : Nat) (l : List Pr) (K B : Nat) : Prop where
  ptr : Fresh W p #[.pointer (some ⟨q, 0, none⟩)] 74
  st : ∃ v, StAt W q e m l K B v
theorem BookAt.lt {W : World} {p q e m : Nat} {l : List Pr} {K B : Nat} (h : BookAt W p q e m l K B) : p < W.heap.size ∧ q < W.heap.size ∧ e < W.heap.size ∧ m < W.heap.size := by
  obtain ⟨v, hv⟩ := h.st
  exact ⟨h.ptr.lt, hv.lt⟩
theorem StAt.p {W : World} {p q e m : Nat} {l : List Pr} {K B : Nat} {v : Value} (h : StAt W q e m l K B v) (hp : Fresh W p #[.pointer (some ⟨q, 0, none⟩)] 74) : p ∉ [q, e, m] := by
  have hq : p ≠ q := by
    rintro rfl
    exact absurd (fresh_ty hp h.key.box) (by decide)
  have he : p ≠ e := by
    rcases h.key.ety with h1 | ⟨cur, h1⟩
    · rw [h1]; exact hq
    · rintro rfl
      exact absurd (fresh_ty hp h1) (by decide)
  have hm : p ≠ m := fun x => h.map.ne hp x.symm
  simp [hq, he, hm]
theorem BookAt.below {W W' : World} {p q e m : Nat} {l : List Pr} {K B : Nat} (h : BookAt W p q e m l K B) (hb : Below W.heap.size W W') : BookAt W' p q e m l K B := by
  obtain ⟨v, hv⟩ := h.st
  exact ⟨h.ptr.below hb, v, hv.below hb⟩
theorem BookAt.same {W W' : World} {p q e m : Nat} {l : List Pr} {K B : Nat} (h : BookAt W p q e m l K B) (h0 : W'.heap[p]? = W.heap[p]?) (h1 : W'.heap[q]? = W.heap[q]?) (h2 : W'.heap[e]? = W.heap[e]?) (h3 : W'.heap[m]? = W.heap[m]?) : BookAt W' p q e m l K B := by
  obtain ⟨v, hv⟩ := h.st
  exact ⟨h0.trans h.ptr, v, hv.same h1 h2 h3⟩
theorem BookAt.turned {S : List Nat} {W W' : World} {p q e m : Nat} {l : List Pr} {K B : Nat} (h : BookAt W p q e m l K B) (ht : Turned S W W') (h0 : p ∉ S) (h1 : q ∉ S) (h2 : e ∉ S) (h3 : m ∉ S) : BookAt W' p q e m l K B :=
  h.same (ht.block p h.lt.1 h0) (ht.block q h.lt.2.1 h1) (ht.block e h.lt.2.2.1 h2) (ht.block m h.lt.2.2.2 h3)
theorem BookAt.good {W : World} {p q e m : Nat} {l : List Pr} {K B : Nat} (h : BookAt W p q e m l K B) : SrtP l ∧ TxtP l := by
  obtain ⟨v, hv⟩ := h.st
  exact ⟨hv.srt, hv.txt⟩

theorem isNil_any {W : World} {p q e m : Nat} {l : List Pr} {K B : Nat} (h : BookAt W p q e m l K B) : Calls Try.prog 44 #[.pointer (some ⟨p, 0, none⟩)] W fun e' w' => e' = .returned (.bool false) ∧ w' = W := by
  have c0 := h.ptr.cell 0
  simp only [List.getElem?_toArray, List.getElem?_cons_zero] at c0
  clear h
  go_enter Try.func44, Try.ntmps44
  go_wp2_with fail
  go_ret
  exact ⟨rfl, rfl⟩
theorem keys_any {W : World} {p q e m : Nat} {l : List Pr} {K B : Nat} (h : BookAt W p q e m l K B) (hn : l.length < 100000) : Calls Try.prog 24 #[.pointer (some ⟨p, 0, none⟩)] W fun e' w' => e' = .returned (.int .u64 (l.length : Nat)) ∧ w' = W := by
  have HH := Lib.hid h
  have c0 := h.ptr.cell 0
  simp only [List.getElem?_toArray, List.getElem?_cons_zero] at c0
  obtain ⟨v, hv⟩ := h.st
  obtain ⟨ao, cap, hs, _⟩ := hv.key.row.slice
  rw [keys_len] at hs
  have d0 := hv.cells.1
  rw [hs] at d0
  obtain ⟨n, hl⟩ : ∃ n, l.length = n := ⟨_, rfl⟩
  rw [hl] at d0 hn ⊢
  have hw : IntKind.u64.wrap (n : Int) = (n : Int) := by rw [IntKind.wrap_u64]; omega
  clear h hv hs hl
  go_enter Try.func24, Try.ntmps24
  go_wp2_with (go_at_call 44; refine (isNil_any HH.out).mono ?_; rintro e1 w1 ⟨rfl, rfl⟩)
  go_ret
  exact ⟨rfl, rfl⟩
theorem bytes_any {W : World} {p q e m : Nat} {l : List Pr} {K B : Nat} (h : BookAt W p q e m l K B) : Calls Try.prog 25 #[.pointer (some ⟨p, 0, none⟩)] W fun e' w' => e' = .returned (.int .u64 (lenP l : Nat)) ∧ w' = W := by
  have HH := Lib.hid h
  have c0 := h.ptr.cell 0
  simp only [List.getElem?_toArray, List.getElem?_cons_zero] at c0
  obtain ⟨v, hv⟩ := h.st
  have d2 := hv.cells.2.2.1
  clear h hv
  go_enter Try.func25, Try.ntmps25
  go_wp2_with (go_at_call 44; refine (isNil_any HH.out).mono ?_; rintro e1 w1 ⟨rfl, rfl⟩)
  go_ret
  exact ⟨rfl, rfl⟩

/-- What is wrong with a key and values. -/
def errV (x : ByteArray) (ks : List ByteArray) : Int := if x.size ≤ 16 ∧ fitS 32 ks = true then 0 else 2
theorem errno_any {W : World} {p q e m e3 : Nat} {l : List Pr} {K B : Nat} (h : BookAt W p q e m l K B) (x : ByteArray) {ks : List ByteArray} {v : Value} (hr : RowS W e3 ks v) (he : e3 < W.heap.size) (hn : ks.length < 1000) :
    Calls Try.prog 38 #[.pointer (some ⟨p, 0, none⟩), .string x, v] W fun e' w' => e' = .returned (.int .i64 (errV x ks)) ∧ Below W.heap.size W w' := by
  have HH := Lib.hid h
  obtain ⟨W1, hW1⟩ : ∃ W1, W1 = W.alloc (.cells #[.string x] 9) := ⟨_, rfl⟩
  have B1 : Hid (Below W.heap.size W W1) := by show Below _ _ _; rw [hW1]; exact Below.new (Below.refl _ _) _
  have H1 : Hid (Calls Try.prog 52 #[.int .i64 16, .slice (some ⟨W.heap.size, 0, none⟩) 1 1] W1 fun e' w' => e' = .returned (.bool (decide (x.size ≤ 16))) ∧ w' = W1) := by
    have hf : Fresh W1 W.heap.size (strs [x]).toArray 9 := by rw [hW1]; exact Fresh.new _ _ _ _ rfl
    have := within_any (RowS.lit hf (by simp)) 16 (by simp)
    have e1 : fitS 16 [x] = decide (x.size ≤ 16) := by
      simp only [fitS, List.all_cons, List.all_nil, Bool.and_true]
      exact decide_eq_decide.2 (by omega)
    rw [e1] at this
    exact this
  have H2 : Hid (Calls Try.prog 52 #[.int .i64 32, v] W1 fun e' w' => e' = .returned (.bool (fitS 32 ks)) ∧ w' = W1) :=
    within_any (hr.same (B1.out.block e3 he)) 32 (by omega)
  obtain ⟨E, hE⟩ : ∃ E, errV x ks = E := ⟨_, rfl⟩
  rw [hE]
  unfold errV at hE
  have HW := Lib.hid hW1
  obtain ⟨b, hb⟩ : ∃ b, fitS 32 ks = b := ⟨_, rfl⟩
  rw [hb] at H2 hE
  clear h hr he hn hW1 hb
  by_cases hx : x.size ≤ 16
  · rw [decide_eq_true hx] at H1
    cases b
    · have HE : Hid (E = 2) := by show _ = _; rw [← hE, if_neg (by simp)]
      clear hE
      go_enter Try.func38, Try.ntmps38
      go_wp2_with (first
        | (go_at_call 44; refine (isNil_any HH.out).mono ?_; rintro e1 w1 ⟨rfl, rfl⟩)
        | (go_at_call 52; (try rw [← HW.out]); first | (with_reducible refine H1.out.mono ?_; rintro e1 w1 ⟨rfl, rfl⟩) | (with_reducible refine H2.out.mono ?_; rintro e1 w1 ⟨rfl, rfl⟩)))
      go_ret
      exact ⟨by rw [HE.out]; rfl, B1.out⟩
    · have HE : Hid (E = 0) := by show _ = _; rw [← hE, if_pos ⟨hx, rfl⟩]
      clear hE
      go_enter Try.func38, Try.ntmps38
      go_wp2_with (first
        | (go_at_call 44; refine (isNil_any HH.out).mono ?_; rintro e1 w1 ⟨rfl, rfl⟩)
        | (go_at_call 52; (try rw [← HW.out]); first | (with_reducible refine H1.out.mono ?_; rintro e1 w1 ⟨rfl, rfl⟩) | (with_reducible refine H2.out.mono ?_; rintro e1 w1 ⟨rfl, rfl⟩)))
      go_ret
      exact ⟨by rw [HE.out]; rfl, B1.out⟩
  · rw [decide_eq_false hx] at H1
    have HE : Hid (E = 2) := by show _ = _; rw [← hE, if_neg (fun h => hx h.1)]
    clear hE
    go_enter Try.func38, Try.ntmps38
    go_wp2_with (first
      | (go_at_call 44; refine (isNil_any HH.out).mono ?_; rintro e1 w1 ⟨rfl, rfl⟩)
      | (go_at_call 52; (try rw [← HW.out]); first | (with_reducible refine H1.out.mono ?_; rintro e1 w1 ⟨rfl, rfl⟩) | (with_reducible refine H2.out.mono ?_; rintro e1 w1 ⟨rfl, rfl⟩)))
    go_ret
    exact ⟨by rw [HE.out]; rfl, B1.out⟩
end Go.Proofs.Ytcpmnkihhenbgaa
