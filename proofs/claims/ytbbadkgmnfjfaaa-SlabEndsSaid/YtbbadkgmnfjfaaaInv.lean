/- What was told of a slab's references, and which of them live. Plain mathematics. -/
import Derived.Test.YtbbadkgmnfjfaaaWf
namespace Go.Proofs.Ytbbadkgmnfjfaaa
open Go.RowKit

structure Inv (s : Sb) (N b : Nat) (T : List Rf) (L : List Bool) (H : List Int) : Prop where
  wf : Wf s N b
  lt : L.length = T.length
  lh : H.length = T.length
  ref : ∀ (k : Nat) (r : Rf), T[k]? = some r → ∃ (x : Nat) (t : Ce), r.s = x ∧ s.l[x]? = some t ∧ 1 ≤ r.g ∧ r.g ≤ t.u ∧ L[k]? = some (t.t && t.u == r.g) ∧ (t.t = true → t.u = r.g → ∃ h, H[k]? = some h ∧ t.x = .int .i64 h)
  inj : ∀ (j k : Nat) (r : Rf), T[j]? = some r → T[k]? = some r → j = k
  cnt : L.countP id = cnt s.l

theorem Inv.new (z : Value) (N : Nat) : Inv (newSb z N) N 0 [] [] [] := by
  refine ⟨new_wf z N, rfl, rfl, fun k r h => by simp at h, fun j k r h => by simp at h, ?_⟩
  have := (new_wf z N).n
  have h0 : (newSb z N).len = 0 := rfl
  rw [h0] at this
  simp
  omega
theorem Inv.more {s : Sb} {N b c : Nat} {T : List Rf} {L : List Bool} {H : List Int} (h : Inv s N b T L H) (hb : b ≤ c) : Inv s N c T L H := ⟨h.wf.more hb, h.lt, h.lh, h.ref, h.inj, h.cnt⟩
/-- The place of a reference. -/
theorem Inv.live {s : Sb} {N b : Nat} {T : List Rf} {L : List Bool} {H : List Int} (h : Inv s N b T L H) {k : Nat} {r : Rf} (hk : T[k]? = some r) :
    ∃ (x : Nat) (t : Ce), r.s = x ∧ s.l[x]? = some t ∧ L[k]? = some (t.t && t.u == r.g) ∧ liveAt s r.s r.g = (if (t.t && t.u == r.g) = true then some x else none) := by
  obtain ⟨x, t, e1, e2, _, _, e5, _⟩ := h.ref k r hk
  have hx := (List.getElem?_eq_some_iff.1 e2).1
  refine ⟨x, t, e1, e2, e5, ?_⟩
  unfold liveAt
  rw [e1, if_pos ⟨Int.natCast_nonneg _, by omega⟩, Int.toNat_natCast, e2]
theorem Inv.take {s : Sb} {N b : Nat} {T : List Rf} {L : List Bool} {H : List Int} (h : Inv s N b T L H) (hb : b < 4294967295) (y : Int) {i : Nat} {t : Ce} (ht : s.l[i]? = some t) (htt : t.t = false)
    (hw : Wf { s with l := s.l.set i ⟨.int .i64 y, t.u + 1, true⟩, len := s.len + 1, left := s.left - 1, low := (i : Int) + 1 } N (b + 1)) :
    Inv { s with l := s.l.set i ⟨.int .i64 y, t.u + 1, true⟩, len := s.len + 1, left := s.left - 1, low := (i : Int) + 1 } N (b + 1) (T ++ [⟨i, t.u + 1⟩]) (L ++ [true]) (H ++ [y]) ∧ ∀ (k : Nat) (r : Rf), T[k]? = some r → ¬ (r.s = i ∧ r.g = t.u + 1) := by
  have hi := (List.getElem?_eq_some_iff.1 ht).1
  have hnew : ∀ (k : Nat) (r : Rf), T[k]? = some r → ¬ (r.s = i ∧ r.g = t.u + 1) := by
    rintro k r hk ⟨e1, e2⟩
    obtain ⟨x, t', h1, h2, _, h4, _⟩ := h.ref k r hk
    have : x = i := by omega
    subst this
    rw [ht] at h2
    cases h2
    omega
  have hu0 := (h.wf.u t (List.mem_of_getElem? ht)).1
  refine ⟨⟨hw, by simp [h.lt], by simp [h.lh], ?_, ?_, ?_⟩, hnew⟩
  · intro k r hk
    show ∃ (x : Nat) (t' : Ce), r.s = x ∧ (s.l.set i ⟨.int .i64 y, t.u + 1, true⟩)[x]? = some t' ∧ _
    by_cases hkl : k < T.length
    · rw [List.getElem?_append_left hkl] at hk
      rw [List.getElem?_append_left (by rw [h.lt]; exact hkl), List.getElem?_append_left (by rw [h.lh]; exact hkl)]
      obtain ⟨x, t', h1, h2, h3, h4, h5, h6⟩ := h.ref k r hk
      by_cases e : i = x
      · subst e
        rw [ht] at h2
        cases h2
        refine ⟨i, _, h1, List.getElem?_set_self hi, h3, by show r.g ≤ t.u + 1; omega, ?_, ?_⟩
        · have e1 : (t.u + 1 == r.g) = false := by simp; omega
          show _ = some (true && (t.u + 1 == r.g))
          rw [h5, htt, e1]
          rfl
        · intro _ e
          have e : t.u + 1 = r.g := e
          omega
      · exact ⟨x, t', h1, by rw [List.getElem?_set_ne e]; exact h2, h3, h4, h5, h6⟩
    · have hkl2 : k = T.length := by
        have := (List.getElem?_eq_some_iff.1 hk).1
        simp at this
        omega
      subst hkl2
      have hr : r = ⟨i, t.u + 1⟩ := by simpa using hk.symm
      subst hr
      refine ⟨i, _, rfl, List.getElem?_set_self hi, by show 1 ≤ t.u + 1; omega, Int.le_refl _, ?_, ?_⟩
      · rw [← h.lt]
        simp
      · intro _ _
        refine ⟨y, ?_, rfl⟩
        rw [← h.lh]
        simp
  · intro j k r hj hk
    have last : ∀ (j : Nat) (r : Rf), (T ++ [(⟨(i : Int), t.u + 1⟩ : Rf)])[j]? = some r → (j < T.length ∧ T[j]? = some r) ∨ (j = T.length ∧ r = ⟨i, t.u + 1⟩) := by
      intro j r hj
      by_cases hjl : j < T.length
      · rw [List.getElem?_append_left hjl] at hj
        exact .inl ⟨hjl, hj⟩
      · have hjl2 : j = T.length := by
          have := (List.getElem?_eq_some_iff.1 hj).1
          simp at this
          omega
        subst hjl2
        exact .inr ⟨rfl, by simpa using hj.symm⟩
    rcases last j r hj with ⟨h1, h2⟩ | ⟨h1, h2⟩ <;> rcases last k r hk with ⟨h3, h4⟩ | ⟨h3, h4⟩
    · exact h.inj j k r h2 h4
    · subst h4; exact absurd ⟨rfl, rfl⟩ (hnew j _ h2)
    · subst h2; exact absurd ⟨rfl, rfl⟩ (hnew k _ h4)
    · omega
  · show (L ++ [true]).countP id = Go.Proofs.Ytbbadkgmnfjfaaa.cnt (s.l.set i ⟨.int .i64 y, t.u + 1, true⟩)
    have hc := cnt_set s.l i t ⟨.int .i64 y, t.u + 1, true⟩ ht
    rw [htt] at hc
    simp at hc
    rw [List.countP_append, h.cnt, hc]
    simp
theorem countP_set_false (L : List Bool) (n : Nat) (h : L[n]? = some true) : (L.set n false).countP id + 1 = L.countP id := by
  induction L generalizing n with
  | nil => simp at h
  | cons a L ih =>
    cases n with
    | zero =>
      simp at h
      subst h
      simp
    | succ n =>
      have := ih n (by simpa using h)
      simp only [List.set_cons_succ, List.countP_cons] at *
      omega
theorem Inv.free {s : Sb} {N b : Nat} {T : List Rf} {L : List Bool} {H : List Int} (h : Inv s N b T L H) (hb : b < 4294967295) (z : Value) {n x : Nat} {r : Rf} {t : Ce} (hn : T[n]? = some r) (hx : r.s = x) (ht : s.l[x]? = some t) (htt : t.t = true) (htu : t.u = r.g) :
    Inv (relSb z s x t.u) N b T (L.set n false) H := by
  have hi := (List.getElem?_eq_some_iff.1 ht).1
  have hLn : L[n]? = some true := by
    obtain ⟨x', t', h1, h2, _, _, h5, _⟩ := h.ref n r hn
    have : x' = x := by omega
    subst this
    rw [ht] at h2
    cases h2
    rw [h5, htt, htu]
    simp
  have hnl := (List.getElem?_eq_some_iff.1 hLn).1
  refine ⟨h.wf.rel hb z ht htt, by simp [h.lt], h.lh, ?_, h.inj, ?_⟩
  · intro k r' hk
    obtain ⟨x', t', h1, h2, h3, h4, h5, h6⟩ := h.ref k r' hk
    show ∃ (x' : Nat) (t' : Ce), r'.s = x' ∧ (s.l.set x ⟨z, t.u, false⟩)[x']? = some t' ∧ _
    by_cases e : x = x'
    · subst e
      rw [ht] at h2
      cases h2
      refine ⟨x, _, h1, List.getElem?_set_self hi, h3, h4, ?_, fun e => by cases e⟩
      show _ = some (false && _)
      by_cases ek : n = k
      · subst ek
        rw [List.getElem?_set_self hnl]
        rfl
      · rw [List.getElem?_set_ne ek, h5, htt]
        have : (t.u == r'.g) = false := by
          simp
          intro e
          apply ek
          refine h.inj n k r hn ?_
          rw [hk]
          congr 1
          cases r; cases r'
          simp at *
          constructor <;> omega
        rw [this]
        rfl
    · refine ⟨x', t', h1, by rw [List.getElem?_set_ne e]; exact h2, h3, h4, ?_, h6⟩
      have ek : n ≠ k := by
        rintro rfl
        rw [hn] at hk
        cases hk
        omega
      rw [List.getElem?_set_ne ek]
      exact h5
  · show (L.set n false).countP id = Go.Proofs.Ytbbadkgmnfjfaaa.cnt (s.l.set x ⟨z, t.u, false⟩)
    have hc := cnt_set s.l x t ⟨z, t.u, false⟩ ht
    rw [htt] at hc
    simp at hc
    have := countP_set_false L n hLn
    have := h.cnt
    omega
theorem Inv.set {s : Sb} {N b : Nat} {T : List Rf} {L : List Bool} {H : List Int} (h : Inv s N b T L H) (y : Int) {n x : Nat} {r : Rf} {t : Ce} (hn : T[n]? = some r) (hx : r.s = x) (ht : s.l[x]? = some t) (htt : t.t = true) (htu : t.u = r.g) :
    Inv { s with l := s.l.set x { t with x := .int .i64 y } } N b T L (H.set n y) := by
  have hi := (List.getElem?_eq_some_iff.1 ht).1
  have hnl := (List.getElem?_eq_some_iff.1 hn).1
  refine ⟨h.wf.setx _ ht, h.lt, by simp [h.lh], ?_, h.inj, ?_⟩
  · intro k r' hk
    obtain ⟨x', t', h1, h2, h3, h4, h5, h6⟩ := h.ref k r' hk
    show ∃ (x' : Nat) (t' : Ce), r'.s = x' ∧ (s.l.set x { t with x := .int .i64 y })[x']? = some t' ∧ _
    by_cases e : x = x'
    · subst e
      rw [ht] at h2
      cases h2
      refine ⟨x, _, h1, List.getElem?_set_self hi, h3, h4, h5, ?_⟩
      intro _ e2
      have e2 : t.u = r'.g := e2
      have : n = k := by
        refine h.inj n k r hn ?_
        rw [hk]
        congr 1
        cases r; cases r'
        simp at *
        constructor <;> omega
      subst this
      exact ⟨y, by rw [List.getElem?_set_self (by rw [h.lh]; exact hnl)], rfl⟩
    · refine ⟨x', t', h1, by rw [List.getElem?_set_ne e]; exact h2, h3, h4, h5, ?_⟩
      have ek : n ≠ k := by
        rintro rfl
        rw [hn] at hk
        cases hk
        omega
      rw [List.getElem?_set_ne ek]
      exact h6
  · show L.countP id = Go.Proofs.Ytbbadkgmnfjfaaa.cnt (s.l.set x { t with x := .int .i64 y })
    have hc := cnt_set s.l x t { t with x := .int .i64 y } ht
    dsimp only at hc
    have := h.cnt
    omega
/-- A reference that is dead: nothing turns. -/
theorem Inv.freed {s : Sb} {N b : Nat} {T : List Rf} {L : List Bool} {H : List Int} (h : Inv s N b T L H) {n : Nat} (hn : L[n]? = some false) : Inv s N b T (L.set n false) H := by
  have : L.set n false = L := by
    refine List.ext_getElem? fun k => ?_
    by_cases e : n = k
    · subst e
      rw [List.getElem?_set_self (List.getElem?_eq_some_iff.1 hn).1, hn]
    · rw [List.getElem?_set_ne e]
  rw [this]
  exact h
theorem Inv.unset {s : Sb} {N b : Nat} {T : List Rf} {L : List Bool} {H : List Int} (h : Inv s N b T L H) (y : Int) {n : Nat} (hn : L[n]? = some false) : Inv s N b T L (H.set n y) := by
  refine ⟨h.wf, h.lt, by simp [h.lh], ?_, h.inj, h.cnt⟩
  intro k r hk
  obtain ⟨x, t, h1, h2, h3, h4, h5, h6⟩ := h.ref k r hk
  refine ⟨x, t, h1, h2, h3, h4, h5, ?_⟩
  by_cases e : n = k
  · subst e
    rw [hn] at h5
    intro e1 e2
    rw [e1, e2] at h5
    simp at h5
  · rw [List.getElem?_set_ne e]
    exact h6
end Go.Proofs.Ytbbadkgmnfjfaaa
