/- A purse's invariant, and that each operation keeps it. -/
import Derived.Test.YtpnddccanelcnaaReserve
namespace Go.Proofs.Ytpnddccanelcnaa
open Go.RowKit
set_option maxRecDepth 100000

def sumK (l : List Tk) : Int := (l.map Tk.k).sum
def sumB (l : List Tk) : Int := (l.map Tk.b).sum
theorem sumK_cons (t : Tk) (l : List Tk) : sumK (t :: l) = t.k + sumK l := rfl
theorem sumB_cons (t : Tk) (l : List Tk) : sumB (t :: l) = t.b + sumB l := rfl
theorem sums_snoc (l : List Tk) (t : Tk) : sumK (l ++ [t]) = sumK l + t.k ∧ sumB (l ++ [t]) = sumB l + t.b := by
  induction l with
  | nil => simp [sumK, sumB]
  | cons x l ih =>
    rw [List.cons_append, sumK_cons, sumB_cons, sumK_cons, sumB_cons, ih.1, ih.2]
    omega
theorem sums_nonneg (l : List Tk) (h : ∀ t ∈ l, 0 ≤ t.k ∧ 0 ≤ t.b) : 0 ≤ sumK l ∧ 0 ≤ sumB l := by
  induction l with
  | nil => exact ⟨by decide, by decide⟩
  | cons x l ih =>
    have h1 := h x (by simp)
    have h2 := ih (fun t ht => h t (List.mem_cons_of_mem x ht))
    rw [sumK_cons, sumB_cons]
    omega
theorem del_none (l : List Tk) (n : Int) (h : ∀ t ∈ l, t.n ≠ n) : delT l n = l := List.filter_eq_self.2 (fun t ht => by simpa using h t ht)
theorem sums_del (l : List Tk) (t : Tk) (hu : Uniq l) (ht : t ∈ l) : sumK l = sumK (delT l t.n) + t.k ∧ sumB l = sumB (delT l t.n) + t.b ∧ (delT l t.n).length + 1 = l.length := by
  induction l with
  | nil => cases ht
  | cons x l ih =>
    have hu' := List.nodup_cons.1 (show (x.n :: l.map Tk.n).Nodup from hu)
    rcases List.mem_cons.1 ht with rfl | h
    · have hno : ∀ y ∈ l, y.n ≠ t.n := fun y hy e => hu'.1 (by rw [← e]; exact List.mem_map_of_mem hy)
      have hd : delT (t :: l) t.n = l := by
        unfold delT
        rw [List.filter_cons_of_neg (by simp)]
        exact del_none l t.n hno
      rw [hd, sumK_cons, sumB_cons]
      exact ⟨by omega, by omega, rfl⟩
    · have hx : x.n ≠ t.n := by
        intro e
        exact hu'.1 (by rw [e]; exact List.mem_map_of_mem h)
      have hd : delT (x :: l) t.n = x :: delT l t.n := by
        unfold delT
        rw [List.filter_cons_of_pos (by simpa using hx)]
      obtain ⟨a, b, c⟩ := ih hu'.2 h
      rw [hd, sumK_cons, sumB_cons, sumK_cons, sumB_cons]
      refine ⟨by omega, by omega, ?_⟩
      simp only [List.length_cons]
      omega
theorem uniq_del {l : List Tk} (n : Int) (h : Uniq l) : Uniq (delT l n) := by
  unfold Uniq delT at *
  exact List.Nodup.sublist (List.Sublist.map Tk.n List.filter_sublist) h
theorem mem_del {l : List Tk} {n : Int} {t : Tk} (h : t ∈ delT l n) : t ∈ l := (List.mem_filter.1 h).1

structure Pu.Ok (s : Pu) (N : Int) : Prop where
  lk : 0 ≤ s.lk ∧ s.lk < 18446744073709551616
  lb : 0 ≤ s.lb ∧ s.lb < 18446744073709551616
  hk : 0 ≤ s.hk
  hb : 0 ≤ s.hb
  bk : s.bk ≤ s.lk
  bb : s.bb ≤ s.lb
  sk : s.bk = s.hk + sumK s.tk
  sb : s.bb = s.hb + sumB s.tk
  uniq : Uniq s.tk
  keys : ∀ t ∈ s.tk, 1 ≤ t.n ∧ t.n ≤ s.last
  vals : ∀ t ∈ s.tk, 0 ≤ t.k ∧ 0 ≤ t.b
  last : 0 ≤ s.last ∧ s.last ≤ N
  len : (s.tk.length : Int) ≤ s.last

theorem Pu.Ok.fit {s : Pu} {N : Int} (h : s.Ok N) : s.Fit := by
  have := sums_nonneg s.tk h.vals
  have h1 := h.sk
  have h2 := h.sb
  have h3 := h.hk
  have h4 := h.hb
  have h5 := h.bk
  have h6 := h.bb
  exact ⟨by omega, h5, h.lk.2, by omega, h6, h.lb.2, h3, by omega, h4, by omega⟩
theorem Pu.Ok.more {s : Pu} {N M : Int} (h : s.Ok N) (hm : N ≤ M) : s.Ok M := { h with last := ⟨h.last.1, by have := h.last.2; omega⟩ }
theorem Pu.Ok.next {s : Pu} {N : Int} (h : s.Ok N) : getT s.tk (s.last + 1) = none := by
  unfold getT
  rw [List.find?_eq_none]
  intro t ht
  have := (h.keys t ht).2
  simp
  omega
theorem Pu.Ok.res {s : Pu} {N x y : Int} (h : s.Ok N) (hx : U x) (hy : U y) (hf : fitB s x y = true) : (resP s x y).Ok (N + 1) := by
  obtain ⟨f1, f2⟩ := fit_le hf
  have hs := sums_snoc s.tk ⟨s.last + 1, x, y⟩
  have h1 := h.sk
  have h2 := h.sb
  refine { lk := h.lk, lb := h.lb, hk := h.hk, hb := h.hb, bk := ?_, bb := ?_, sk := ?_, sb := ?_, uniq := ?_, keys := ?_, vals := ?_, last := ?_, len := ?_ }
  · show s.bk + x ≤ s.lk; omega
  · show s.bb + y ≤ s.lb; omega
  · show s.bk + x = s.hk + sumK (s.tk ++ [(⟨s.last + 1, x, y⟩ : Tk)]); rw [hs.1]; show s.bk + x = s.hk + (sumK s.tk + x); omega
  · show s.bb + y = s.hb + sumB (s.tk ++ [(⟨s.last + 1, x, y⟩ : Tk)]); rw [hs.2]; show s.bb + y = s.hb + (sumB s.tk + y); omega
  · show ((s.tk ++ [(⟨s.last + 1, x, y⟩ : Tk)]).map Tk.n).Nodup
    rw [List.map_append, List.nodup_append]
    refine ⟨h.uniq, by simp, ?_⟩
    intro a ha b hb e
    simp only [List.map_cons, List.map_nil, List.mem_singleton] at hb
    obtain ⟨t, ht, rfl⟩ := List.mem_map.1 ha
    have := (h.keys t ht).2
    omega
  · intro t ht
    rcases List.mem_append.1 ht with ht | ht
    · have := h.keys t ht
      exact ⟨this.1, by show t.n ≤ s.last + 1; omega⟩
    · simp only [List.mem_singleton] at ht
      subst ht
      have := h.last.1
      exact ⟨by show 1 ≤ s.last + 1; omega, by show s.last + 1 ≤ s.last + 1; omega⟩
  · intro t ht
    rcases List.mem_append.1 ht with ht | ht
    · exact h.vals t ht
    · simp only [List.mem_singleton] at ht
      subst ht
      exact ⟨hx.1, hy.1⟩
  · have := h.last
    exact ⟨by show 0 ≤ s.last + 1; omega, by show s.last + 1 ≤ N + 1; omega⟩
  · have := h.len
    show ((s.tk ++ [(⟨s.last + 1, x, y⟩ : Tk)]).length : Int) ≤ s.last + 1
    simp only [List.length_append, List.length_cons, List.length_nil]
    omega
theorem Pu.Ok.take {s : Pu} {N x y : Int} (h : s.Ok N) (hx : U x) (hy : U y) : (takeIf s x y).Ok N := by
  unfold takeIf
  split
  · rename_i hf
    obtain ⟨f1, f2⟩ := fit_le hf
    have h1 := h.sk
    have h2 := h.sb
    have h3 := h.hk
    have h4 := h.hb
    exact { h with hk := by show 0 ≤ s.hk + x; have := hx.1; omega, hb := by show 0 ≤ s.hb + y; have := hy.1; omega, bk := by show s.bk + x ≤ s.lk; omega, bb := by show s.bb + y ≤ s.lb; omega, sk := by show s.bk + x = s.hk + x + sumK s.tk; omega, sb := by show s.bb + y = s.hb + y + sumB s.tk; omega }
  · exact h
theorem Pu.Ok.pay {s : Pu} {N x y : Int} (h : s.Ok N) (hx : U x) (hy : U y) : (payIf s x y).Ok N := by
  unfold payIf
  split
  · rename_i hf
    have hf' : x ≤ s.hk ∧ y ≤ s.hb := by unfold payB at hf; simpa using hf
    have h1 := h.sk
    have h2 := h.sb
    have h3 := h.bk
    have h4 := h.bb
    exact { h with hk := by show 0 ≤ s.hk - x; omega, hb := by show 0 ≤ s.hb - y; omega, bk := by show s.bk - x ≤ s.lk; have := hx.1; omega, bb := by show s.bb - y ≤ s.lb; have := hy.1; omega, sk := by show s.bk - x = s.hk - x + sumK s.tk; omega, sb := by show s.bb - y = s.hb - y + sumB s.tk; omega }
  · exact h
theorem Pu.Ok.tick {s : Pu} {N : Int} {n : Int} {t : Tk} (h : s.Ok N) (hg : getT s.tk n = some t) : t.n = n ∧ 0 ≤ t.k ∧ t.k ≤ sumK s.tk ∧ 0 ≤ t.b ∧ t.b ≤ sumB s.tk := by
  obtain ⟨h1, h2⟩ := getT_n hg
  obtain ⟨a, b, _⟩ := sums_del s.tk t h.uniq h2
  have hv := h.vals t h2
  have hn := sums_nonneg (delT s.tk t.n) (fun u hu => h.vals u (mem_del hu))
  exact ⟨h1, hv.1, by omega, hv.2, by omega⟩
theorem Pu.Ok.ref {s : Pu} {N : Int} {n : Int} {t : Tk} (h : s.Ok N) (hg : getT s.tk n = some t) : (refP s t).Ok N := by
  obtain ⟨h1, h2⟩ := getT_n hg
  obtain ⟨a, b, c⟩ := sums_del s.tk t h.uniq h2
  have hv := h.vals t h2
  have e1 := h.sk
  have e2 := h.sb
  have e3 := h.bk
  have e4 := h.bb
  have e5 := h.len
  exact { lk := h.lk, lb := h.lb, hk := h.hk, hb := h.hb, bk := by show s.bk - t.k ≤ s.lk; omega, bb := by show s.bb - t.b ≤ s.lb; omega, sk := by show s.bk - t.k = s.hk + sumK (delT s.tk t.n); omega, sb := by show s.bb - t.b = s.hb + sumB (delT s.tk t.n); omega, uniq := uniq_del _ h.uniq, keys := fun u hu => h.keys u (mem_del hu), vals := fun u hu => h.vals u (mem_del hu), last := h.last, len := by show ((delT s.tk t.n).length : Int) ≤ s.last; omega }
theorem Pu.Ok.com {s : Pu} {N : Int} {n : Int} {t : Tk} (h : s.Ok N) (hg : getT s.tk n = some t) : (comP s t).Ok N := by
  obtain ⟨h1, h2⟩ := getT_n hg
  obtain ⟨a, b, c⟩ := sums_del s.tk t h.uniq h2
  have hv := h.vals t h2
  have e1 := h.sk
  have e2 := h.sb
  have e3 := h.hk
  have e4 := h.hb
  have e5 := h.len
  exact { lk := h.lk, lb := h.lb, hk := by show 0 ≤ s.hk + t.k; omega, hb := by show 0 ≤ s.hb + t.b; omega, bk := h.bk, bb := h.bb, sk := by show s.bk = s.hk + t.k + sumK (delT s.tk t.n); omega, sb := by show s.bb = s.hb + t.b + sumB (delT s.tk t.n); omega, uniq := uniq_del _ h.uniq, keys := fun u hu => h.keys u (mem_del hu), vals := fun u hu => h.vals u (mem_del hu), last := h.last, len := by show ((delT s.tk t.n).length : Int) ≤ s.last; omega }

end Go.Proofs.Ytpnddccanelcnaa
