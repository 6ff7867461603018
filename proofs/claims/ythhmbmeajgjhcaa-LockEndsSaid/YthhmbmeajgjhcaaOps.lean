/- What each operation makes of a table of locks: plain mathematics. -/
import Derived.Test.YthhmbmeajgjhcaaLk
import Derived.Test.YthhmbmeajgjhcaaBits
import Derived.Test.YthhmbmeajgjhcaaAdd
namespace Go.Proofs.Ythhmbmeajgjhcaa
open Go.RowKit
set_option maxRecDepth 100000

theorem find_pos {l : List Wd} {a : Wd} {y k : Int} (h : a.is y k = true) : (a :: l).find? (fun t => t.is y k) = some a := List.find?_cons_of_pos (p := fun t : Wd => t.is y k) h
theorem find_neg {l : List Wd} {a : Wd} {y k : Int} (h : ¬ a.is y k = true) : (a :: l).find? (fun t => t.is y k) = l.find? (fun t => t.is y k) := List.find?_cons_of_neg (p := fun t : Wd => t.is y k) h
theorem mem_get {l : List Wd} {x g : Int} {t : Wd} (h : getW l x g = some t) : t ∈ l ∧ t.s = x ∧ t.g = g := by
  unfold getW at h
  exact ⟨List.mem_of_find?_eq_some h, (is_iff t x g).1 (List.find?_some (p := fun t : Wd => t.is x g) h)⟩
theorem get_put (l : List Wd) (x g w y k : Int) : getW (putW l x g w) y k = if y = x ∧ k = g then some ⟨x, g, w⟩ else getW l y k := by
  unfold putW
  split
  · rename_i hs
    unfold getW at hs ⊢
    induction l with
    | nil => simp at hs
    | cons a l ih =>
      rw [List.map_cons]
      by_cases ha : a.is x g = true
      · obtain ⟨e1, e2⟩ := (is_iff a x g).1 ha
        rw [if_pos ha]
        by_cases hk : y = x ∧ k = g
        · rw [if_pos hk, find_pos (by rw [is_iff]; exact ⟨e1.trans hk.1.symm, e2.trans hk.2.symm⟩)]
          obtain ⟨s, g', w'⟩ := a
          simp only at e1 e2
          rw [e1, e2]
        · rw [if_neg hk, find_neg (by rw [is_iff]; rintro ⟨h1, h2⟩; exact hk ⟨h1.symm.trans e1, h2.symm.trans e2⟩), find_neg (by rw [is_iff]; rintro ⟨h1, h2⟩; exact hk ⟨h1.symm.trans e1, h2.symm.trans e2⟩)]
          have : ∀ l : List Wd, (l.map (fun t => if t.is x g = true then { t with w := w } else t)).find? (fun t => t.is y k) = l.find? (fun t => t.is y k) := by
            intro l
            induction l with
            | nil => rfl
            | cons b l ih2 =>
              rw [List.map_cons]
              by_cases hb : b.is y k = true
              · have hbx : ¬ b.is x g = true := by
                  intro h
                  obtain ⟨f1, f2⟩ := (is_iff b x g).1 h
                  obtain ⟨f3, f4⟩ := (is_iff b y k).1 hb
                  exact hk ⟨f3.symm.trans f1, f4.symm.trans f2⟩
                rw [if_neg hbx, find_pos hb, find_pos hb]
              · rw [find_neg hb, find_neg (by split <;> exact hb), ih2]
          exact this l
      · rw [if_neg ha]
        by_cases hb : a.is y k = true
        · have hk : ¬ (y = x ∧ k = g) := by
            rintro ⟨rfl, rfl⟩
            exact ha hb
          rw [if_neg hk, find_pos hb, find_pos hb]
        · rw [find_neg hb, find_neg hb]
          rw [find_neg ha] at hs
          exact ih hs
  · rename_i hs
    unfold getW at hs ⊢
    rw [List.find?_append]
    by_cases hk : y = x ∧ k = g
    · obtain ⟨rfl, rfl⟩ := hk
      have : l.find? (fun t => t.is y k) = none := by simpa using hs
      rw [this, if_pos ⟨rfl, rfl⟩]
      simp [Wd.is]
    · rw [if_neg hk]
      have hn : ¬ Wd.is ⟨x, g, w⟩ y k = true := by
        rw [is_iff]
        rintro ⟨h1, h2⟩
        exact hk ⟨h1.symm, h2.symm⟩
      rw [find_neg hn, List.find?_nil]
      simp
theorem get_del (l : List Wd) (x g y k : Int) : getW (delW l x g) y k = if y = x ∧ k = g then none else getW l y k := by
  unfold getW delW
  induction l with
  | nil => simp
  | cons a l ih =>
    by_cases ha : a.is x g = true
    · rw [List.filter_cons_of_neg (by simp [ha]), ih]
      by_cases hk : y = x ∧ k = g
      · rw [if_pos hk, if_pos hk]
      · rw [if_neg hk, if_neg hk, find_neg]
        intro h
        obtain ⟨f1, f2⟩ := (is_iff a x g).1 ha
        obtain ⟨f3, f4⟩ := (is_iff a y k).1 h
        exact hk ⟨f3.symm.trans f1, f4.symm.trans f2⟩
    · rw [List.filter_cons_of_pos (by simp [ha])]
      by_cases hb : a.is y k = true
      · have hk : ¬ (y = x ∧ k = g) := by
          rintro ⟨rfl, rfl⟩
          exact ha hb
        rw [if_neg hk, find_pos hb, find_pos hb]
      · rw [find_neg hb, find_neg hb, ih]
def heldN (n : Int) : Int := if n % 4 = 1 then 1 else 0
def sumH (l : List Wd) : Int := (l.map fun t => heldN t.w).sum
theorem heldN_01 (n : Int) : 0 ≤ heldN n ∧ heldN n ≤ 1 := by unfold heldN; split <;> omega
theorem sumH_cons (a : Wd) (l : List Wd) : sumH (a :: l) = heldN a.w + sumH l := by unfold sumH; simp
theorem sumH_le : ∀ l : List Wd, 0 ≤ sumH l ∧ sumH l ≤ l.length
  | [] => by simp [sumH]
  | a :: l => by
    have := sumH_le l
    have := heldN_01 a.w
    rw [sumH_cons, List.length_cons]
    omega
theorem sumH_same (x g w : Int) : ∀ l : List Wd, (∀ a ∈ l, ¬ a.is x g = true) → sumH (l.map (fun t => if t.is x g = true then { t with w := w } else t)) = sumH l
  | [], _ => rfl
  | a :: l, h => by
    rw [List.map_cons, if_neg (h a (by simp)), sumH_cons, sumH_cons, sumH_same x g w l (fun b hb => h b (by simp [hb]))]
theorem sumH_put {l : List Wd} (hu : Uniq l) {x g : Int} {t : Wd} (h : getW l x g = some t) (w : Int) : sumH (putW l x g w) = sumH l - heldN t.w + heldN w := by
  unfold putW
  rw [if_pos (by rw [h]; rfl)]
  induction l with
  | nil => simp [getW] at h
  | cons a l ih =>
    obtain ⟨h1, h2⟩ := List.pairwise_cons.1 hu
    by_cases ha : a.is x g = true
    · unfold getW at h
      rw [find_pos ha] at h
      obtain rfl : a = t := by simpa using h
      rw [List.map_cons, if_pos ha, sumH_cons, sumH_cons, sumH_same]
      · show heldN w + _ = _; omega
      · intro b hb hbs
        obtain ⟨f1, f2⟩ := (is_iff a x g).1 ha
        obtain ⟨f3, f4⟩ := (is_iff b x g).1 hbs
        exact h1 b hb ⟨f1.trans f3.symm, f2.trans f4.symm⟩
    · unfold getW at h
      rw [find_neg ha] at h
      rw [List.map_cons, if_neg ha, sumH_cons, sumH_cons, ih h2 h]
      omega
theorem sumH_append (l k : List Wd) : sumH (l ++ k) = sumH l + sumH k := by unfold sumH; simp
theorem sumH_new {l : List Wd} {x g : Int} (h : getW l x g = none) (w : Int) : sumH (putW l x g w) = sumH l + heldN w := by
  unfold putW
  rw [if_neg (by rw [h]; simp), sumH_append, sumH_cons]
  simp [sumH]
theorem sumH_del {l : List Wd} (hu : Uniq l) {x g : Int} {t : Wd} (h : getW l x g = some t) : sumH (delW l x g) = sumH l - heldN t.w := by
  unfold delW
  induction l with
  | nil => simp [getW] at h
  | cons a l ih =>
    obtain ⟨h1, h2⟩ := List.pairwise_cons.1 hu
    by_cases ha : a.is x g = true
    · unfold getW at h
      rw [find_pos ha] at h
      obtain rfl : a = t := by simpa using h
      rw [List.filter_cons_of_neg (by simp [ha]), sumH_cons, List.filter_eq_self.2]
      · omega
      · intro b hb
        have : ¬ b.is x g = true := by
          intro hbs
          obtain ⟨f1, f2⟩ := (is_iff a x g).1 ha
          obtain ⟨f3, f4⟩ := (is_iff b x g).1 hbs
          exact h1 b hb ⟨f1.trans f3.symm, f2.trans f4.symm⟩
        simpa using this
    · unfold getW at h
      rw [find_neg ha] at h
      rw [List.filter_cons_of_pos (by simp [ha]), sumH_cons, sumH_cons, ih h2 h]
      omega
theorem len_put (l : List Wd) (x g w : Int) : (putW l x g w).length ≤ l.length + 1 := by
  unfold putW
  split <;> simp
theorem len_put_some {l : List Wd} {x g : Int} {t : Wd} (h : getW l x g = some t) (w : Int) : (putW l x g w).length = l.length := by
  unfold putW
  rw [if_pos (by rw [h]; rfl)]
  simp
theorem len_del (l : List Wd) (x g : Int) : (delW l x g).length ≤ l.length := List.length_filter_le _ _
theorem put_w {l : List Wd} {x g w : Int} {P : Int → Prop} (h : ∀ t ∈ l, P t.w) (hw : P w) : ∀ t ∈ putW l x g w, P t.w := by
  intro t ht
  unfold putW at ht
  split at ht
  · obtain ⟨u, hu, rfl⟩ := List.mem_map.1 ht
    split
    · exact hw
    · exact h u hu
  · rcases List.mem_append.1 ht with ht | ht
    · exact h t ht
    · simp at ht; subst ht; exact hw

/-- What holds of a table. -/
structure Lk.Ok (s : Lk) (N : Int) : Prop where
  uniq : Uniq s.l
  w : ∀ t ∈ s.l, W64 t.w
  held : s.held = sumH s.l
  len : (s.l.length : Int) ≤ N
  t0 : 0 ≤ s.taken
  t1 : s.taken ≤ N
theorem Lk.Ok.h {s : Lk} {N : Int} (h : s.Ok N) : 0 ≤ s.held ∧ s.held ≤ N := by
  have := sumH_le s.l
  have := h.held
  have := h.len
  omega
theorem Lk.Ok.more {s : Lk} {N M : Int} (h : s.Ok N) (hm : N ≤ M) : s.Ok M := ⟨h.uniq, h.w, h.held, by have := h.len; omega, h.t0, by have := h.t1; omega⟩
def addS (s : Lk) (x g : Int) : Lk × Int := if 0 ≤ x ∧ x < 4096 ∧ 1 ≤ g then (match getW s.l x g with | some _ => (s, 8) | none => ({ s with l := putW s.l x g 0 }, 0)) else (s, 2)
def goneS (s : Lk) (x g : Int) : Lk × Int := match getW s.l x g with | none => (s, 5) | some t => ({ s with held := s.held - heldN t.w, l := delW s.l x g }, 0)
def lockB (s : Lk) (x g w : Int) : Bool := (getW s.l x g).isSome && (zeroW (getW s.l x g) == w) && (w % 4 == 0)
def lockS (s : Lk) (x g w : Int) : Lk := if lockB s x g w = true then { held := s.held + 1, taken := s.taken + 1, l := putW s.l x g (w + 1) } else s
def relS (f : Int → Int) (s : Lk) (x g : Int) : Lk × Int := match getW s.l x g with | none => (s, 5) | some t => if t.w % 4 = 1 then ({ s with held := s.held - 1, l := putW s.l x g (f t.w) }, 0) else (s, 15)
theorem add_ok {s : Lk} {N : Int} (h : s.Ok N) (x g : Int) : (addS s x g).1.Ok (N + 1) := by
  unfold addS
  split
  · cases hg : getW s.l x g with
    | some t => exact h.more (by omega)
    | none => exact ⟨uniq_put h.uniq _ _ _, put_w h.w ⟨by omega, by omega⟩, by show s.held = sumH (putW s.l x g 0); rw [sumH_new hg, h.held]; simp [heldN], by show ((putW s.l x g 0).length : Int) ≤ _; have := len_put s.l x g 0; have := h.len; omega, h.t0, by show s.taken ≤ _; have := h.t1; omega⟩
  · exact h.more (by omega)
theorem gone_ok {s : Lk} {N : Int} (h : s.Ok N) (x g : Int) : (goneS s x g).1.Ok N := by
  unfold goneS
  cases hg : getW s.l x g with
  | none => exact h
  | some t => exact ⟨uniq_del h.uniq _ _, fun t ht => h.w t (List.mem_filter.1 ht).1, by show s.held - heldN t.w = sumH (delW s.l x g); rw [sumH_del h.uniq hg, h.held], by show ((delW s.l x g).length : Int) ≤ _; have := len_del s.l x g; have := h.len; omega, h.t0, h.t1⟩
theorem lock_some {s : Lk} {x g w : Int} (h : lockB s x g w = true) : ∃ t, getW s.l x g = some t ∧ t.w = w ∧ w % 4 = 0 := by
  unfold lockB at h
  cases hg : getW s.l x g with
  | none => rw [hg] at h; simp at h
  | some t =>
    rw [hg] at h
    simp only [Option.isSome_some, zeroW, Bool.true_and, Bool.and_eq_true, beq_iff_eq] at h
    exact ⟨t, rfl, h.1, h.2⟩
theorem lock_ok {s : Lk} {N : Int} (h : s.Ok N) (x g w : Int) : (lockS s x g w).Ok (N + 1) := by
  unfold lockS
  split
  · rename_i hb
    obtain ⟨t, hg, rfl, h4⟩ := lock_some hb
    have h64 := h.w t (mem_get hg).1
    have e1 : heldN t.w = 0 := by unfold heldN; rw [if_neg (by omega)]
    have e2 : heldN (t.w + 1) = 1 := by unfold heldN; rw [if_pos (by omega)]
    exact ⟨uniq_put h.uniq _ _ _, put_w h.w ⟨by have := h64.1; omega, by have := h64.2; omega⟩, by show s.held + 1 = sumH (putW s.l x g (t.w + 1)); rw [sumH_put h.uniq hg, h.held, e1, e2]; omega, by show ((putW s.l x g (t.w + 1)).length : Int) ≤ _; rw [len_put_some hg]; have := h.len; omega, by show 0 ≤ s.taken + 1; have := h.t0; omega, by show s.taken + 1 ≤ _; have := h.t1; omega⟩
  · exact h.more (by omega)
theorem rel_ok {s : Lk} {N : Int} (h : s.Ok N) (f : Int → Int) (hf : ∀ n, W64 n → n % 4 = 1 → W64 (f n) ∧ ¬ f n % 4 = 1) (x g : Int) : (relS f s x g).1.Ok N := by
  unfold relS
  cases hg : getW s.l x g with
  | none => exact h
  | some t =>
    dsimp only
    split
    · rename_i h4
      have h64 := h.w t (mem_get hg).1
      obtain ⟨f1, f2⟩ := hf t.w h64 h4
      have e1 : heldN t.w = 1 := by unfold heldN; rw [if_pos h4]
      have e2 : heldN (f t.w) = 0 := by unfold heldN; rw [if_neg f2]
      exact ⟨uniq_put h.uniq _ _ _, put_w h.w f1, by show s.held - 1 = sumH (putW s.l x g (f t.w)); rw [sumH_put h.uniq hg, h.held, e1, e2]; omega, by show ((putW s.l x g (f t.w)).length : Int) ≤ _; rw [len_put_some hg]; exact h.len, h.t0, h.t1⟩
    · exact h
theorem drop_rel (n : Int) (h : W64 n) (h1 : n % 4 = 1) : W64 (n - 1) ∧ ¬ (n - 1) % 4 = 1 := ⟨⟨by have := h.1; omega, by have := h.2; omega⟩, by omega⟩
theorem done_rel (n : Int) (_ : W64 n) (h1 : n % 4 = 1) : W64 (doneV n) ∧ ¬ doneV n % 4 = 1 := ⟨doneV_W n, by unfold doneV; omega⟩
theorem kill_rel (n : Int) (_ : W64 n) (h1 : n % 4 = 1) : W64 (killV n) ∧ ¬ killV n % 4 = 1 := ⟨killV_W n, by unfold killV; omega⟩
end Go.Proofs.Ythhmbmeajgjhcaa
