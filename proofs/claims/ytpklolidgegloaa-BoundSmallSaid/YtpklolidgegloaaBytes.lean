/- The order of texts, byte by byte. -/
import Derived.Test.YtpklolidgegloaaKit
import Derived.Laws.Cover1
namespace Go.Proofs.Ytpklolidgegloaa

abbrev bl := Op.bytesLess
theorem bl_nil (a : List UInt8) : bl a [] = false := by cases a <;> rfl
theorem bl_cons (a b : UInt8) (x y : List UInt8) : bl (a :: x) (b :: y) = (decide (a < b) || (a == b && bl x y)) := rfl
theorem bl_self : ∀ x, bl x x = false
  | [] => rfl
  | a :: x => by
    rw [bl_cons, bl_self x]
    have : ¬ a < a := by simp
    simp [this]
theorem bl_ne {x y : List UInt8} (h : bl x y = true) : x ≠ y := by
  rintro rfl
  rw [bl_self] at h
  cases h

/-- p begins s. -/
def pre : List UInt8 → List UInt8 → Bool
  | [], _ => true
  | _ :: _, [] => false
  | a :: x, b :: y => a == b && pre x y
theorem pre_iff : ∀ p s, pre p s = (decide (p.length ≤ s.length) && (s.take p.length == p))
  | [], s => by simp [pre]
  | _ :: _, [] => by simp [pre]
  | a :: x, b :: y => by
    simp only [pre, pre_iff x y, List.length_cons, List.take_succ_cons]
    by_cases h : a = b
    · subst h; simp
    · have h1 : (a == b) = false := by simpa using h
      have h2 : ¬ b = a := fun e => h e.symm
      simp [h1, h2]
theorem pre_append (p s : List UInt8) : pre p (p ++ s) = true := by
  induction p with
  | nil => rfl
  | cons a p ih => simp [pre, ih]

theorem after_above : ∀ p, (bl (p ++ [0]) p || p ++ [0] == p) = false
  | [] => rfl
  | a :: p => by
    have ih := after_above p
    have hl : ¬ a < a := by simp
    simp only [Bool.or_eq_false_iff] at ih
    simp only [List.cons_append, bl_cons, ih.1]
    simp [hl]
theorem after_least : ∀ p s, ((!(bl s p || s == p)) && bl s (p ++ [0])) = false
  | [], [] => rfl
  | [], b :: s => by
    have hl : ¬ b < 0 := by simp [UInt8.lt_iff_toNat_lt]
    simp [bl_cons, bl_nil, hl]
  | a :: p, [] => rfl
  | a :: p, b :: s => by
    have ih := after_least p s
    have hl : ¬ a < a := by simp
    by_cases h : b = a
    · subst h
      simp only [List.cons_append, bl_cons]
      simpa [hl] using ih
    · have h1 : (b == a) = false := by simpa using h
      by_cases h2 : b < a <;> simp [bl_cons, h1, h2]

theorem begins_all : ∀ p s, (∀ c ∈ p, c = 255) → pre p s = !bl s p
  | [], s, _ => by simp [pre, bl_nil]
  | _ :: _, [], _ => rfl
  | a :: p, b :: s, h => by
    obtain rfl : a = 255 := h a (by simp)
    rw [pre, bl_cons, begins_all p s (fun c hc => h c (by simp [hc]))]
    by_cases e : b = 255
    · subst e
      have hl : ¬ (255 : UInt8) < 255 := by decide
      simp [hl]
    · have e1 : ((255 : UInt8) == b) = false := by simpa using fun h => e h.symm
      have e2 : b < 255 := by
        have h1 : b.toNat < 256 := UInt8.toNat_lt b
        have h2 : b.toNat ≠ 255 := fun h => e (UInt8.toNat.inj h)
        rw [UInt8.lt_iff_toNat_lt]; show b.toNat < 255; omega
      simp [e1, e2]

theorem begins_to (c : UInt8) (ff : List UInt8) (hc : c ≠ 255) (hf : ∀ x ∈ ff, x = 255) : ∀ q s, pre (q ++ c :: ff) s = ((!bl s (q ++ c :: ff)) && bl s (q ++ [c + 1]))
  | [], [] => rfl
  | _ :: _, [] => rfl
  | [], b :: s => by
    have hn : c.toNat ≠ 255 := fun h => hc (UInt8.toNat.inj h)
    have hl : c.toNat < 256 := UInt8.toNat_lt c
    have hs : (c + 1).toNat = c.toNat + 1 := by rw [UInt8.toNat_add]; simp; omega
    simp only [List.nil_append, pre, bl_cons, bl_nil, begins_all ff s hf]
    rcases Nat.lt_trichotomy b.toNat c.toNat with h | h | h
    · have e1 : (c == b) = false := by simp; rintro rfl; omega
      have e2 : b < c := by rw [UInt8.lt_iff_toNat_lt]; exact h
      simp [e1, e2]
    · obtain rfl : b = c := UInt8.toNat.inj h
      have e1 : ¬ b < b := by simp
      have e2 : b < b + 1 := by rw [UInt8.lt_iff_toNat_lt, hs]; omega
      simp [e1, e2]
    · have e1 : (c == b) = false := by simp; rintro rfl; omega
      have e2 : ¬ b < c := by rw [UInt8.lt_iff_toNat_lt]; omega
      have e3 : ¬ b < c + 1 := by rw [UInt8.lt_iff_toNat_lt, hs]; omega
      simp [e1, e2, e3]
  | d :: q, b :: s => by
    simp only [List.cons_append, pre, bl_cons, begins_to c ff hc hf q s]
    have hl : ¬ d < d := by simp
    by_cases h : b = d
    · subst h; simp [hl]
    · have h1 : (b == d) = false := by simpa using h
      have h3 : (d == b) = false := by simpa using fun e => h e.symm
      by_cases h2 : b < d <;> simp [h1, h2, h3]
theorem to_above (c : UInt8) (ff : List UInt8) (hc : c ≠ 255) : ∀ q, (!(bl (q ++ [c + 1]) (q ++ c :: ff) || q ++ [c + 1] == q ++ c :: ff)) = true
  | [] => by
    have hn : c.toNat ≠ 255 := fun h => hc (UInt8.toNat.inj h)
    have hl : c.toNat < 256 := UInt8.toNat_lt c
    have hs : (c + 1).toNat = c.toNat + 1 := by rw [UInt8.toNat_add]; simp; omega
    have e1 : ¬ c + 1 < c := by rw [UInt8.lt_iff_toNat_lt, hs]; omega
    have e2 : ¬ c + 1 = c := fun e => by have := congrArg UInt8.toNat e; omega
    have e3 : (c + 1 == c) = false := by simp
    simp only [List.nil_append, bl_cons, e3]
    simp [e1, e2]
  | d :: q => by
    have ih := to_above c ff hc q
    have hl : ¬ d < d := by simp
    simp only [List.cons_append, bl_cons]
    simp [hl]
    simpa using ih

/-- Some text with the prefix p is not below f. -/
theorem reach_not : ∀ p f, bl p (f.take p.length) = true → bl p f = true ∧ pre p f = false ∧ p ≠ [] ∧ ∀ s, bl (p ++ s) f = true
  | [], f, h => by cases h
  | _ :: _, [], h => by cases h
  | a :: p, b :: f, h => by
    rw [List.length_cons, List.take_succ_cons, bl_cons] at h
    have hl : ¬ b < b := by simp
    by_cases e : a = b
    · subst e
      have h' : bl p (f.take p.length) = true := by simpa [hl] using h
      obtain ⟨h1, h2, _, h4⟩ := reach_not p f h'
      refine ⟨by simp [bl_cons, h1], by simp [pre, h2], by simp, fun s => by simp [bl_cons, h4 s]⟩
    · have e1 : (a == b) = false := by simpa using e
      have e2 : a < b := by simpa [e1] using h
      exact ⟨by simp [bl_cons, e2], by simp [pre, e1], by simp, fun s => by simp [bl_cons, e2]⟩
theorem reach_yes : ∀ p f, bl p (f.take p.length) = false → bl p f = true → pre p f = true
  | [], f, _, _ => rfl
  | _ :: _, [], _, h => by cases h
  | a :: p, b :: f, h, k => by
    rw [List.length_cons, List.take_succ_cons, bl_cons] at h
    rw [bl_cons] at k
    by_cases e : a = b
    · subst e
      have hl : ¬ a < a := by simp
      have h' : bl p (f.take p.length) = false := by simpa [hl] using h
      have k' : bl p f = true := by simpa [hl] using k
      simp [pre, reach_yes p f h' k']
    · have e1 : (a == b) = false := by simpa using e
      have e2 : ¬ a < b := by intro hh; simp [hh] at h
      simp [e1, e2] at k
theorem bl_append : ∀ p s, bl (p ++ s) p = false
  | [], s => bl_nil _
  | a :: p, s => by
    have hl : ¬ a < a := by simp
    simp [bl_cons, hl, bl_append p s]
theorem bl_take : ∀ (f : List UInt8) n p, bl p f = false → (bl (f.take n) p || f.take n == p) = true ∨ bl (f.take n) p = true
  | [], n, [], _ => by simp
  | [], n, _ :: _, _ => by right; simp [bl, Op.bytesLess]
  | b :: f, 0, [], h => by simp
  | b :: f, 0, _ :: _, _ => by right; simp [bl, Op.bytesLess]
  | b :: f, n + 1, [], h => by cases h
  | b :: f, n + 1, a :: p, h => by
    rw [bl_cons] at h
    rw [List.take_succ_cons, bl_cons]
    by_cases e : b = a
    · subst e
      have hl : ¬ b < b := by simp
      have h' : bl p f = false := by simpa [hl] using h
      rcases bl_take f n p h' with k | k
      · left; simpa [hl] using k
      · right; simp [k]
    · have e1 : ¬ a < b := by intro hh; simp [hh] at h
      have e2 : b < a := by
        rw [UInt8.lt_iff_toNat_lt] at e1 ⊢
        have : b.toNat ≠ a.toNat := fun hh => e (UInt8.toNat.inj hh)
        omega
      right; simp [e2]

end Go.Proofs.Ytpklolidgegloaa
