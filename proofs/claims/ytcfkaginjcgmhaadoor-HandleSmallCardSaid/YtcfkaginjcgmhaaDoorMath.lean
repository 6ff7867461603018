/- Handles and their texts: digits, letters, and what a loose reading finds; no program. -/
import Derived.Test.YtcfkaginjcgmhaaDoorView
import Derived.Test.YtcfkaginjcgmhaaDoorFormat
import Derived.Lib.ParseIntBCases
import Derived.Lib.IndexMore
namespace Go.Proofs.YtcfkaginjcgmhaaDoor
open Go.RowKit

def isD (c : UInt8) : Prop := 48 ≤ c.toNat ∧ c.toNat ≤ 57
def val (acc : Nat) (l : List UInt8) : Nat := l.foldl (fun a c => a * 10 + (c.toNat - 48)) acc

theorem dec_digits (u : Nat) : ∀ c ∈ Lib.decDigits u, isD c := by
  induction u using Nat.strongRecOn with
  | ind u ih =>
    rw [Lib.decDigits]
    intro c hc
    by_cases h : u < 10
    · rw [dif_pos h] at hc
      simp at hc; subst hc
      unfold isD; simp [UInt8.toNat_ofNat']; omega
    · rw [dif_neg h] at hc
      rcases List.mem_append.1 hc with hc | hc
      · exact ih _ (by omega) c hc
      · simp at hc; subst hc
        unfold isD; simp [UInt8.toNat_ofNat']; omega

theorem dec_ne (u : Nat) : Lib.decDigits u ≠ [] := by
  rw [Lib.decDigits]; split <;> simp

theorem dec_val (u : Nat) : val 0 (Lib.decDigits u) = u := by
  induction u using Nat.strongRecOn with
  | ind u ih =>
    rw [Lib.decDigits]
    by_cases h : u < 10
    · rw [dif_pos h]; simp [val, UInt8.toNat_ofNat']; omega
    · rw [dif_neg h]
      have := ih (u / 10) (by omega)
      unfold val at this ⊢
      rw [List.foldl_append, this]
      simp [UInt8.toNat_ofNat']; omega

theorem val_le (l : List UInt8) : ∀ acc, acc ≤ val acc l := by
  induction l with
  | nil => intro acc; simp [val]
  | cons c l ih =>
    intro acc
    have := ih (acc * 10 + (c.toNat - 48))
    simp only [val, List.foldl_cons] at this ⊢
    omega

theorem parseM_val (M : Nat) (hM : M ≤ 18446744073709551615) : ∀ (l : List UInt8) (acc : Nat), (∀ c ∈ l, isD c) → val acc l ≤ M → Lib.parseUintM M acc l = .ok (val acc l)
  | [], acc, _, _ => by simp [Lib.parseUintM, val]
  | c :: l, acc, hd, hm => by
    have h1 : 48 ≤ c.toNat ∧ c.toNat ≤ 57 := hd c (by simp)
    have h2 : val acc (c :: l) = val (acc * 10 + (c.toNat - 48)) l := rfl
    have h3 := val_le l (acc * 10 + (c.toNat - 48))
    rw [h2] at hm ⊢
    unfold Lib.parseUintM
    rw [if_pos h1, if_neg (by omega), if_neg (by omega)]
    exact parseM_val M hM l _ (fun x hx => hd x (by simp [hx])) hm

theorem parse_dec (u : Nat) (h : u < 4294967296) : Lib.parseUintB 32 (Lib.decDigits u) = .ok u := by
  unfold Lib.parseUintB
  rw [if_neg (dec_ne u)]
  have := parseM_val 4294967295 (by omega) (Lib.decDigits u) 0 (dec_digits u) (by rw [dec_val]; omega)
  rw [dec_val] at this
  exact this

theorem parse_lt (l : List UInt8) (u : Nat) (h : Lib.parseUintB 32 l = .ok u) : u < 4294967296 := by
  have := Lib.parseUintM_le 4294967295 l 0 u (by omega) (by
    unfold Lib.parseUintB at h
    split at h
    · cases h
    · exact h)
  omega

/-- P16.2: the letters of rights, and the text of a handle. -/
def lettersL (r : Nat) : List UInt8 := (if r % 2 = 1 then [114] else []) ++ (if r / 2 % 2 = 1 then [119] else []) ++ (if r / 4 % 2 = 1 then [115] else [])
def textL (t g r : Nat) : List UInt8 := Lib.decDigits t ++ [46] ++ Lib.decDigits g ++ [46] ++ lettersL r
def textB (t g r : Nat) : ByteArray := ⟨(textL t g r).toArray⟩
theorem textB_list (t g r : Nat) : (textB t g r).data.toList = textL t g r := by simp [textB]

/- Cutting at a point. -/
theorem index_point (a b : List UInt8) (h : ∀ c ∈ a, c ≠ 46) : Lib.indexByte (a ++ 46 :: b) 46 = a.length := by
  induction a with
  | nil => simp [Lib.indexByte]
  | cons x a ih =>
    have hx : (x == 46) = false := by rw [beq_eq_false_iff_ne]; exact h x (by simp)
    have := ih (fun c hc => h c (by simp [hc]))
    rw [List.cons_append, Lib.indexByte, hx, this]
    have : (((a.length : Nat) : Int) == -1) = false := by rw [beq_eq_false_iff_ne]; omega
    simp [this]

theorem isD_ne {c : UInt8} (h : isD c) : c ≠ 46 := by
  rintro rfl; exact absurd h (by unfold isD; decide)

/-- Around the first point of a list: what lies before it, and behind it. -/
def cutP (l : List UInt8) : List UInt8 × List UInt8 := if 0 ≤ Lib.indexByte l 46 then (l.take (Lib.indexByte l 46).toNat, l.drop ((Lib.indexByte l 46).toNat + 1)) else (l, [])
theorem cutP_point (a b : List UInt8) (h : ∀ c ∈ a, c ≠ 46) : cutP (a ++ 46 :: b) = (a, b) := by
  unfold cutP
  rw [index_point a b h, if_pos (by omega)]
  simp
theorem cutP_text (t g r : Nat) : cutP (textL t g r) = (Lib.decDigits t, Lib.decDigits g ++ [46] ++ lettersL r) ∧ cutP (Lib.decDigits g ++ [46] ++ lettersL r) = (Lib.decDigits g, lettersL r) := by
  constructor
  · have := cutP_point (Lib.decDigits t) (Lib.decDigits g ++ [46] ++ lettersL r) (fun c hc => isD_ne (dec_digits t c hc))
    rw [← this]; simp [textL]
  · have := cutP_point (Lib.decDigits g) (lettersL r) (fun c hc => isD_ne (dec_digits g c hc))
    rw [← this]; simp

/-- The rights that a text has letters of. -/
def rightsN (l : List UInt8) : Nat := (if 0 ≤ Lib.indexByte l 114 then 1 else 0) + (if 0 ≤ Lib.indexByte l 119 then 2 else 0) + (if 0 ≤ Lib.indexByte l 115 then 4 else 0)
theorem rightsN_lt (l : List UInt8) : rightsN l < 8 := by unfold rightsN; split <;> split <;> split <;> omega
theorem rights_letters (r : Nat) (h : r < 8) : rightsN (lettersL r) = r := by
  have : ∀ r, r < 8 → rightsN (lettersL r) = r := by decide
  exact this r h

/-- The number that a text spells, at most 32 bits of it; 0 if it is none. -/
def numN (l : List UInt8) : Nat := match Lib.parseUintB 32 l with
  | .ok u => u
  | _ => 0
theorem numN_dec (u : Nat) (h : u < 4294967296) : numN (Lib.decDigits u) = u := by unfold numN; rw [parse_dec u h]
theorem numN_lt (l : List UInt8) : numN l < 4294967296 := by
  unfold numN
  split
  · rename_i u h; exact parse_lt l u h
  · omega

/-- P16.2: what a text reads as. -/
def okN (t g r : Nat) : Prop := 1 ≤ t ∧ t ≤ 16 ∧ 1 ≤ g ∧ g < 4294967296 ∧ 1 ≤ r ∧ r ≤ 7
instance (t g r : Nat) : Decidable (okN t g r) := by unfold okN; infer_instance

/-- How the loose reading goes on by a byte: three numbers, the field, the letters. -/
structure Loose where
  a : Nat
  b : Nat
  c : Nat
  f : Nat
  r : Nat
def Loose.num (s : Loose) (d : Nat) : Loose :=
  if s.f = 0 then { s with a := (s.a * 10 + d) % 1099511627776 } else if s.f = 1 then { s with b := (s.b * 10 + d) % 1099511627776 } else { s with c := (s.c * 10 + d) % 1099511627776 }
def orN (r k : Nat) : Nat := if r / k % 2 = 1 then r else r + k
def Loose.step (s : Loose) (x : UInt8) : Loose :=
  if x.toNat = 46 then { s with f := if s.f < 2 then s.f + 1 else 2 }
  else if 48 ≤ x.toNat ∧ x.toNat ≤ 57 then s.num (x.toNat - 48)
  else if x.toNat = 114 then { s with r := orN s.r 1 }
  else if x.toNat = 119 then { s with r := orN s.r 2 }
  else if x.toNat = 115 then { s with r := orN s.r 4 }
  else s
def looseL (l : List UInt8) : Loose := l.foldl Loose.step ⟨0, 0, 0, 0, 0⟩
def Loose.Fit (s : Loose) : Prop := s.a < 1099511627776 ∧ s.b < 1099511627776 ∧ s.c < 1099511627776 ∧ s.f ≤ 2 ∧ s.r < 8
theorem orN_lt {r k : Nat} (h : r < 8) (hk : k = 1 ∨ k = 2 ∨ k = 4) : orN r k < 8 := by
  have : ∀ r, r < 8 → orN r 1 < 8 ∧ orN r 2 < 8 ∧ orN r 4 < 8 := by decide
  rcases hk with rfl | rfl | rfl
  · exact (this r h).1
  · exact (this r h).2.1
  · exact (this r h).2.2
theorem Loose.Fit.step {s : Loose} (h : s.Fit) (x : UInt8) : (s.step x).Fit := by
  obtain ⟨h1, h2, h3, h4, h5⟩ := h
  unfold Loose.step
  split
  · refine ⟨h1, h2, h3, ?_, h5⟩
    dsimp only
    split <;> omega
  · split
    · unfold Loose.num
      split
      · exact ⟨Nat.mod_lt _ (by omega), h2, h3, h4, h5⟩
      · split
        · exact ⟨h1, Nat.mod_lt _ (by omega), h3, h4, h5⟩
        · exact ⟨h1, h2, Nat.mod_lt _ (by omega), h4, h5⟩
    · split
      · exact ⟨h1, h2, h3, h4, orN_lt h5 (.inl rfl)⟩
      · split
        · exact ⟨h1, h2, h3, h4, orN_lt h5 (.inr (.inl rfl))⟩
        · split
          · exact ⟨h1, h2, h3, h4, orN_lt h5 (.inr (.inr rfl))⟩
          · exact ⟨h1, h2, h3, h4, h5⟩

/-- Digits in a field. -/
theorem loose_digits (l : List UInt8) : ∀ (s : Loose), (∀ c ∈ l, isD c) →
    (s.f = 0 → val s.a l < 1099511627776 → l.foldl Loose.step s = { s with a := val s.a l }) ∧ (s.f = 1 → val s.b l < 1099511627776 → l.foldl Loose.step s = { s with b := val s.b l }) := by
  induction l with
  | nil => intro s _; exact ⟨fun _ _ => rfl, fun _ _ => rfl⟩
  | cons x l ih =>
    intro s hd
    have hx : 48 ≤ x.toNat ∧ x.toNat ≤ 57 := hd x (by simp)
    have hl := fun c hc => hd c (List.mem_cons_of_mem x hc)
    have hst : s.step x = s.num (x.toNat - 48) := by unfold Loose.step; rw [if_neg (by omega), if_pos hx]
    refine ⟨fun hf hv => ?_, fun hf hv => ?_⟩
    · have h2 : val s.a (x :: l) = val (s.a * 10 + (x.toNat - 48)) l := rfl
      have h3 := val_le l (s.a * 10 + (x.toNat - 48))
      rw [h2] at hv ⊢
      have hn : s.num (x.toNat - 48) = { s with a := s.a * 10 + (x.toNat - 48) } := by
        unfold Loose.num; rw [if_pos hf, Nat.mod_eq_of_lt (by omega)]
      rw [List.foldl_cons, hst, hn]
      exact (ih _ hl).1 hf hv
    · have h2 : val s.b (x :: l) = val (s.b * 10 + (x.toNat - 48)) l := rfl
      have h3 := val_le l (s.b * 10 + (x.toNat - 48))
      rw [h2] at hv ⊢
      have hn : s.num (x.toNat - 48) = { s with b := s.b * 10 + (x.toNat - 48) } := by
        unfold Loose.num; rw [if_neg (by omega), if_pos hf, Nat.mod_eq_of_lt (by omega)]
      rw [List.foldl_cons, hst, hn]
      exact (ih _ hl).2 hf hv

theorem loose_letters (r : Nat) (h : r < 8) (s : Loose) (hs : s.r = 0) : (lettersL r).foldl Loose.step s = { s with r := r } := by
  obtain ⟨a, b, c, f, q⟩ := s
  dsimp only at hs
  subst hs
  have h1 : ∀ r, r < 8 → r = 0 ∨ r = 1 ∨ r = 2 ∨ r = 3 ∨ r = 4 ∨ r = 5 ∨ r = 6 ∨ r = 7 := by omega
  rcases h1 r h with rfl | rfl | rfl | rfl | rfl | rfl | rfl | rfl <;> simp [lettersL, Loose.step, orN]

/-- A text is read as its handle. -/
theorem loose_text (t g r : Nat) (h : okN t g r) : looseL (textL t g r) = ⟨t, g, 0, 2, r⟩ := by
  obtain ⟨h1, h2, h3, h4, h5, h6⟩ := h
  unfold looseL textL
  rw [List.foldl_append, List.foldl_append, List.foldl_append, List.foldl_append]
  rw [(loose_digits _ ⟨0, 0, 0, 0, 0⟩ (dec_digits t)).1 rfl (by show val 0 _ < _; rw [dec_val]; omega)]
  have e1 : List.foldl Loose.step { a := val 0 (Lib.decDigits t), b := 0, c := 0, f := 0, r := 0 } [46] = ⟨t, 0, 0, 1, 0⟩ := by rw [dec_val]; rfl
  rw [show ({ (⟨0, 0, 0, 0, 0⟩ : Loose) with a := val (⟨0, 0, 0, 0, 0⟩ : Loose).a (Lib.decDigits t) } : Loose) = { a := val 0 (Lib.decDigits t), b := 0, c := 0, f := 0, r := 0 } from rfl, e1]
  rw [(loose_digits _ ⟨t, 0, 0, 1, 0⟩ (dec_digits g)).2 rfl (by show val 0 _ < _; rw [dec_val]; omega)]
  have e2 : List.foldl Loose.step { a := t, b := val 0 (Lib.decDigits g), c := 0, f := 1, r := 0 } [46] = ⟨t, g, 0, 2, 0⟩ := by rw [dec_val]; rfl
  rw [show ({ (⟨t, 0, 0, 1, 0⟩ : Loose) with b := val (⟨t, 0, 0, 1, 0⟩ : Loose).b (Lib.decDigits g) } : Loose) = { a := t, b := val 0 (Lib.decDigits g), c := 0, f := 1, r := 0 } from rfl, e2]
  rw [loose_letters r (by omega) _ rfl]

theorem textL_inj {t g r t' g' r' : Nat} (h : okN t g r) (h' : okN t' g' r') (e : textL t g r = textL t' g' r') : t = t' ∧ g = g' ∧ r = r' := by
  have a := loose_text t g r h
  have b := loose_text t' g' r' h'
  rw [e, b] at a
  simp only [Loose.mk.injEq] at a
  omega

/-- P16.2: what a text reads as: the valid handle whose text it is, if there is one. -/
def readZ (l : List UInt8) : Option (Nat × Nat × Nat) :=
  let s := looseL l
  if okN s.a s.b s.r ∧ textL s.a s.b s.r = l then some (s.a, s.b, s.r) else none
theorem readZ_some {l : List UInt8} {t g r : Nat} (h : okN t g r) (e : textL t g r = l) : readZ l = some (t, g, r) := by
  unfold readZ
  rw [← e, loose_text t g r h]
  simp [h]
theorem readZ_of {l : List UInt8} {t g r : Nat} (h : readZ l = some (t, g, r)) : okN t g r ∧ textL t g r = l := by
  unfold readZ at h
  dsimp only at h
  split at h
  · rename_i hc
    simp only [Option.some.injEq, Prod.mk.injEq] at h
    obtain ⟨rfl, rfl, rfl⟩ := h
    exact hc
  · cases h
theorem readZ_none {l : List UInt8} (h : readZ l = none) (t g r : Nat) (hk : okN t g r) : textL t g r ≠ l := fun e => by
  rw [readZ_some hk e] at h; cases h

theorem lettersL_length (r : Nat) : (lettersL r).length ≤ 3 := by
  unfold lettersL; split <;> split <;> split <;> simp
theorem dec_length (u : Nat) (h : u < 18446744073709551616) : (Lib.decDigits u).length ≤ 20 := by
  rw [Lib.decDigits_length]
  by_cases h0 : u = 0
  · subst h0; simp [Lib.nDigits]
  · have := Lib.numDigits_eq u (by omega) h; split at this <;> omega

end Go.Proofs.YtcfkaginjcgmhaaDoor
