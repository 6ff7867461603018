/- Plain facts on the texts of words: what their digits spell, how they end, that different words have different texts. -/
import Derived.Test.YtjkocklfnapdaaaDoorShow
import Derived.Lib.ParseIntBCases
namespace Go.Proofs.YtjkocklfnapdaaaDoor
open Go.RowKit

def isD (c : UInt8) : Prop := 48 ≤ c.toNat ∧ c.toNat ≤ 57
def val (acc : Nat) (l : List UInt8) : Nat := l.foldl (fun a c => a * 10 + (c.toNat - 48)) acc

theorem dec_digits (u : Nat) : ∀ c ∈ Lib.decDigits u, isD c := by
  induction u using Nat.strongRecOn with
  | ind u ih =>
    rw [Lib.decDigits]
    intro c hc
    by_cases h : u < 10
    · rw [dif_pos h] at hc
      simp at hc; subst hc
      unfold isD; simp [UInt8.toNat_ofNat']; omega
    · rw [dif_neg h] at hc
      rcases List.mem_append.1 hc with hc | hc
      · exact ih _ (by omega) c hc
      · simp at hc; subst hc
        unfold isD; simp [UInt8.toNat_ofNat']; omega

theorem dec_ne (u : Nat) : Lib.decDigits u ≠ [] := by
  rw [Lib.decDigits]; split <;> simp

theorem dec_val (u : Nat) : val 0 (Lib.decDigits u) = u := by
  induction u using Nat.strongRecOn with
  | ind u ih =>
    rw [Lib.decDigits]
    by_cases h : u < 10
    · rw [dif_pos h]; simp [val, UInt8.toNat_ofNat']; omega
    · rw [dif_neg h]
      have := ih (u / 10) (by omega)
      unfold val at this ⊢
      rw [List.foldl_append, this]
      simp [UInt8.toNat_ofNat']; omega

theorem val_le (l : List UInt8) : ∀ acc, acc ≤ val acc l := by
  induction l with
  | nil => intro acc; simp [val]
  | cons c l ih =>
    intro acc
    have := ih (acc * 10 + (c.toNat - 48))
    simp only [val, List.foldl_cons] at this ⊢
    omega

theorem parseM_val : ∀ (l : List UInt8) (acc : Nat), (∀ c ∈ l, isD c) → val acc l ≤ 18446744073709551615 → Lib.parseUintM 18446744073709551615 acc l = .ok (val acc l)
  | [], acc, _, _ => by simp [Lib.parseUintM, val]
  | c :: l, acc, hd, hm => by
    have h1 : 48 ≤ c.toNat ∧ c.toNat ≤ 57 := hd c (by simp)
    have h2 : val acc (c :: l) = val (acc * 10 + (c.toNat - 48)) l := rfl
    have h3 := val_le l (acc * 10 + (c.toNat - 48))
    rw [h2] at hm ⊢
    unfold Lib.parseUintM
    rw [if_pos h1, if_neg (by omega), if_neg (by omega)]
    exact parseM_val l _ (fun x hx => hd x (by simp [hx])) hm

theorem parse_dec (u : Nat) (h : u < 18446744073709551616) : Lib.parseUintB 64 (Lib.decDigits u) = .ok u := by
  unfold Lib.parseUintB
  rw [if_neg (dec_ne u)]
  have := parseM_val (Lib.decDigits u) 0 (dec_digits u) (by rw [dec_val]; omega)
  rw [dec_val] at this
  exact this

/- How a text ends. -/
theorem suffix_one (l : List UInt8) (c : UInt8) : Lib.hasSuffix l [c] = (l.getLast? == some c) := by
  rw [Bool.eq_iff_iff]
  unfold Lib.hasSuffix
  rw [List.isSuffixOf_iff_suffix, beq_iff_eq]
  constructor
  · rintro ⟨t, rfl⟩; simp
  · intro h
    obtain ⟨t, ht⟩ := List.getLast?_eq_some_iff.1 h
    exact ⟨t, ht.symm⟩

theorem trim_one_yes (l : List UInt8) (c : UInt8) : Lib.trimSuffix (l ++ [c]) [c] = l := by
  unfold Lib.trimSuffix
  rw [suffix_one, if_pos (by simp)]
  simp

theorem trim_one_no (l : List UInt8) (c : UInt8) (h : Lib.hasSuffix l [c] = false) : Lib.trimSuffix l [c] = l := by
  unfold Lib.trimSuffix
  rw [h]; simp

theorem dec_last (u : Nat) : ∃ c, (Lib.decDigits u).getLast? = some c ∧ isD c := by
  have h := dec_ne u
  refine ⟨_, List.getLast?_eq_some_getLast h, dec_digits u _ (List.getLast_mem h)⟩

def plusL (b : Bool) : List UInt8 := if b then [43] else []
def deadL (b : Bool) : List UInt8 := if b then [120] else []
theorem showL_eq (m : Nat) : showL m = Lib.decDigits (m / 4) ++ plusL (decide (m % 2 = 1)) ++ deadL (decide (m / 2 % 2 = 1)) := by
  unfold showL plusL deadL; simp

theorem cut_dead (A : List UInt8) (d : Bool) (h : Lib.hasSuffix A [120] = false) : Lib.hasSuffix (A ++ deadL d) [120] = d ∧ Lib.trimSuffix (A ++ deadL d) [120] = A := by
  cases d
  · simp only [deadL, Bool.false_eq_true, if_false, List.append_nil]
    exact ⟨h, trim_one_no A _ h⟩
  · simp only [deadL, if_true]
    exact ⟨by rw [suffix_one]; simp, trim_one_yes A _⟩

theorem cut_plus (u : Nat) (l : Bool) : Lib.hasSuffix (Lib.decDigits u ++ plusL l) [43] = l ∧ Lib.trimSuffix (Lib.decDigits u ++ plusL l) [43] = Lib.decDigits u := by
  cases l
  · have h : Lib.hasSuffix (Lib.decDigits u) [43] = false := by
      obtain ⟨c, hc, hd⟩ := dec_last u
      rw [suffix_one, hc]
      simp; intro e; subst e; exact absurd hd (by unfold isD; decide)
    simp only [plusL, Bool.false_eq_true, if_false, List.append_nil]
    exact ⟨h, trim_one_no _ _ h⟩
  · simp only [plusL, if_true]
    exact ⟨by rw [suffix_one]; simp, trim_one_yes _ _⟩

theorem no_dead (u : Nat) (l : Bool) : Lib.hasSuffix (Lib.decDigits u ++ plusL l) [120] = false := by
  cases l
  · obtain ⟨c, hc, hd⟩ := dec_last u
    simp only [plusL, Bool.false_eq_true, if_false, List.append_nil]
    rw [suffix_one, hc]
    simp; intro e; subst e; exact absurd hd (by unfold isD; decide)
  · simp only [plusL, if_true]
    rw [suffix_one]; simp

/-- Different words have different texts. -/
theorem showL_inj {m o : Nat} (h : showL m = showL o) : m = o := by
  rw [showL_eq, showL_eq] at h
  have a := cut_dead _ (decide (m / 2 % 2 = 1)) (no_dead (m / 4) (decide (m % 2 = 1)))
  have b := cut_dead _ (decide (o / 2 % 2 = 1)) (no_dead (o / 4) (decide (o % 2 = 1)))
  rw [h] at a
  have e1 := a.1.symm.trans b.1
  have e2 := a.2.symm.trans b.2
  have c := cut_plus (m / 4) (decide (m % 2 = 1))
  have d := cut_plus (o / 4) (decide (o % 2 = 1))
  rw [e2] at c
  have e3 := c.1.symm.trans d.1
  have e4 := c.2.symm.trans d.2
  have e5 : m / 4 = o / 4 := by rw [← dec_val (m / 4), e4, dec_val]
  simp only [decide_eq_decide] at e1 e3
  omega

end Go.Proofs.YtjkocklfnapdaaaDoor
