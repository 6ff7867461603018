/- The iterator over a code's bytes. -/
import Derived.Test.YthkndfammlibpaaRd
namespace Go.Proofs.Ythkndfammlibpaa
open Go.RowKit Go.Shelf
attribute [local go_sem] Oper.semAt_some exi_round
set_option maxRecDepth 100000
set_option maxHeartbeats 2000000

/-- The two bytes that end a code, and those that stand for a 0. -/
abbrev zz : ByteArray := bz [0, 0]
abbrev zo : ByteArray := bz [0, 1]

/-- What a reader meets: the end and what follows it; a byte and what follows it; no code. -/
inductive Met where
  | fin (t : List UInt8)
  | byte (c : UInt8) (t : List UInt8)
  | broken
def met : List UInt8 → Met
  | [] => .broken
  | c :: t => if c = 0 then (match t with
      | [] => .broken
      | d :: t' => if d = 0 then .fin t' else if d = 1 then .byte 0 t' else .broken)
    else .byte c t

theorem begins_bz (l p : List UInt8) : begins (bz l) (bz p) = decide (p <+: l) := by
  have hs : ((bz l).extract 0 (bz p).size).toList = l.take p.length := by
    rw [ByteArray.toList_eq, extract_list, bz_size]; simp
  have hp : (bz p).toList = p := by rw [ByteArray.toList_eq]
  rw [begins, hs, hp, bz_size, bz_size, Bool.eq_iff_iff]
  simp only [Bool.and_eq_true, decide_eq_true_eq, beq_iff_eq]
  rw [List.prefix_iff_eq_take]
  constructor
  · rintro ⟨h1, h2⟩; exact h2.symm
  · intro h; exact ⟨by rw [h]; simp [List.length_take]; omega, h.symm⟩
theorem cut_bz (l p : List UInt8) : cut (bz l) (bz p) = bz (if p <+: l then l.drop p.length else l) := by
  rw [cut, begins_bz]
  by_cases h : p <+: l
  · simp only [h, decide_true, if_pos, bz_size]
    exact bytes_ext (by rw [extract_list]; simp [List.take_of_length_le])
  · simp [h]

theorem met_fin {l t : List UInt8} (h : met l = .fin t) : l = 0 :: 0 :: t := by
  cases l with
  | nil => cases h
  | cons c l =>
    unfold met at h; dsimp only at h
    split at h
    case isFalse => cases h
    case isTrue hc =>
      cases l with
      | nil => cases h
      | cons d l =>
        dsimp only at h
        split at h
        case isTrue hd => cases h; rw [hc, hd]
        case isFalse => split at h <;> cases h
theorem met_byte {l t : List UInt8} {c : UInt8} (h : met l = .byte c t) : (c = 0 ∧ l = 0 :: 1 :: t) ∨ (c ≠ 0 ∧ l = c :: t) := by
  cases l with
  | nil => cases h
  | cons x l =>
    unfold met at h; dsimp only at h
    split at h
    case isFalse hx => cases h; exact .inr ⟨hx, rfl⟩
    case isTrue hc =>
      cases l with
      | nil => cases h
      | cons d l =>
        dsimp only at h
        split at h
        case isTrue hd => cases h
        case isFalse hd0 =>
          split at h
          case isTrue hd => cases h; exact .inl ⟨rfl, by rw [hc, hd]⟩
          case isFalse => cases h
theorem met_broken {l : List UInt8} (h : met l = .broken) : ¬ [0, 0] <+: l ∧ ¬ [0, 1] <+: l ∧ ∀ c t, l = c :: t → c = 0 := by
  cases l with
  | nil => simp
  | cons x l =>
    unfold met at h; dsimp only at h
    split at h
    case isFalse hx => cases h
    case isTrue hc =>
      subst hc
      cases l with
      | nil => simp
      | cons d l =>
        dsimp only at h
        split at h
        case isTrue hd => cases h
        case isFalse hd0 =>
          split at h
          case isTrue hd => cases h
          case isFalse hd1 => 
            refine ⟨?_, ?_, by rintro c t e; cases e; rfl⟩
            · simp [List.cons_prefix_cons]; exact fun e => hd0 e.symm
            · simp [List.cons_prefix_cons]; exact fun e => hd1 e.symm

theorem skip_fin (n : Nat) (h1 : 3 ≤ n) (r : Nat) (l : List UInt8) (w : World) (h : Rest w r (bz l)) (t : List UInt8) (hm : met l = .fin t) :
    CallsIn (Exi Try.prog) n Try.prog 48 #[.pointer (some ⟨r, 0, none⟩), .string zz] w fun e w' => e = .returned (.bool true) ∧ Rest w' r (bz t) ∧ Turned [r] w w' := by
  have H := skip_in n h1 r (bz l) zz w h
  rw [begins_bz, cut_bz] at H
  obtain rfl := met_fin hm
  simpa [List.cons_prefix_cons] using H
theorem skip_end_no (n : Nat) (h1 : 3 ≤ n) (r : Nat) (l : List UInt8) (w : World) (h : Rest w r (bz l)) (hm : ¬ [0, 0] <+: l) :
    CallsIn (Exi Try.prog) n Try.prog 48 #[.pointer (some ⟨r, 0, none⟩), .string zz] w fun e w' => e = .returned (.bool false) ∧ Rest w' r (bz l) ∧ Turned [r] w w' := by
  have H := skip_in n h1 r (bz l) zz w h
  rw [begins_bz, cut_bz] at H
  simpa [hm] using H
theorem skip_esc (n : Nat) (h1 : 3 ≤ n) (r : Nat) (t : List UInt8) (w : World) (h : Rest w r (bz (0 :: 1 :: t))) :
    CallsIn (Exi Try.prog) n Try.prog 48 #[.pointer (some ⟨r, 0, none⟩), .string zo] w fun e w' => e = .returned (.bool true) ∧ Rest w' r (bz t) ∧ Turned [r] w w' := by
  have H := skip_in n h1 r (bz (0 :: 1 :: t)) zo w h
  rw [begins_bz, cut_bz] at H
  simpa [List.cons_prefix_cons] using H
theorem skip_esc_no (n : Nat) (h1 : 3 ≤ n) (r : Nat) (l : List UInt8) (w : World) (h : Rest w r (bz l)) (hm : ¬ [0, 1] <+: l) :
    CallsIn (Exi Try.prog) n Try.prog 48 #[.pointer (some ⟨r, 0, none⟩), .string zo] w fun e w' => e = .returned (.bool false) ∧ Rest w' r (bz l) ∧ Turned [r] w w' := by
  have H := skip_in n h1 r (bz l) zo w h
  rw [begins_bz, cut_bz] at H
  simpa [hm] using H
end Go.Proofs.Ythkndfammlibpaa
