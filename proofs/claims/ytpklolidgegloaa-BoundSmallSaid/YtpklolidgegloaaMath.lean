/- Plain facts for the reference's functions of the bound layer. -/
import Derived.Test.YtpklolidgegloaaValues
namespace Go.Proofs.Ytpklolidgegloaa

theorem nil_bl (b : UInt8) (y : List UInt8) : bl [] (b :: y) = true := rfl
theorem bl_drop_eq {a b : List UInt8} {k : Nat} (h1 : k < a.length) (h2 : k < b.length) (h : a[k] = b[k]) : bl (a.drop k) (b.drop k) = bl (a.drop (k + 1)) (b.drop (k + 1)) := by
  rw [List.drop_eq_getElem_cons h1, List.drop_eq_getElem_cons h2, bl_cons, h]
  have : ¬ b[k] < b[k] := by simp
  simp [this]
theorem bl_drop_ne {a b : List UInt8} {k : Nat} (h1 : k < a.length) (h2 : k < b.length) (h : a[k] ≠ b[k]) : bl (a.drop k) (b.drop k) = decide (a[k] < b[k]) := by
  rw [List.drop_eq_getElem_cons h1, List.drop_eq_getElem_cons h2, bl_cons]
  have : (a[k] == b[k]) = false := by simpa using h
  rw [this]; simp
theorem bl_drop_end {a b : List UInt8} {k : Nat} (ha : k ≤ a.length) (hb : k ≤ b.length) (h : ¬ (k < a.length ∧ k < b.length)) : bl (a.drop k) (b.drop k) = decide (a.length < b.length) := by
  by_cases h2 : k < b.length
  · have h1 : k = a.length := by omega
    subst h1
    rw [List.drop_length, List.drop_eq_getElem_cons h2, nil_bl]
    simp; omega
  · have h1 : k = b.length := by omega
    subst h1
    rw [List.drop_length, bl_nil]
    symm; simp; omega

theorem take_all255 : ∀ (p f : List UInt8), (∀ c ∈ p, c = 255) → bl p (f.take p.length) = false
  | [], f, _ => by simp [bl_nil]
  | _ :: _, [], _ => by simp [bl_nil]
  | a :: p, b :: f, h => by
    obtain rfl : a = 255 := h a (by simp)
    rw [List.length_cons, List.take_succ_cons, bl_cons, take_all255 p f (fun c hc => h c (by simp [hc]))]
    have : ¬ (255 : UInt8) < b := by
      rw [UInt8.lt_iff_toNat_lt]
      have := UInt8.toNat_lt b
      show ¬ 255 < b.toNat
      omega
    simp [this]
theorem take_to (c : UInt8) (ff : List UInt8) (hc : c ≠ 255) (hf : ∀ x ∈ ff, x = 255) : ∀ (q f : List UInt8), (!bl (q ++ c :: ff) (f.take (q ++ c :: ff).length)) = bl f (q ++ [c + 1])
  | [], [] => rfl
  | _ :: _, [] => rfl
  | [], b :: f => by
    have hn : c.toNat ≠ 255 := fun h => hc (UInt8.toNat.inj h)
    have hl : c.toNat < 256 := UInt8.toNat_lt c
    have hs : (c + 1).toNat = c.toNat + 1 := by rw [UInt8.toNat_add]; simp; omega
    simp only [List.nil_append, List.length_cons, List.take_succ_cons, bl_cons, bl_nil, take_all255 ff f hf]
    rcases Nat.lt_trichotomy b.toNat c.toNat with h | h | h
    · have e1 : ¬ c < b := by rw [UInt8.lt_iff_toNat_lt]; omega
      have e2 : b < c + 1 := by rw [UInt8.lt_iff_toNat_lt, hs]; omega
      simp [e1, e2]
    · obtain rfl : b = c := UInt8.toNat.inj h
      have e1 : ¬ b < b := by simp
      have e2 : b < b + 1 := by rw [UInt8.lt_iff_toNat_lt, hs]; omega
      simp [e2]
    · have e1 : c < b := by rw [UInt8.lt_iff_toNat_lt]; exact h
      have e2 : ¬ b < c + 1 := by rw [UInt8.lt_iff_toNat_lt, hs]; omega
      simp [e1, e2]
  | d :: q, b :: f => by
    simp only [List.cons_append, List.length_cons, List.take_succ_cons, bl_cons]
    have ih := take_to c ff hc hf q f
    have hl : ¬ d < d := by simp
    by_cases h : b = d
    · subst h; simpa [hl] using ih
    · have h1 : (b == d) = false := by simpa using h
      have h3 : (d == b) = false := by simpa using fun e => h e.symm
      have h4 : d < b ↔ ¬ b < d := by
        rw [UInt8.lt_iff_toNat_lt, UInt8.lt_iff_toNat_lt]
        have : b.toNat ≠ d.toNat := fun e => h (UInt8.toNat.inj e)
        omega
      rw [h1, h3]
      by_cases h2 : b < d <;> simp [h2, h4]

/-- The reference's way to say that some text with the prefix is not below the bound. -/
theorem reach_ref (p f : ByteArray) : (!beyondOk p || bl f.data.toList (beyondB p).data.toList) = reachB p f := by
  unfold reachB beyondOk beyondB
  rcases beyondL_cases p.data.toList with ⟨h1, h2⟩ | ⟨q, c, ff, h1, h2, h3, h4⟩
  · rw [h1]
    have := take_all255 p.data.toList f.data.toList h2
    rw [length_list] at this
    rw [this]; rfl
  · rw [h4]
    have := take_to c ff h2 h3 q f.data.toList
    rw [← h1, length_list] at this
    rw [this]; simp
theorem least_ref (p f : ByteArray) : leastB p f = if reachB p f then (if bl p.data.toList f.data.toList then f else p) else ⟨#[]⟩ := by
  unfold leastB reachB
  by_cases h : bl p.data.toList (f.data.toList.take p.size) = true
  · have hh := h
    rw [← length_list] at hh
    obtain ⟨h1, h2, _, _⟩ := reach_not _ _ hh
    rw [h1, h2, h]; simp
  · have h' : bl p.data.toList (f.data.toList.take p.size) = false := by simpa using h
    have hh := h'
    rw [← length_list] at hh
    rw [h']
    by_cases h2 : bl p.data.toList f.data.toList = true
    · rw [h2, reach_yes _ _ hh h2]; simp
    · simp [h2]

theorem clip_step (s : ByteArray) (k : Nat) (h : k < s.size) : s.extract 0 k ++ s.extract k (k + 1) = s.extract 0 (k + 1) := by
  apply bytes_ext
  rw [append_list, extract_list, extract_list, extract_list]
  have e : (s.data.toList.drop k).take (k + 1 - k) = [s.data.toList[k]'(by simpa using h)] := by
    rw [List.drop_eq_getElem_cons (by simpa using h), show k + 1 - k = 1 from by omega]; rfl
  rw [e]
  simp only [List.drop_zero, Nat.sub_zero]
  rw [List.take_succ_eq_append_getElem (by simpa using h)]

/-- What Max returns. -/
def maxL (zs : List ByteArray) : ByteArray := zs.foldl (fun m b => if bl m.data.toList b.data.toList then b else m) ⟨#[]⟩
theorem maxL_succ (zs : List ByteArray) (k : Nat) (h : k < zs.length) : maxL (zs.take (k + 1)) = if bl (maxL (zs.take k)).data.toList (zs.getD k ByteArray.empty).data.toList then zs.getD k ByteArray.empty else maxL (zs.take k) := by
  unfold maxL
  rw [List.take_succ_eq_append_getElem h, List.foldl_append, List.getD_eq_getElem?_getD, List.getElem?_eq_getElem h]
  rfl
theorem maxL_small (zs : List ByteArray) (hz : ∀ s ∈ zs, s.size ≤ maxLen) (k : Nat) : (maxL (zs.take k)).size ≤ maxLen := by
  induction k with
  | zero => exact Nat.zero_le _
  | succ k ih =>
    by_cases h : k < zs.length
    · rw [maxL_succ zs k h]
      split
      · exact hz _ (by rw [List.getD_eq_getElem?_getD, List.getElem?_eq_getElem h]; exact List.getElem_mem h)
      · exact ih
    · rw [List.take_of_length_le (by omega)] at ih ⊢
      exact ih

end Go.Proofs.Ytpklolidgegloaa
