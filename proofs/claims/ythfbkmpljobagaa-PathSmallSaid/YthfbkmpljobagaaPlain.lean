/- Plain facts on lists of bytes for the path layer: the length of the common prefix. No program is named here. -/
import Derived.WalkKit
namespace Go.Proofs.Ythfbkmpljobagaa

/-- The length of the common prefix of two lists of bytes. -/
def lcp : List UInt8 → List UInt8 → Nat
  | a :: l, b :: m => if a = b then lcp l m + 1 else 0
  | _, _ => 0

theorem lcp_le_left : ∀ l m : List UInt8, lcp l m ≤ l.length
  | [], m => by simp [lcp]
  | a :: l, [] => by simp [lcp]
  | a :: l, b :: m => by
    simp only [lcp, List.length_cons]
    split
    · have := lcp_le_left l m; omega
    · omega

theorem lcp_comm : ∀ l m : List UInt8, lcp l m = lcp m l
  | [], [] => rfl
  | [], b :: m => rfl
  | a :: l, [] => rfl
  | a :: l, b :: m => by
    simp only [lcp]
    rw [lcp_comm l m]
    by_cases h : a = b
    · rw [if_pos h, if_pos h.symm]
    · rw [if_neg h, if_neg (fun e => h e.symm)]

theorem lcp_le_right (l m : List UInt8) : lcp l m ≤ m.length := by rw [lcp_comm]; exact lcp_le_left m l

/-- What the loop finds is the common prefix's length. -/
theorem lcp_eq_of : ∀ (l m : List UInt8) (k : Nat), k ≤ l.length → k ≤ m.length → (∀ j, j < k → l[j]? = m[j]?) →
    (k < l.length → k < m.length → l[k]? ≠ m[k]?) → lcp l m = k
  | [], m, k, hl, _, _, _ => by simp at hl; subst hl; simp [lcp]
  | a :: l, [], k, _, hm, _, _ => by simp at hm; subst hm; simp [lcp]
  | a :: l, b :: m, 0, _, _, _, hn => by
    have := hn (by simp) (by simp)
    simp only [List.getElem?_cons_zero, ne_eq, Option.some.injEq] at this
    simp [lcp, this]
  | a :: l, b :: m, k + 1, hl, hm, he, hn => by
    have h0 := he 0 (by omega)
    simp only [List.getElem?_cons_zero, Option.some.injEq] at h0
    subst h0
    simp only [lcp, if_true]
    rw [lcp_eq_of l m k (by simpa using hl) (by simpa using hm) (fun j hj => by simpa using he (j + 1) (by omega))
      (fun h1 h2 => by simpa using hn (by simp; omega) (by simp; omega))]

theorem lcp_self (l : List UInt8) : lcp l l = l.length := by
  induction l with
  | nil => rfl
  | cons a l ih => simp [lcp, ih]

/-- The bytes up to the common prefix's length are equal. -/
theorem lcp_take : ∀ l m : List UInt8, l.take (lcp l m) = m.take (lcp l m)
  | [], m => by simp [lcp]
  | a :: l, [] => by simp [lcp]
  | a :: l, b :: m => by
    simp only [lcp]
    split
    · rename_i h; subst h; simp [lcp_take l m]
    · simp

/-- Behind it they differ. -/
theorem lcp_differ : ∀ l m : List UInt8, lcp l m < l.length → lcp l m < m.length → l[lcp l m]? ≠ m[lcp l m]?
  | [], m, h, _ => by simp at h
  | a :: l, [], _, h => by simp at h
  | a :: l, b :: m, h1, h2 => by
    simp only [lcp] at h1 h2 ⊢
    split
    · rename_i h
      rw [if_pos h] at h1 h2
      simpa using lcp_differ l m (by simpa using h1) (by simpa using h2)
    · rename_i h
      simpa using h

theorem byte_at (s : ByteArray) (k : Nat) (h : k < s.size) : s.data.toList[k]? = some s[k] := by
  rw [List.getElem?_eq_getElem (by simpa using h)]; rfl

theorem byte_ne {s t : ByteArray} {k : Nat} (h1 : k < s.size) (h2 : k < t.size) (h : (((s[k]'h1).toNat : Int) != ((t[k]'h2).toNat : Int)) = true) : s.data.toList[k]? ≠ t.data.toList[k]? := by
  rw [byte_at s k h1, byte_at t k h2]
  intro e
  simp only [Option.some.injEq] at e
  rw [e] at h
  simp at h

theorem byte_eq {s t : ByteArray} {k : Nat} (h1 : k < s.size) (h2 : k < t.size) (h : (((s[k]'h1).toNat : Int) != ((t[k]'h2).toNat : Int)) = false) : s.data.toList[k]? = t.data.toList[k]? := by
  rw [byte_at s k h1, byte_at t k h2]
  simp only [bne_eq_false_iff_eq] at h
  exact congrArg some (UInt8.toNat_inj.1 (by omega))

theorem byte_eqq {s t : ByteArray} {k : Nat} (h1 : k < s.size) (h2 : k < t.size) (h : (((s[k]'h1).toNat : Int) == ((t[k]'h2).toNat : Int)) = true) : s.data.toList[k]? = t.data.toList[k]? :=
  byte_eq h1 h2 (by rw [bne, h]; rfl)
theorem byte_neq {s t : ByteArray} {k : Nat} (h1 : k < s.size) (h2 : k < t.size) (h : (((s[k]'h1).toNat : Int) == ((t[k]'h2).toNat : Int)) = false) : s.data.toList[k]? ≠ t.data.toList[k]? :=
  byte_ne h1 h2 (by rw [bne, h]; rfl)
theorem upto_succ {l m : List UInt8} {k : Nat} (h : ∀ j, j < k → l[j]? = m[j]?) (hk : l[k]? = m[k]?) : ∀ j, j < k + 1 → l[j]? = m[j]? := by
  intro j hj
  by_cases e : j = k
  · subst e; exact hk
  · exact h j (by omega)

theorem ret_int {k : IntKind} {a b : Int} (h : a = b) : Ending.returned (.int k a) = .returned (.int k b) := by rw [h]
theorem ret_str {a b : ByteArray} (h : a = b) : Ending.returned (.string a) = .returned (.string b) := by rw [h]
theorem extract_list (s : ByteArray) (i j : Nat) : (s.extract i j).data.toList = (s.data.toList.drop i).take (j - i) := by
  simp [ByteArray.data_extract, Array.toList_extract, List.extract_eq_take_drop]
theorem bytes_ext {a b : ByteArray} (h : a.data.toList = b.data.toList) : a = b := by
  cases a; cases b; simp at h; rw [h]
theorem from_all (s : ByteArray) (n : Int) (h : n ≤ 0) : s.extract n.toNat s.size = s := by
  apply bytes_ext
  rw [extract_list, show n.toNat = 0 from by omega]
  simp [List.take_of_length_le]
theorem from_none (s : ByteArray) (n : Int) (h : (s.size : Int) ≤ n) : s.extract n.toNat s.size = ByteArray.empty := by
  apply bytes_ext
  rw [extract_list, show s.size - n.toNat = 0 from by omega]
  simp
theorem from_nil (s : ByteArray) (n : Int) (h : s.size = 0) : s.extract n.toNat s.size = s := by
  apply bytes_ext
  have e : s.data.toList = [] := by rw [← List.length_eq_zero_iff]; simpa using h
  rw [extract_list, e]
  simp
theorem ret_bool {a b : Bool} (h : a = b) : Ending.returned (.bool a) = .returned (.bool b) := by rw [h]

end Go.Proofs.Ythfbkmpljobagaa
