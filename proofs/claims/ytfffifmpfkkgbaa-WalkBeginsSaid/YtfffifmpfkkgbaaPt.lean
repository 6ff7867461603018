/- The common prefix of two texts: path.Begins (out of stage 10). -/
import Derived.Test.YtfffifmpfkkgbaaAdj
import Derived.BigQuiet
import Derived.Deep.QuietTactic
import Derived.Lib.Hide
import Derived.WalkKit
import Derived.WalkSpells
namespace Go.Proofs.Ytfffifmpfkkgbaa.Pt

/-- The length of the common prefix of two lists of bytes. -/
def lcp : List UInt8 → List UInt8 → Nat
  | a :: l, b :: m => if a = b then lcp l m + 1 else 0
  | _, _ => 0

theorem lcp_le_left : ∀ l m : List UInt8, lcp l m ≤ l.length
  | [], m => by simp [lcp]
  | a :: l, [] => by simp [lcp]
  | a :: l, b :: m => by
    simp only [lcp, List.length_cons]
    split
    · have := lcp_le_left l m; omega
    · omega

theorem lcp_comm : ∀ l m : List UInt8, lcp l m = lcp m l
  | [], [] => rfl
  | [], b :: m => rfl
  | a :: l, [] => rfl
  | a :: l, b :: m => by
    simp only [lcp]
    rw [lcp_comm l m]
    by_cases h : a = b
    · rw [if_pos h, if_pos h.symm]
    · rw [if_neg h, if_neg (fun e => h e.symm)]

theorem lcp_le_right (l m : List UInt8) : lcp l m ≤ m.length := by rw [lcp_comm]; exact lcp_le_left m l

/-- What the loop finds is the common prefix's length. -/
theorem lcp_eq_of : ∀ (l m : List UInt8) (k : Nat), k ≤ l.length → k ≤ m.length → (∀ j, j < k → l[j]? = m[j]?) →
    (k < l.length → k < m.length → l[k]? ≠ m[k]?) → lcp l m = k
  | [], m, k, hl, _, _, _ => by simp at hl; subst hl; simp [lcp]
  | a :: l, [], k, _, hm, _, _ => by simp at hm; subst hm; simp [lcp]
  | a :: l, b :: m, 0, _, _, _, hn => by
    have := hn (by simp) (by simp)
    simp only [List.getElem?_cons_zero, ne_eq, Option.some.injEq] at this
    simp [lcp, this]
  | a :: l, b :: m, k + 1, hl, hm, he, hn => by
    have h0 := he 0 (by omega)
    simp only [List.getElem?_cons_zero, Option.some.injEq] at h0
    subst h0
    simp only [lcp, if_true]
    rw [lcp_eq_of l m k (by simpa using hl) (by simpa using hm) (fun j hj => by simpa using he (j + 1) (by omega))
      (fun h1 h2 => by simpa using hn (by simp; omega) (by simp; omega))]

theorem lcp_self (l : List UInt8) : lcp l l = l.length := by
  induction l with
  | nil => rfl
  | cons a l ih => simp [lcp, ih]

/-- The bytes up to the common prefix's length are equal. -/
theorem lcp_take : ∀ l m : List UInt8, l.take (lcp l m) = m.take (lcp l m)
  | [], m => by simp [lcp]
  | a :: l, [] => by simp [lcp]
  | a :: l, b :: m => by
    simp only [lcp]
    split
    · rename_i h; subst h; simp [lcp_take l m]
    · simp

/-- Behind it they differ. -/
theorem lcp_differ : ∀ l m : List UInt8, lcp l m < l.length → lcp l m < m.length → l[lcp l m]? ≠ m[lcp l m]?
  | [], m, h, _ => by simp at h
  | a :: l, [], _, h => by simp at h
  | a :: l, b :: m, h1, h2 => by
    simp only [lcp] at h1 h2 ⊢
    split
    · rename_i h
      rw [if_pos h] at h1 h2
      simpa using lcp_differ l m (by simpa using h1) (by simpa using h2)
    · rename_i h
      simpa using h

theorem byte_at (s : ByteArray) (k : Nat) (h : k < s.size) : s.data.toList[k]? = some s[k] := by
  rw [List.getElem?_eq_getElem (by simpa using h)]; rfl

theorem byte_ne {s t : ByteArray} {k : Nat} (h1 : k < s.size) (h2 : k < t.size) (h : (((s[k]'h1).toNat : Int) != ((t[k]'h2).toNat : Int)) = true) : s.data.toList[k]? ≠ t.data.toList[k]? := by
  rw [byte_at s k h1, byte_at t k h2]
  intro e
  simp only [Option.some.injEq] at e
  rw [e] at h
  simp at h

theorem byte_eq {s t : ByteArray} {k : Nat} (h1 : k < s.size) (h2 : k < t.size) (h : (((s[k]'h1).toNat : Int) != ((t[k]'h2).toNat : Int)) = false) : s.data.toList[k]? = t.data.toList[k]? := by
  rw [byte_at s k h1, byte_at t k h2]
  simp only [bne_eq_false_iff_eq] at h
  exact congrArg some (UInt8.toNat_inj.1 (by omega))

theorem byte_eqq {s t : ByteArray} {k : Nat} (h1 : k < s.size) (h2 : k < t.size) (h : (((s[k]'h1).toNat : Int) == ((t[k]'h2).toNat : Int)) = true) : s.data.toList[k]? = t.data.toList[k]? :=
  byte_eq h1 h2 (by rw [bne, h]; rfl)
theorem byte_neq {s t : ByteArray} {k : Nat} (h1 : k < s.size) (h2 : k < t.size) (h : (((s[k]'h1).toNat : Int) == ((t[k]'h2).toNat : Int)) = false) : s.data.toList[k]? ≠ t.data.toList[k]? :=
  byte_ne h1 h2 (by rw [bne, h]; rfl)
theorem upto_succ {l m : List UInt8} {k : Nat} (h : ∀ j, j < k → l[j]? = m[j]?) (hk : l[k]? = m[k]?) : ∀ j, j < k + 1 → l[j]? = m[j]? := by
  intro j hj
  by_cases e : j = k
  · subst e; exact hk
  · exact h j (by omega)

theorem ret_int {k : IntKind} {a b : Int} (h : a = b) : Ending.returned (.int k a) = .returned (.int k b) := by rw [h]
theorem ret_str {a b : ByteArray} (h : a = b) : Ending.returned (.string a) = .returned (.string b) := by rw [h]
theorem extract_list (s : ByteArray) (i j : Nat) : (s.extract i j).data.toList = (s.data.toList.drop i).take (j - i) := by
  simp [ByteArray.data_extract, Array.toList_extract, List.extract_eq_take_drop]
theorem bytes_ext {a b : ByteArray} (h : a.data.toList = b.data.toList) : a = b := by
  cases a; cases b; simp at h; rw [h]
theorem from_all (s : ByteArray) (n : Int) (h : n ≤ 0) : s.extract n.toNat s.size = s := by
  apply bytes_ext
  rw [extract_list, show n.toNat = 0 from by omega]
  simp [List.take_of_length_le]
theorem from_none (s : ByteArray) (n : Int) (h : (s.size : Int) ≤ n) : s.extract n.toNat s.size = ByteArray.empty := by
  apply bytes_ext
  rw [extract_list, show s.size - n.toNat = 0 from by omega]
  simp
theorem from_nil (s : ByteArray) (n : Int) (h : s.size = 0) : s.extract n.toNat s.size = s := by
  apply bytes_ext
  have e : s.data.toList = [] := by rw [← List.length_eq_zero_iff]; simpa using h
  rw [extract_list, e]
  simp
theorem ret_bool {a b : Bool} (h : a = b) : Ending.returned (.bool a) = .returned (.bool b) := by rw [h]

end Go.Proofs.Ytfffifmpfkkgbaa.Pt
namespace Go.Proofs.Ytfffifmpfkkgbaa.Pt

open Go.RowKit
set_option maxRecDepth 100000
set_option maxHeartbeats 400000

theorem bcell {W w1 : World} (hb : Below W.heap.size W w1) : (∀ b o, b < W.heap.size → w1.cell? ⟨b, o, none⟩ = W.cell? ⟨b, o, none⟩) ∧ (∀ b o, b < W.heap.size → w1.frozen? ⟨b, o, none⟩ = W.frozen? ⟨b, o, none⟩) :=
  ⟨fun b o h => hb.cell (p := ⟨b, o, none⟩) h, fun b o h => hb.frozen (p := ⟨b, o, none⟩) h⟩

theorem agrees1_any (s t : ByteArray) (w : World) (b : Nat) (hs : s.size ≤ maxLen) (ht : t.size ≤ maxLen) (hc : w.cell? ⟨b, 0, none⟩ = some (.string s)) :
    Calls Try.prog 78 #[.string t, .pointer (some ⟨b, 0, none⟩)] w fun e w' => e = .returned (.int .i64 (lcp s.data.toList t.data.toList)) ∧ Below w.heap.size w w' := by
  unfold maxLen at hs ht
  go_enter Try.func78, Try.ntmps78
  go_wp2
  all_goals
    go_loopw [12] (fun i wr => ∃ k : Nat, k ≤ s.size ∧ k ≤ t.size ∧ i = .int .i64 k ∧ Below w.heap.size w wr ∧ (∀ p, wr.cell? p = w.cell? p) ∧ Hid (∀ j, j < k → s.data.toList[j]? = t.data.toList[j]?)) (fun i _ => s.size + t.size - (intOf i).toNat)
    case atStart => exact ⟨0, Nat.zero_le _, Nat.zero_le _, rfl, Below.refl _ _, fun _ => rfl, fun j hj => by omega⟩
    case round =>
      obtain ⟨k, hk1, hk2, rfl, hB, hcell, HE⟩ := hrel
      have hcr : wr.cell? ⟨b, 0, none⟩ = some (.string s) := by rw [hcell]; exact hc
      have HC : Hid (∀ p, wr.cell? p = w.cell? p) := hcell
      clear hc hcell
      by_cases hm : k < s.size ∧ k < t.size
      · obtain ⟨h1, h2⟩ := hm
        go_wp2
        go_region
        all_goals go_wp2
        · have hne := byte_ne h1 h2 (by assumption)
          go_ret
          exact ⟨ret_int (by rw [lcp_eq_of _ _ k (by simpa using hk1) (by simpa using hk2) HE.out (fun _ _ => hne)]), hB.drew⟩
        · have heq := byte_eq h1 h2 (by assumption)
          go_roundw
          case rel => exact ⟨k + 1, by omega, by omega, by go_num, hB.drew, fun p => by simp [HC.out], upto_succ HE.out heq⟩
          case measure => simp [intOf]; omega
      · have H : Hid (lcp s.data.toList t.data.toList = k) := lcp_eq_of _ _ _ (by simpa using hk1) (by simpa using hk2) HE.out (fun a b => absurd (And.intro (by simpa using a) (by simpa using b)) hm)
        go_wp2
        go_ret
        exact ⟨ret_int (by rw [H.out]; omega), hB⟩

theorem of_any (s : ByteArray) (w : World) :
    Calls Try.prog 69 #[.string s] w fun e w' => e = .returned (.agg #[.string s]) ∧ Below w.heap.size w w' := by
  go_enter Try.func69, Try.ntmps69
  go_wp2
  exact bodyPost_ret (v := .agg #[.string s]) (by simp [results, Try.results69, go_sem]) rfl ⟨rfl, (Below.refl _ _).alloc (Nat.le_refl _) _⟩

theorem agrees_any (s : ByteArray) (w : World) :
    Calls Try.prog 70 #[.string s] w fun e w' => ∃ b, e = .returned (.func (.func 78) #[] #[.pointer (some ⟨b, 0, none⟩)]) ∧ w.heap.size ≤ b ∧ b < w'.heap.size ∧ w'.cell? ⟨b, 0, none⟩ = some (.string s) ∧ Below w.heap.size w w' := by
  go_enter Try.func70, Try.ntmps70
  have hmf := @makeFunc_run Try.prog
  go_wp2
  go_ret
  exact ⟨w.heap.size, rfl, Nat.le_refl _, by simp, by simp [go_sem], (Below.refl _ _).alloc (Nat.le_refl _) _⟩

/-- What 'All' finds: of the first string's bytes, how many all others begin with. -/
def lcpAll (a : ByteArray) (r : List ByteArray) : Nat := r.foldl (fun n s => min n (lcp a.data.toList s.data.toList)) a.size

theorem lcpAll_succ (a : ByteArray) (r : List ByteArray) (k : Nat) (hk : k < r.length) : lcpAll a (r.take (k + 1)) = min (lcpAll a (r.take k)) (lcp a.data.toList (r.getD k ByteArray.empty).data.toList) := by
  unfold lcpAll
  rw [List.take_succ_eq_append_getElem hk, List.foldl_append, List.getD_eq_getElem?_getD, List.getElem?_eq_getElem hk]
  rfl

theorem field0 (x : ByteArray) (w : World) : (Instr.field 108 (.agg #[.string x]) 0).run Try.prog w = .ok (.string x) w := by kernel_rfl

theorem all_any (a : ByteArray) (r : List ByteArray) (b off cap : Nat) (w : World) (hb : b < w.heap.size) (hz : ∀ x ∈ a :: r, x.size ≤ maxLen) (hl : r.length + 1 ≤ maxLen) (hcap : r.length + 1 ≤ cap)
    (hc : ∀ i, i < r.length + 1 → w.cell? ⟨b, off + i, none⟩ = some (.string ((a :: r).getD i ByteArray.empty))) :
    Calls Try.prog 59 #[.slice (some ⟨b, off, none⟩) (r.length + 1) cap] w fun e w' => e = .returned (.int .i64 (lcpAll a r)) ∧ Below w.heap.size w w' := by
  unfold maxLen at hl
  have c0 := hc 0 (by omega)
  simp only [Nat.add_zero, List.getD_cons_zero] at c0
  have HC := Lib.hid hc
  have HZ := Lib.hid hz
  clear hc hz
  have hfd := field0
  by_cases hc1 : cap = 1
  all_goals
    go_enter Try.func59, Try.ntmps59
    go_wp2_with (first | (go_at_call 69; refine (of_any _ _).mono ?_; rintro e w1 ⟨rfl, hb1⟩) | (go_at_call 70; refine (agrees_any _ _).mono ?_; rintro e w2 ⟨bc, rfl, hbc1, hbc2, hcc, hb2⟩))
    have hB0 : Below w.heap.size w w2 := hb1.trans (hb2.mono hb1.size)
    have hbc : w.heap.size ≤ bc := Nat.le_trans hb1.size hbc1
    go_loopw [3, 23] (fun n i wr => ∃ k : Nat, k ≤ r.length ∧ i = .int .i64 k ∧ n = .int .i64 (lcpAll a (r.take k)) ∧ Below w.heap.size w wr ∧ bc < wr.heap.size ∧ wr.cell? ⟨bc, 0, none⟩ = some (.string a)) (fun _ i _ => r.length - (intOf i).toNat)
    case atStart => exact ⟨0, Nat.zero_le _, rfl, by simp [lcpAll], hB0, hbc2, hcc⟩
    case round =>
      obtain ⟨k, hk, rfl, rfl, hB, hlt, hca⟩ := hrel
      by_cases hkr : k < r.length
      · try (exfalso; omega)
        all_goals
          have hcell : wr.cell? ⟨b, off + 1 + k, none⟩ = some (.string (r.getD k ByteArray.empty)) := by
            rw [hB.cell (p := ⟨b, off + 1 + k, none⟩) hb, show off + 1 + k = off + (k + 1) from by omega, HC.out (k + 1) (by omega)]
            rfl
          have hza : Hid (a.size ≤ maxLen) := HZ.out a (by simp)
          have hzk : Hid ((r.getD k ByteArray.empty).size ≤ maxLen) := HZ.out _ (by rw [List.getD_eq_getElem?_getD, List.getElem?_eq_getElem hkr]; simp)
          generalize hx : r.getD k ByteArray.empty = x at *
          have HX := Lib.hid hx
          clear hx
          go_wp2_with (go_at_call 78; refine (agrees1_any a _ _ bc hza.out hzk.out hca).mono ?_; rintro e w3 ⟨rfl, hb3⟩)
          have hs := lcpAll_succ a r k hkr
          rw [HX.out] at hs
          have HS := Lib.hid hs
          clear hs
          go_roundw
          case rel => exact ⟨k + 1, by omega, by go_num, by rw [HS.out]; first | (split <;> go_num; done) | (congr 1; omega), hB.trans (hb3.mono hB.size), Nat.lt_of_lt_of_le hlt hb3.size, by rw [hb3.cell (p := ⟨bc, 0, none⟩) hlt]; exact hca⟩
          case measure => simp [intOf]; omega
      · obtain rfl : k = r.length := by omega
        go_wp2
        go_ret
        exact ⟨ret_int (by rw [List.take_length]), hB⟩

end Go.Proofs.Ytfffifmpfkkgbaa.Pt
namespace Go.Proofs.Ytfffifmpfkkgbaa.Pt
open Go.RowKit
set_option maxRecDepth 100000
set_option maxHeartbeats 400000

theorem all2_any (a b : ByteArray) (bl : Nat) (w : World) (hb : bl < w.heap.size) (ha : a.size ≤ maxLen) (hbz : b.size ≤ maxLen)
    (h0 : w.cell? ⟨bl, 0, none⟩ = some (.string a)) (h1 : w.cell? ⟨bl, 1, none⟩ = some (.string b)) :
    Calls Try.prog 59 #[.slice (some ⟨bl, 0, none⟩) 2 2] w fun e w' => e = .returned (.int .i64 (lcp a.data.toList b.data.toList)) ∧ Below w.heap.size w w' := by
  have h := all_any a [b] bl 0 2 w hb (by intro x hx; simp at hx; rcases hx with rfl | rfl <;> assumption) (by simp; decide) (by simp) (by
    intro i hi
    match i, hi with
    | 0, _ => simpa using h0
    | 1, _ => simpa using h1
    | n + 2, hi => exact absurd hi (by simp))
  refine h.mono ?_
  rintro e w' ⟨rfl, hb'⟩
  refine ⟨ret_int ?_, hb'⟩
  have := lcp_le_left a.data.toList b.data.toList
  simp only [lcpAll, List.foldl_cons, List.foldl_nil]
  rw [Nat.min_eq_right (by simpa using this)]

theorem common_any (a b : ByteArray) (w : World) (ha : a.size ≤ maxLen) (hbz : b.size ≤ maxLen) :
    Calls Try.prog 42 #[.string a, .string b] w fun e w' => e = .returned (.int .i64 (lcp a.data.toList b.data.toList)) ∧ Below w.heap.size w w' := by
  have HA := Lib.hid ha
  have HB := Lib.hid hbz
  clear ha hbz
  go_enter Try.func42, Try.ntmps42
  go_wp2_with (go_at_call 59; refine (all2_any a b _ _ (by simp) HA.out HB.out (by simp [go_sem]) (by simp [go_sem])).mono ?_; rintro e w1 ⟨rfl, hb1⟩)
  go_ret
  exact ⟨rfl, ((Below.refl _ _).alloc (Nat.le_refl _) _).trans (hb1.mono (by simp))⟩

theorem begins_any (a b : ByteArray) (w : World) (ha : a.size ≤ maxLen) (hbz : b.size ≤ maxLen) :
    Calls Try.prog 24 #[.string a, .string b] w fun e w' => e = .returned (.bool (((lcp a.data.toList b.data.toList : Nat) : Int) == (b.size : Int))) ∧ Below w.heap.size w w' := by
  have HA := Lib.hid ha
  have HB := Lib.hid hbz
  clear ha hbz
  go_enter Try.func24, Try.ntmps24
  go_wp2_with (go_at_call 42; refine (common_any a b _ HA.out HB.out).mono ?_; rintro e w1 ⟨rfl, hb1⟩)
  go_ret
  exact ⟨rfl, hb1⟩

end Go.Proofs.Ytfffifmpfkkgbaa.Pt

namespace Go.Proofs.Ytfffifmpfkkgbaa
open Go.RowKit
theorem lcp_prefix : ∀ l m : List UInt8, Pt.lcp l m = m.length ↔ m.isPrefixOf l = true
  | l, [] => by cases l <;> simp [Pt.lcp]
  | [], b :: m => by simp [Pt.lcp, List.isPrefixOf]
  | a :: l, b :: m => by
    have ih := lcp_prefix l m
    by_cases h : a = b
    · subst h
      simp only [Pt.lcp, List.isPrefixOf, List.length_cons, if_pos, Nat.add_right_cancel_iff, ih, beq_self_eq_true, Bool.true_and]
    · have h2 : (b == a) = false := by rw [beq_eq_false_iff_ne]; exact fun e => h e.symm
      simp only [Pt.lcp, List.isPrefixOf, List.length_cons, if_neg h, h2, Bool.false_and]
      simp
theorem pbegins_any (a b : ByteArray) (w : World) (ha : a.size ≤ maxLen) (hb : b.size ≤ maxLen) :
    Calls Try.prog 24 #[.string a, .string b] w fun e w' => e = .returned (.bool (begB b a)) ∧ Below w.heap.size w w' := by
  refine (Pt.begins_any a b w ha hb).mono ?_
  rintro e w' ⟨rfl, h⟩
  refine ⟨?_, h⟩
  have h1 := lcp_prefix a.data.toList b.data.toList
  rw [length_list] at h1
  have h2 : (((Pt.lcp a.data.toList b.data.toList : Nat) : Int) == (b.size : Int)) = begB b a := by
    rw [Bool.eq_iff_iff, beq_iff_eq]
    unfold begB
    rw [← h1]
    omega
  rw [h2]
end Go.Proofs.Ytfffifmpfkkgbaa
