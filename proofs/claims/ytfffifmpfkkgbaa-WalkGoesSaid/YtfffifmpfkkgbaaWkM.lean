/- What the walks of an art tell, in lists. -/
import Derived.Test.YtfffifmpfkkgbaaGAr
namespace Go.Proofs.Ytfffifmpfkkgbaa
open Go.RowKit
set_option maxRecDepth 100000

/-- The least text above another one. -/
def zup (x : ByteArray) : ByteArray := x ++ ⟨#[0]⟩
theorem zup_list (x : ByteArray) : (zup x).data.toList = x.data.toList ++ [0] := by simp [zup, ByteArray.data_append]
theorem bl_zero : ∀ x y : List UInt8, bl y (x ++ [0]) = !bl x y
  | [], [] => rfl
  | [], c :: y => by
    have h1 : bl [] (c :: y) = true := rfl
    rw [h1]
    show Op.bytesLess (c :: y) [0] = _
    have h2 : ¬ c < 0 := by intro h; have : c.toNat < 0 := UInt8.lt_iff_toNat_lt.1 h; omega
    cases y <;> simp [Op.bytesLess, h2]
  | a :: x, [] => by simp [bl, Op.bytesLess]
  | a :: x, c :: y => by
    have ih := bl_zero x y
    simp only [bl] at ih ⊢
    simp only [List.cons_append, Op.bytesLess, ih]
    rcases Nat.lt_trichotomy a.toNat c.toNat with h | h | h
    · have h1 : a < c := UInt8.lt_iff_toNat_lt.2 h
      have h2 : ¬ c < a := by rw [UInt8.lt_iff_toNat_lt]; omega
      have h3 : (c == a) = false := by rw [beq_eq_false_iff_ne]; rintro rfl; omega
      simp [h1, h2, h3]
    · obtain rfl : a = c := UInt8.toNat.inj h
      simp
    · have h1 : c < a := UInt8.lt_iff_toNat_lt.2 h
      have h2 : ¬ a < c := by rw [UInt8.lt_iff_toNat_lt]; omega
      have h3 : (a == c) = false := by rw [beq_eq_false_iff_ne]; rintro rfl; omega
      simp [h1, h2, h3]
theorem kl_zup (x k : ByteArray) : kl k (zup x) = !kl x k := by unfold kl; rw [zup_list]; exact bl_zero _ _

/-- The pairs from a bound on. -/
def fromP (b : ByteArray) (l : List Pr) : List Pr := l.drop (atK b (keys l))
/-- The least pair from a bound on. -/
def nextP (b : ByteArray) (l : List Pr) : Option Pr := l[atK b (keys l)]?
theorem at_zup {l : List Pr} (hs : SrtP l) {i : Nat} {z : Pr} (h : l[i]? = some z) : atK (zup z.1) (keys l) = i + 1 := by
  have hi : (keys l)[i]? = some z.1 := by simp [keys, h]
  have hlt := (List.getElem?_eq_some_iff.1 hi).1
  rcases Nat.lt_trichotomy (atK (zup z.1) (keys l)) (i + 1) with h1 | h1 | h1
  · have := atK_above (keys l) (zup z.1) z.1 i hs (by omega) hi
    rw [kl_zup, kl_irrefl] at this
    cases this
  · exact h1
  · have hj : i + 1 < (keys l).length := Nat.lt_of_lt_of_le h1 (atK_le _ _)
    obtain ⟨k, hk⟩ : ∃ k, (keys l)[i + 1]? = some k := ⟨_, List.getElem?_eq_getElem hj⟩
    have h2 := atK_below (keys l) (zup z.1) k (i + 1) h1 hk
    rw [kl_zup] at h2
    obtain ⟨l1, e1⟩ := List.getElem?_eq_some_iff.1 hi
    obtain ⟨l2, e2⟩ := List.getElem?_eq_some_iff.1 hk
    have h3 := List.pairwise_iff_getElem.1 hs i (i + 1) l1 l2 (by omega)
    rw [e1, e2] at h3
    rw [h3] at h2
    cases h2
/-- The place after the first k pairs from a bound on. -/
def bdOf (b : ByteArray) (pre : List Pr) : ByteArray := match pre.getLast? with | some x => zup x.1 | none => b
theorem bdOf_nil (b : ByteArray) : bdOf b [] = b := rfl
theorem bdOf_snoc (b : ByteArray) (pre : List Pr) (x : Pr) : bdOf b (pre ++ [x]) = zup x.1 := by simp [bdOf]
theorem at_pre {l : List Pr} (hs : SrtP l) (b : ByteArray) {k : Nat} (hk : k ≤ (fromP b l).length) : atK (bdOf b ((fromP b l).take k)) (keys l) = atK b (keys l) + k := by
  cases k with
  | zero => rfl
  | succ k =>
    have hx := List.getElem?_eq_getElem (show k < (fromP b l).length from hk)
    rw [List.take_succ_eq_append_getElem (show k < (fromP b l).length from hk), bdOf_snoc]
    unfold fromP at hx ⊢
    rw [List.getElem?_drop] at hx
    rw [at_zup hs hx]
    omega
theorem next_pre {l : List Pr} (hs : SrtP l) (b : ByteArray) {k : Nat} (hk : k ≤ (fromP b l).length) : nextP (bdOf b ((fromP b l).take k)) l = (fromP b l)[k]? := by
  unfold nextP
  rw [at_pre hs b hk]
  unfold fromP
  rw [List.getElem?_drop]

/-! ### Selections -/
/-- The pairs of a range: those that are not below a bound and, unless it is empty, below another one. -/
def withinP (t : ByteArray) (z : Pr) : Bool := decide (t.size = 0) || kl z.1 t
def betP (s t : ByteArray) (l : List Pr) : List Pr := (fromP s l).takeWhile (withinP t)
theorem filter_from {l : List Pr} (hs : SrtP l) (s : ByteArray) : l.filter (fun z => !kl z.1 s) = fromP s l := by
  unfold fromP
  induction l with
  | nil => rfl
  | cons z l ih =>
    have hs' := List.pairwise_cons.1 (show SrtK (z.1 :: keys l) from hs)
    rw [show keys (z :: l) = z.1 :: keys l from rfl, atK_cons]
    cases hz : kl z.1 s
    · rw [if_neg (by simp), List.drop_zero]
      refine List.filter_eq_self.2 (fun w hw => ?_)
      rcases List.mem_cons.1 hw with rfl | hw
      · simp [hz]
      · have h1 := hs'.1 w.1 (List.mem_map_of_mem (f := Prod.fst) hw)
        cases h2 : kl w.1 s
        · rfl
        · rw [kl_trans h1 h2] at hz; cases hz
    · rw [if_pos rfl, List.filter_cons_of_neg (by simp [hz]), List.drop_succ_cons]
      exact ih hs'.2
theorem fromP_srt {l : List Pr} (hs : SrtP l) (s : ByteArray) : SrtP (fromP s l) := by
  unfold SrtP fromP keys SrtK at *
  rw [List.map_drop]
  exact List.Pairwise.sublist (List.drop_sublist _ _) hs
/-- On a sorted list what holds from a first place down is an initial part. -/
theorem takeWhile_filter (p : Pr → Bool) : ∀ {l : List Pr}, (∀ (i j : Nat) (x y : Pr), i < j → l[i]? = some x → l[j]? = some y → p y = true → p x = true) → l.takeWhile p = l.filter p
  | [], _ => rfl
  | z :: l, h => by
    have ih := takeWhile_filter p (l := l) (fun i j x y hij hx hy hp => h (i + 1) (j + 1) x y (by omega) (by simpa using hx) (by simpa using hy) hp)
    cases hz : p z
    · rw [List.takeWhile_cons, if_neg (by simp [hz]), List.filter_cons_of_neg (by simp [hz])]
      symm
      refine List.filter_eq_nil_iff.2 (fun w hw => ?_)
      obtain ⟨j, hj⟩ := List.getElem?_of_mem hw
      intro hp
      rw [h 0 (j + 1) z w (by omega) rfl (by simpa using hj) hp] at hz
      cases hz
    · rw [List.takeWhile_cons, if_pos hz, List.filter_cons_of_pos hz, ih]
theorem srt_lt {l : List Pr} (hs : SrtP l) {i j : Nat} {x y : Pr} (hij : i < j) (hx : l[i]? = some x) (hy : l[j]? = some y) : kl x.1 y.1 = true := by
  have h1 : (keys l)[i]? = some x.1 := by simp [keys, hx]
  have h2 : (keys l)[j]? = some y.1 := by simp [keys, hy]
  obtain ⟨l1, e1⟩ := List.getElem?_eq_some_iff.1 h1
  obtain ⟨l2, e2⟩ := List.getElem?_eq_some_iff.1 h2
  have h3 := List.pairwise_iff_getElem.1 hs i j l1 l2 hij
  rwa [e1, e2] at h3
theorem bet_filter {l : List Pr} (hs : SrtP l) (s t : ByteArray) : l.filter (fun z => !kl z.1 s && withinP t z) = betP s t l := by
  unfold betP
  rw [takeWhile_filter, ← filter_from hs s, List.filter_filter]
  · congr 1; funext z; exact Bool.and_comm _ _
  · intro i j x y hij hx hy hp
    unfold withinP at hp ⊢
    rcases Bool.or_eq_true_iff.1 hp with h | h
    · rw [h]; rfl
    · rw [kl_trans (srt_lt (fromP_srt hs s) hij hx hy) h, Bool.or_true]
/-! ### Prefixes -/
def begB (p x : ByteArray) : Bool := p.data.toList.isPrefixOf x.data.toList
theorem bl_prefix : ∀ p x : List UInt8, p.isPrefixOf x = true → bl x p = false
  | [], [], _ => rfl
  | [], _ :: _, _ => rfl
  | a :: p, [], h => by simp [List.isPrefixOf] at h
  | a :: p, c :: x, h => by
    simp only [List.isPrefixOf, Bool.and_eq_true, beq_iff_eq] at h
    obtain ⟨rfl, h⟩ := h
    have := bl_prefix p x h
    unfold bl at this ⊢
    simp [Op.bytesLess, this]
theorem prefix_mid : ∀ p x y : List UInt8, bl x p = false → bl x y = true → p.isPrefixOf y = true → p.isPrefixOf x = true
  | [], _, _, _, _, _ => by simp
  | a :: p, [], _, h, _, _ => by simp [bl, Op.bytesLess] at h
  | a :: p, c :: x, [], _, h, _ => by simp [bl, Op.bytesLess] at h
  | a :: p, c :: x, d :: y, h1, h2, h3 => by
    simp only [List.isPrefixOf, Bool.and_eq_true, beq_iff_eq] at h3 ⊢
    obtain ⟨rfl, h3⟩ := h3
    simp only [bl, Op.bytesLess, Bool.or_eq_false_iff, Bool.and_eq_false_iff, decide_eq_false_iff_not, beq_eq_false_iff_ne, Bool.or_eq_true, Bool.and_eq_true, decide_eq_true_eq, beq_iff_eq] at h1 h2
    rcases h2 with h2 | ⟨rfl, h2⟩
    · exact absurd h2 h1.1
    · refine ⟨rfl, prefix_mid p x y ?_ h2 h3⟩
      rcases h1.2 with h | h
      · exact absurd rfl h
      · exact h
def begP (p : ByteArray) (l : List Pr) : List Pr := (fromP p l).takeWhile (fun z => begB p z.1)
theorem beg_filter {l : List Pr} (hs : SrtP l) (p : ByteArray) : l.filter (fun z => begB p z.1) = begP p l := by
  unfold begP
  have hge : ∀ z ∈ fromP p l, kl z.1 p = false := by
    intro z hz
    rw [← filter_from hs p] at hz
    simpa using (List.mem_filter.1 hz).2
  rw [takeWhile_filter, ← filter_from hs p, List.filter_filter]
  · refine List.filter_congr (fun z _ => ?_)
    cases h : begB p z.1
    · rfl
    · have := bl_prefix _ _ h
      unfold kl
      rw [this]; rfl
  · intro i j x y hij hx hy hp
    exact prefix_mid _ _ _ (hge x (List.mem_of_getElem? hx)) (srt_lt (fromP_srt hs p) hij hx hy) hp
end Go.Proofs.Ytfffifmpfkkgbaa
