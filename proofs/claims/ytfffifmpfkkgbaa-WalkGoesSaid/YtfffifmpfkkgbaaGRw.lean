/- Texts of stage 12, merged: RowS, Search, Ins, DelK, MapS. -/
import Derived.Test.YtfffifmpfkkgbaaFr
import Derived.Laws.AppendOwn
import Derived.Shelf.Spec.SearchS
import Derived.Shelf.Spec.SlicesInsertGrow
import Derived.Laws.Cover1
import Derived.Lib.Overlaps
import Derived.Laws.Externs
import Derived.Lib.AppendZeros
import Derived.Lib.AppendZerosOnto
import Derived.Deep.AppendSrc
import Derived.Shelf.Spec.SlicesInsert
import Derived.Lib.SlicesDelete
import Derived.Deep.RegionLaw
import Derived.Maps.Own
import Derived.Maps.OwnOps
/- Rows of strings; their order. -/
namespace Go.Proofs.Ytfffifmpfkkgbaa
open Go.RowKit
set_option maxRecDepth 100000

/-! ### The order of strings -/
def bl : List UInt8 → List UInt8 → Bool := Op.bytesLess
theorem bl_irrefl : ∀ x, bl x x = false
  | [] => rfl
  | a :: x => by
    have := bl_irrefl x
    unfold bl at this ⊢
    simp [Op.bytesLess, this]
theorem bl_tri : ∀ x y, bl x y = false → bl y x = false → x = y
  | [], [], _, _ => rfl
  | [], _ :: _, h, _ => by simp [bl, Op.bytesLess] at h
  | _ :: _, [], _, h => by simp [bl, Op.bytesLess] at h
  | a :: x, b :: y, h, k => by
    simp only [bl, Op.bytesLess, Bool.or_eq_false_iff, Bool.and_eq_false_iff, decide_eq_false_iff_not, beq_eq_false_iff_ne] at h k
    have e : a = b := by
      have h1 := h.1; have h2 := k.1
      exact UInt8.le_antisymm (UInt8.not_lt.1 h2) (UInt8.not_lt.1 h1)
    subst e
    rw [bl_tri x y (by rcases h.2 with h | h; exact absurd rfl h; exact h) (by rcases k.2 with h | h; exact absurd rfl h; exact h)]
theorem bl_trans : ∀ x y z, bl x y = true → bl y z = true → bl x z = true
  | [], [], [], _, k => by simp [bl, Op.bytesLess] at k
  | [], _ :: _, [], _, k => by simp [bl, Op.bytesLess] at k
  | [], _, _ :: _, _, _ => rfl
  | _ :: _, [], _, h, _ => by simp [bl, Op.bytesLess] at h
  | _ :: _, _ :: _, [], _, k => by simp [bl, Op.bytesLess] at k
  | a :: x, b :: y, c :: z, h, k => by
    simp only [bl, Op.bytesLess, Bool.or_eq_true, Bool.and_eq_true, decide_eq_true_eq, beq_iff_eq] at h k ⊢
    rcases h with h | ⟨rfl, h⟩
    · rcases k with k | ⟨rfl, k⟩
      · exact .inl (UInt8.lt_trans h k)
      · exact .inl h
    · rcases k with k | ⟨rfl, k⟩
      · exact .inl k
      · exact .inr ⟨rfl, bl_trans x y z h k⟩
/-- One string lies below another. -/
def kl (a b : ByteArray) : Bool := bl a.data.toList b.data.toList
theorem kl_eq (a b : ByteArray) : Op.bytesLess a.toList b.toList = kl a b := by rw [Lib.toList_data, Lib.toList_data]; rfl
theorem kl_irrefl (a : ByteArray) : kl a a = false := bl_irrefl _
theorem kl_trans {a b c : ByteArray} (h : kl a b = true) (k : kl b c = true) : kl a c = true := bl_trans _ _ _ h k
theorem kl_tri {a b : ByteArray} (h : kl a b = false) (k : kl b a = false) : a = b := bytes_ext (bl_tri _ _ h k)
theorem kl_ne {a b : ByteArray} (h : kl a b = true) : a ≠ b := by rintro rfl; rw [kl_irrefl] at h; cases h
theorem kl_not {a b : ByteArray} (h : kl a b = true) : kl b a = false := by
  cases e : kl b a
  · rfl
  · have := kl_trans h e; rw [kl_irrefl] at this; cases this
theorem kl_beq (a b : ByteArray) : (a.toList == b.toList) = decide (a = b) := by
  rw [Lib.toList_data, Lib.toList_data]
  by_cases h : a = b
  · subst h; simp
  · rw [decide_eq_false h, beq_eq_false_iff_ne]; exact fun e => h (bytes_ext e)

/-! ### Sorted keys -/
def SrtK (ks : List ByteArray) : Prop := ks.Pairwise fun a b => kl a b = true
def atK (x : ByteArray) (ks : List ByteArray) : Nat := (ks.takeWhile fun k => kl k x).length
theorem atK_le (x : ByteArray) (ks : List ByteArray) : atK x ks ≤ ks.length := by unfold atK; exact List.takeWhile_prefix _ |>.length_le
theorem atK_cons (x k : ByteArray) (ks : List ByteArray) : atK x (k :: ks) = if kl k x = true then atK x ks + 1 else 0 := by
  unfold atK
  rw [List.takeWhile_cons]
  split <;> rfl
theorem atK_below : ∀ (ks : List ByteArray) (x k : ByteArray) (t : Nat), t < atK x ks → ks[t]? = some k → kl k x = true
  | [], _, _, _, _, h => by simp at h
  | y :: ks, x, k, t, ht, h => by
    rw [atK_cons] at ht
    split at ht
    · rename_i hy
      cases t with
      | zero => simp at h; subst h; exact hy
      | succ t => exact atK_below ks x k t (by omega) (by simpa using h)
    · omega
theorem atK_above : ∀ (ks : List ByteArray) (x k : ByteArray) (t : Nat), SrtK ks → atK x ks ≤ t → ks[t]? = some k → kl k x = false
  | [], _, _, _, _, _, h => by simp at h
  | y :: ks, x, k, t, hs, ht, h => by
    have hs' := List.pairwise_cons.1 hs
    rw [atK_cons] at ht
    split at ht
    · cases t with
      | zero => omega
      | succ t => exact atK_above ks x k t hs'.2 (by omega) (by simpa using h)
    · rename_i hy
      have hy : kl y x = false := by simpa using hy
      cases t with
      | zero => simp at h; subst h; exact hy
      | succ t =>
        have hk : k ∈ ks := List.mem_of_getElem? (by simpa using h)
        cases e : kl k x
        · rfl
        · have := kl_trans (hs'.1 k hk) e
          rw [hy] at this; cases this
theorem atK_mem {ks : List ByteArray} (hs : SrtK ks) (x : ByteArray) : x ∈ ks ↔ ks[atK x ks]? = some x := by
  constructor
  · intro h
    obtain ⟨t, ht⟩ := List.getElem?_of_mem h
    rcases Nat.lt_trichotomy t (atK x ks) with h1 | rfl | h1
    · have := atK_below ks x x t h1 ht
      rw [kl_irrefl] at this; cases this
    · exact ht
    · obtain ⟨y, hy⟩ : ∃ y, ks[atK x ks]? = some y := by
        have := (List.getElem?_eq_some_iff.1 ht).1
        exact ⟨_, List.getElem?_eq_getElem (by omega)⟩
      have h2 := atK_above ks x y _ hs (Nat.le_refl _) hy
      obtain ⟨l1, e1⟩ := List.getElem?_eq_some_iff.1 hy
      obtain ⟨l2, e2⟩ := List.getElem?_eq_some_iff.1 ht
      have h3 := List.pairwise_iff_getElem.1 hs (atK x ks) t l1 l2 h1
      rw [e1, e2, h2] at h3
      cases h3
  · exact List.mem_of_getElem?

def hasK (x : ByteArray) (ks : List ByteArray) : Bool := ks.any fun k => decide (k = x)
theorem hasK_iff (x : ByteArray) (ks : List ByteArray) : hasK x ks = true ↔ x ∈ ks := by
  unfold hasK
  rw [List.any_eq_true]
  constructor
  · rintro ⟨y, hy, h⟩
    have : y = x := by simpa using h
    rwa [← this]
  · intro h; exact ⟨x, h, by simp⟩

/-! ### The row -/
theorem cell_same {W W' : World} {p : Addr} (h : W'.heap[p.block]? = W.heap[p.block]?) : W'.cell? p = W.cell? p := by simp [World.cell?, h]
theorem frozen_same {W W' : World} {p : Addr} (h : W'.heap[p.block]? = W.heap[p.block]?) : W'.frozen? p = W.frozen? p := by simp [World.frozen?, h]
structure RowS (W : World) (e : Nat) (ks : List ByteArray) (v : Value) : Prop where
  form : (v = .slice none 0 0 ∧ ks = []) ∨ ∃ cap cur, v = .slice (some ⟨e, 0, none⟩) ks.length cap ∧ Fresh W e cur 9 ∧ ks.length ≤ cap ∧ cap ≤ 9223372036854775807 ∧ cur.size = cap ∧ ∀ (j : Nat) (k : ByteArray), ks[j]? = some k → cur[j]? = some (.string k)
theorem RowS.nil (W : World) (e : Nat) : RowS W e [] (.slice none 0 0) := ⟨.inl ⟨rfl, rfl⟩⟩
theorem RowS.same {W W' : World} {e : Nat} {ks : List ByteArray} {v : Value} (h : RowS W e ks v) (he : W'.heap[e]? = W.heap[e]?) : RowS W' e ks v := by
  rcases h.form with h1 | ⟨cap, cur, h1, h2, h3⟩
  · exact ⟨.inl h1⟩
  · exact ⟨.inr ⟨cap, cur, h1, he.trans h2, h3⟩⟩
theorem RowS.slice {W : World} {e : Nat} {ks : List ByteArray} {v : Value} (h : RowS W e ks v) : ∃ ao cap, v = .slice ao ks.length cap ∧ ks.length ≤ cap := by
  rcases h.form with ⟨h1, h2⟩ | ⟨cap, cur, h1, _, h3, _⟩
  · exact ⟨none, 0, by rw [h1, h2]; rfl, by rw [h2]; exact Nat.le_refl _⟩
  · exact ⟨_, cap, h1, h3⟩

theorem RowS.slice' {W : World} {e : Nat} {ks : List ByteArray} {v : Value} (h : RowS W e ks v) : ∃ ao n cap, v = .slice ao n cap := by
  obtain ⟨ao, cap, h1, _⟩ := h.slice
  exact ⟨ao, _, cap, h1⟩
theorem Fresh.setCells {p : Nat} {t : TypeId} : ∀ (vs : List Value) {W : World} {cs : Array Value} (_ : Fresh W p cs t) (o : Nat), ∃ cs', Fresh (W.setCells p o vs) p cs' t ∧ cs'.size = cs.size ∧ (∀ j, o ≤ j → j < o + vs.length → j < cs.size → cs'[j]? = vs[j - o]?) ∧ ∀ j, (j < o ∨ o + vs.length ≤ j) → cs'[j]? = cs[j]?
  | [], W, cs, h, o => ⟨cs, h, rfl, fun j h1 h2 => by simp at h2; omega, fun _ _ => rfl⟩
  | v :: vs, W, cs, h, o => by
    obtain ⟨cs', h1, h2, h3, h4⟩ := Fresh.setCells vs (h.set o v) (o + 1)
    refine ⟨cs', h1, by rw [h2]; simp, fun j a b c => ?_, fun j a => ?_⟩
    · by_cases e : j = o
      · subst e
        rw [h4 j (.inl (by omega)), Array.getElem?_setIfInBounds_self_of_lt c]
        simp
      · rw [h3 j (by omega) (by simp at b; omega) (by simpa using c), show j - o = (j - (o + 1)) + 1 from by omega]
        simp
    · rw [h4 j (by simp at a; omega), Array.getElem?_setIfInBounds_ne (by simp at a; omega)]
theorem Turned.setCells {S : List Nat} {p : Nat} : ∀ (vs : List Value) {W W' : World} (_ : Turned S W W') (_ : p ∈ S ∨ W.heap.size ≤ p) (o : Nat), Turned S W (W'.setCells p o vs)
  | [], _, _, h, _, _ => h
  | v :: vs, _, _, h, hp, o => Turned.setCells vs (h.setCell hp o v) hp (o + 1)
end Go.Proofs.Ytfffifmpfkkgbaa

/- The place of a key: binary search over the row, by the place that it must find. -/
namespace Go.Proofs.Ytfffifmpfkkgbaa
open Go.RowKit
set_option maxRecDepth 1000000
set_option maxHeartbeats 4000000

theorem nan1_any (x : ByteArray) (w : World) : Calls Try.prog 73 #[.string x] w fun e w' => e = .returned (.bool false) ∧ w' = w := by
  go_enter Try.func73, Try.ntmps73
  go_wp2_with fail
  go_ret
  simp
theorem nan2_any (x : ByteArray) (w : World) : Calls Try.prog 80 #[.string x] w fun e w' => e = .returned (.bool false) ∧ w' = w := by
  go_enter Try.func80, Try.ntmps80
  go_wp2_with fail
  go_ret
  simp
theorem before_any (x y : ByteArray) (w : World) : Calls Try.prog 72 #[.string x, .string y] w fun e w' => e = .returned (.bool (kl x y)) ∧ w' = w := by
  have hk := kl_eq x y
  go_enter Try.func72, Try.ntmps72
  go_wp2_with (go_at_call 80; refine (nan2_any _ _).mono ?_; rintro e1 w1 ⟨rfl, h1⟩; replace h1 := h1.symm; subst h1)
  go_ret
  simp [hk]

/-- What stands at a place, as a bool. -/
def standsAt (x : ByteArray) (ks : List ByteArray) (i : Nat) : Bool := decide (ks[i]? = some x)
theorem stands_has {ks : List ByteArray} (hs : SrtK ks) (x : ByteArray) : standsAt x ks (atK x ks) = hasK x ks := by
  rw [Bool.eq_iff_iff, hasK_iff, atK_mem hs x]
  simp [standsAt]

theorem search_any {W : World} {e : Nat} {ks : List ByteArray} {v : Value} (h : RowS W e ks v) (hs : SrtK ks) (hn : ks.length < 1000000) (x : ByteArray) :
    Calls Try.prog 61 #[v, .string x] W fun e' w' => e' = .returned (.tuple #[.int .i64 (atK x ks : Nat), .bool (hasK x ks)]) ∧ Below W.heap.size W w' := by
  obtain ⟨ao, cap, rfl, _⟩ := h.slice
  have hcell : Hid (∀ (j : Nat) (k : ByteArray), ks[j]? = some k → ∃ b, ao = some ⟨b, 0, none⟩ ∧ b < W.heap.size ∧ W.cell? ⟨b, j, none⟩ = some (.string k)) := by
    intro j k hj
    rcases h.form with ⟨_, h2⟩ | ⟨cap', cur, h2, hf, _, _, _, h6⟩
    · rw [h2] at hj; simp at hj
    · cases h2
      exact ⟨e, rfl, hf.lt, by rw [hf.cell]; exact h6 j k hj⟩
  have HSH := stands_has hs x
  obtain ⟨A, hA⟩ : ∃ A, atK x ks = A := ⟨_, rfl⟩
  obtain ⟨n, hnn⟩ : ∃ n, ks.length = n := ⟨_, rfl⟩
  have hlow : Hid (∀ (j : Nat) (k : ByteArray), j < A → ks[j]? = some k → kl k x = true) := fun j k h1 h2 => atK_below ks x k j (by rw [hA]; exact h1) h2
  have hhigh : Hid (∀ (j : Nat) (k : ByteArray), A ≤ j → ks[j]? = some k → kl k x = false) := fun j k h1 h2 => atK_above ks x k j hs (by rw [hA]; exact h1) h2
  have hAn : A ≤ n := by rw [← hA, ← hnn]; exact atK_le x ks
  have hget : Hid (∀ j, j < n → ∃ k, ks[j]? = some k) := fun j hj => ⟨_, List.getElem?_eq_getElem (by rw [hnn]; exact hj)⟩
  have hbig : Hid (n < 1000000) := by show _ < _; rw [← hnn]; exact hn
  have HLN := Lib.hid hnn
  obtain ⟨r, hr⟩ : ∃ r, standsAt x ks A = r := ⟨_, rfl⟩
  have HR := Lib.hid hr
  rw [← HSH, hA, hnn, hr]
  clear h hs hn HSH hA hnn hr
  go_enter Try.func61, Try.ntmps61
  go_wp2_with fail
  go_loopw [7, 8] (fun av bv wr => ∃ a b : Nat, av = .int .i64 a ∧ bv = .int .i64 b ∧ a ≤ A ∧ A ≤ b ∧ b ≤ n ∧ Below W.heap.size W wr) (fun av bv _ => (intOf bv).toNat - (intOf av).toNat)
  case atStart => exact ⟨0, n, rfl, rfl, Nat.zero_le _, hAn, Nat.le_refl _, Below.refl _ _⟩
  case round =>
    obtain ⟨a, b, rfl, rfl, ha, hb, hbn, hbw⟩ := hrel
    have n6 := hbig.out
    by_cases hab : a < b
    · obtain ⟨c, hc⟩ : ∃ c, (a + b) / 2 = c := ⟨_, rfl⟩
      obtain ⟨k, hk⟩ := hget.out c (by omega)
      obtain ⟨blk, rfl, hlt, hcl⟩ := hcell.out c k hk
      replace hcl := (hbw.cell (p := ⟨blk, c, none⟩) hlt).trans hcl
      have hcI : ((a : Int) + (b : Int)) / 2 = (c : Int) := by omega
      have HBW := Lib.hid hbw
      have HK := Lib.hid hk
      have c0 : (0 : Int) ≤ (c : Int) := by omega
      have c1 : (c : Int) < (n : Int) := by omega
      have jab : (a : Int) < (b : Int) := by omega
      have jd : decide (a < b) = true := decide_eq_true hab
      clear hk hbw hlt
      cases hkx : kl k x
      · have hAc : A ≤ c := by
          rcases Nat.lt_or_ge c A with h | h
          · rw [hlow.out c k h HK.out] at hkx; cases hkx
          · exact h
        go_wp2_with (go_at_call 72; refine (before_any k x _).mono ?_; rw [hkx]; rintro e1 w1 ⟨rfl, h1⟩; replace h1 := h1.symm; subst h1)
        go_roundw
        case rel => exact ⟨a, c, rfl, rfl, ha, hAc, by omega, HBW.out⟩
        case measure => simp [intOf]; omega
      · have hAc : c + 1 ≤ A := by
          rcases Nat.lt_or_ge c A with h | h
          · exact h
          · rw [hhigh.out c k h HK.out] at hkx; cases hkx
        go_wp2_with (go_at_call 72; refine (before_any k x _).mono ?_; rw [hkx]; rintro e1 w1 ⟨rfl, h1⟩; replace h1 := h1.symm; subst h1)
        go_roundw
        case rel => exact ⟨c + 1, b, by simp, rfl, hAc, hb, hbn, HBW.out⟩
        case measure => simp [intOf]; omega
    · obtain rfl : a = A := by omega
      obtain rfl : b = a := by omega
      have jab : ¬ (b : Int) < (b : Int) := by omega
      have jd : decide (b < b) = false := decide_eq_false (by omega)
      have HBW := Lib.hid hbw
      clear hbw hb ha
      by_cases hbn2 : b < n
      · obtain ⟨k, hk⟩ := hget.out b hbn2
        obtain ⟨blk, rfl, hlt, hcl⟩ := hcell.out b k hk
        replace hcl := (HBW.out.cell (p := ⟨blk, b, none⟩) hlt).trans hcl
        have HK := Lib.hid hk
        have c0 : (0 : Int) ≤ (b : Int) := by omega
        have c1 : (b : Int) < (n : Int) := by omega
        have jn : decide (b < n) = true := decide_eq_true hbn2
        clear hk hlt hcell hget hlow hhigh
        by_cases hkx : k = x
        · have hs1 : standsAt x ks b = true := by unfold standsAt; rw [HK.out, hkx]; simp
          have heq : (k.toList == x.toList) = true := by rw [kl_beq]; exact decide_eq_true hkx
          clear hkx
          go_wp2_with (go_at_call 73; refine (nan1_any _ _).mono ?_; rintro e1 w1 ⟨rfl, h1⟩; replace h1 := h1.symm; subst h1)
          go_ret2
          exact ⟨by rw [← HR.out, hs1]; first | done | simp [*], HBW.out⟩
        · have hs1 : standsAt x ks b = false := by unfold standsAt; rw [HK.out]; simpa using hkx
          have heq : (k.toList == x.toList) = false := by rw [kl_beq]; exact decide_eq_false hkx
          clear hkx
          go_wp2_with (go_at_call 73; refine (nan1_any _ _).mono ?_; rintro e1 w1 ⟨rfl, h1⟩; replace h1 := h1.symm; subst h1)
          go_ret2
          exact ⟨by rw [← HR.out, hs1]; first | done | simp [*], HBW.out⟩
      · have hs1 : standsAt x ks b = false := by
          unfold standsAt
          rw [List.getElem?_eq_none (by rw [HLN.out]; omega)]
          simp
        have c1 : ¬ (b : Int) < (n : Int) := by omega
        have jn : decide (b < n) = false := decide_eq_false hbn2
        clear hcell hget hlow hhigh
        go_wp2_with fail
        go_ret2
        exact ⟨by rw [← HR.out, hs1]; first | done | simp [*], HBW.out⟩
end Go.Proofs.Ytfffifmpfkkgbaa

/- Laying keys into a row of strings; slices.Insert of one key, behind the last one and before another one. -/
namespace Go.Proofs.Ytfffifmpfkkgbaa
open Go.RowKit
set_option maxRecDepth 1000000
set_option maxHeartbeats 4000000

def strs (ks : List ByteArray) : List Value := ks.map .string
theorem strs_len (ks : List ByteArray) : (strs ks).length = ks.length := by simp [strs]
theorem strs_get (ks : List ByteArray) (j : Nat) : (strs ks)[j]? = ks[j]?.map .string := by simp [strs]
theorem strs_at {ks : List ByteArray} {j : Nat} {v : Value} (h : (strs ks)[j]? = some v) : ∃ k, ks[j]? = some k ∧ v = .string k := by
  rw [strs_get] at h
  obtain ⟨k, h1, h2⟩ := Option.map_eq_some_iff.1 h
  exact ⟨k, h1, h2.symm⟩
theorem strs_small {ks : List ByteArray} {v : Value} (h : v ∈ strs ks) : v.oneCell' = true := by
  obtain ⟨k, _, rfl⟩ := List.mem_map.1 h
  rfl
theorem Fresh.shape {W : World} {p : Nat} {cs : Array Value} {t : TypeId} (h : Fresh W p cs t) : W.shape? p = some (t, cs.size) := by
  unfold Fresh at h
  simp [World.shape?, h]
theorem infoS : ∃ i0 : TypeInfo, Try.prog.info? 9 = some i0 ∧ i0.zero = some (.string ⟨#[]⟩) ∧ i0.size = 1 ∧ i0.bytes = 16 := by
  have h : (Try.prog.info? 9).map (fun i => (i.zero, i.size, i.bytes)) = some (some (.string ⟨#[]⟩), 1, 16) := by kernel_rfl
  obtain ⟨i0, h1, h2⟩ := Option.map_eq_some_iff.1 h
  simp only [Prod.mk.injEq] at h2
  exact ⟨i0, h1, h2.1, h2.2.1, h2.2.2⟩

/-- A row of cells into which keys were laid from a place on. -/
structure Laid (o : Nat) (xs : List ByteArray) (cs cs' : Array Value) : Prop where
  size : cs'.size = cs.size
  here : ∀ (j : Nat) (k : ByteArray), xs[j]? = some k → o + j < cs.size → cs'[o + j]? = some (.string k)
  else_ : ∀ j, (j < o ∨ o + xs.length ≤ j) → cs'[j]? = cs[j]?
theorem lay_cells {W : World} {b : Nat} {cs : Array Value} (hf : Fresh W b cs 9) (o : Nat) (xs : List ByteArray) :
    ∃ cs', Fresh (W.setCells b o (strs xs)) b cs' 9 ∧ Laid o xs cs cs' ∧ Turned [b] W (W.setCells b o (strs xs)) := by
  obtain ⟨cs', h1, h2, h3, h4⟩ := Fresh.setCells (strs xs) hf o
  refine ⟨cs', h1, ⟨h2, fun j k hj hlt => ?_, fun j hj => h4 j (by rw [strs_len]; exact hj)⟩, Turned.setCells _ (Turned.refl _ _) (.inl (by simp)) _⟩
  have hjl := (List.getElem?_eq_some_iff.1 hj).1
  rw [h3 _ (by omega) (by rw [strs_len]; omega) hlt, show o + j - o = j from by omega, strs_get, hj]
  rfl
/-- The builtin copy of keys into a row. -/
theorem lay_copy {W : World} {b : Nat} {cs : Array Value} (hf : Fresh W b cs 9) (tx : TypeId) (o k : Nat) (a : Addr) (m : Nat) (xs : List ByteArray) (hl : xs.length = Nat.min m k) (hfit : o + xs.length ≤ cs.size)
    (hsrc : ∀ (j : Nat) (x : ByteArray), xs[j]? = some x → W.cell? (a.add j) = some (.string x)) :
    ∃ W' cs', (∀ ty kc mc, (Builtin.copy_ #[60, tx] ty #[.slice (some ⟨b, o, none⟩) k kc, .slice (some a) m mc]).run Try.prog W = .ok (goInt xs.length) W') ∧ Fresh W' b cs' 9 ∧ Laid o xs cs cs' ∧ Turned [b] W W' := by
  obtain ⟨i0, hi0, _, hz, _⟩ := infoS
  obtain ⟨cs', h1, h2, h3⟩ := lay_cells hf o xs
  refine ⟨_, cs', fun ty kc mc => ?_, h1, h2, h3⟩
  rw [← strs_len xs]
  refine run_copy_cells W _ tx ty 9 b o k kc a m mc (strs xs) Try.underlying60 (by rw [hi0]; simp [hz]) (by rw [strs_len]; exact hl) (fun j v hj => ?_) (fun j hj => ?_) (fun j _ => hf.thawed _) (fun v hv => strs_small hv)
  · obtain ⟨x, hx, rfl⟩ := strs_at hj
    exact hsrc j x hx
  · rw [strs_len] at hj
    rw [hf.cell, Array.getElem?_eq_getElem (by omega)]
    rfl
/-- The key appended to a row: with room or without. -/
theorem lay_append {W : World} {e : Nat} {ks : List ByteArray} {v : Value} (h : RowS W e ks v) (x : ByteArray) (hn : ks.length < 1000000) {vb : Nat} (hv : Fresh W vb #[.string x] 9) :
    ∃ v' W' e2, (∀ ty, (Builtin.append_ #[60, 55] ty #[v, .slice (some ⟨vb, 0, none⟩) 1 1]).run Try.prog W = .ok v' W') ∧ (e2 = e ∨ W.heap.size ≤ e2) ∧ Turned [e] W W' ∧ RowS W' e2 (ks ++ [x]) v' ∧ (v = .slice none 0 0 → Turned [] W W') ∧ ∃ cur, Fresh W' e2 cur 9 := by
  obtain ⟨i0, hi0, hz0, hzs, hzb⟩ := infoS
  have hsrc : Src Try.prog i0.size 55 (.slice (some ⟨vb, 0, none⟩) 1 1) 1 [.string x] W := by
    refine Src.ofSlice W Try.underlying55 ⟨vb, 0, none⟩ 1 1 [.string x] (by rw [hzs]; rfl) (fun j u hj => ?_) (by intro u hu; simp at hu; subst hu; rfl)
    rw [Addr.add_lit, Nat.zero_add, hv.cell]
    simpa using hj
  -- without room, over whatever stands there
  have grow : ∀ (a : Option Addr) c, v = .slice a ks.length c → ks.length ≤ c → c < ks.length + 1 → (Builtin.firstCells i0.size ks.length (.slice a ks.length c)).run Try.prog W.drew = .ok (strs ks).toArray W.drew →
      ∃ v' W' e2, (∀ ty, (Builtin.append_ #[60, 55] ty #[v, .slice (some ⟨vb, 0, none⟩) 1 1]).run Try.prog W = .ok v' W') ∧ (e2 = e ∨ W.heap.size ≤ e2) ∧ Turned [e] W W' ∧ RowS W' e2 (ks ++ [x]) v' ∧ (v = .slice none 0 0 → Turned [] W W') ∧ ∃ cur, Fresh W' e2 cur 9 := by
    rintro a c rfl h1 h2 h3
    obtain ⟨G, hG⟩ : ∃ G, grownCap W (ks.length + 1) c 9 = G := ⟨_, rfl⟩
    have g1 : ks.length + 1 ≤ G := by rw [← hG]; exact grownCap_ge W _ _ _
    have g2 : G ≤ maxLen := by rw [← hG]; exact grownCap_le_maxLen W _ c _ (by unfold maxLen; omega)
    have hF := Fresh.new W.drew W.heap.size ((strs ks ++ [Value.string x]).toArray ++ Builtin.zeroCells (Value.string ⟨#[]⟩).cells (G - (ks.length + 1))) 9 rfl
    refine ⟨.slice (some ⟨W.heap.size, 0, none⟩) (ks.length + 1) G, _, W.heap.size, fun ty => ?_, .inr (Nat.le_refl _), ((Turned.refl [e] W).drew).alloc _, ⟨.inr ⟨G, _, ?_, hF, by simpa using g1, by unfold maxLen at g2; omega, ?_, fun j k hk => ?_⟩⟩, fun _ => ((Turned.refl [] W).drew).alloc _, _, hF⟩
    · have := run_append_grow_src W 60 55 ty 9 i0 _ Try.underlying60 hi0 hz0 a ks.length c (strs ks) h3 _ 1 [.string x] hsrc (by omega) (by omega) (by rw [hzb]; exact growslice_fits (by omega) (by omega))
      rw [hG] at this
      exact this
    · simp
    · simp [Builtin.zeroCells, Value.cells, strs]; omega
    · have hj := (List.getElem?_eq_some_iff.1 hk).1
      simp at hj
      rw [Array.getElem?_append_left (by simp [strs]; omega)]
      have e1 : strs ks ++ [Value.string x] = strs (ks ++ [x]) := by simp [strs]
      rw [e1, List.getElem?_toArray, strs_get, hk]
      rfl
  rcases h.form with ⟨rfl, rfl⟩ | ⟨cap, cur, rfl, hf, h3, h4, h5, h6⟩
  · refine grow none 0 rfl (Nat.le_refl _) (by simp) ?_
    rw [hzs]
    exact run_firstCells_none W.drew 1 0 0 0
  · by_cases hr : cap < ks.length + 1
    · refine grow (some ⟨e, 0, none⟩) cap rfl h3 hr ?_
      rw [hzs]
      refine run_firstCells_some W.drew 1 ks.length ⟨e, 0, none⟩ ks.length cap (strs ks) (by rw [strs_len, Nat.mul_one]) (fun j u hu => ?_)
      obtain ⟨k, hk, rfl⟩ := strs_at hu
      rw [Addr.add_lit, Nat.zero_add, hf.drew.cell]
      exact h6 j k hk
    · obtain ⟨cs', k1, k2, k3⟩ := lay_cells hf ks.length [x]
      refine ⟨.slice (some ⟨e, 0, none⟩) (ks.length + 1) cap, _, e, fun ty => ?_, .inl rfl, k3, ⟨.inr ⟨cap, cs', by simp, k1, by simp; omega, h4, by rw [k2.size]; exact h5, fun j k hk => ?_⟩⟩, (fun hx => by cases hx), _, k1⟩
      · have := run_append_room_src (w := W) 60 55 ty 9 i0 Try.underlying60 hi0 e 0 ks.length cap _ 1 [.string x] hsrc (by omega) (fun j hj => by rw [hf.cell, hzs, Array.getElem?_eq_getElem (by simp at hj; omega)]; rfl) (fun j _ => hf.thawed _)
        rw [hzs, Nat.mul_one, Nat.zero_add] at this
        exact this
      · by_cases hj : j < ks.length
        · rw [k2.else_ j (.inl hj)]
          rw [List.getElem?_append_left hj] at hk
          exact h6 j k hk
        · have hj2 := (List.getElem?_eq_some_iff.1 hk).1
          simp at hj2
          obtain rfl : j = ks.length := by omega
          have := k2.here 0 x rfl (by omega)
          simp at hk this
          rw [this, hk]
/-- What Insert leaves. -/
def Inserted (W : World) (e : Nat) (ks2 : List ByteArray) (v : Value) (e' : Ending) (w' : World) : Prop :=
  ∃ v' e2, e' = .returned v' ∧ (e2 = e ∨ W.heap.size ≤ e2) ∧ Turned [e] W w' ∧ RowS w' e2 ks2 v' ∧ (v = .slice none 0 0 → Turned [] W w') ∧ ∃ cur, Fresh w' e2 cur 9
theorem insert_end {W : World} {e : Nat} {ks : List ByteArray} {v : Value} (h : RowS W e ks v) (x : ByteArray) (hn : ks.length < 1000000) {vb : Nat} (hv : Fresh W vb #[.string x] 9) :
    Calls Try.prog 62 #[v, .int .i64 ks.length, .slice (some ⟨vb, 0, none⟩) 1 1] W (Inserted W e (ks ++ [x]) v) := by
  obtain ⟨v', W', e2, hrun, h1⟩ := lay_append h x hn hv
  have H1 := Lib.hid h1
  clear h1
  rcases h.form with ⟨rfl, rfl⟩ | ⟨cap, cur, rfl, _, h3, _⟩
  · simp only [List.length_nil, List.nil_append] at H1 ⊢
    go_enter Try.func62, Try.ntmps62
    go_wp2_with (at_builtin; refine Lib.wpList_append_run _ rfl _ _ _ _ rfl _ _ rfl rfl _ _ (hrun _) ?_)
    go_ret
    exact ⟨v', e2, rfl, H1.out.1, H1.out.2.1, H1.out.2.2.1, fun _ => H1.out.2.2.2.1 trivial, H1.out.2.2.2.2⟩
  · have hn0 : ks.length ≤ cap := h3
    go_enter Try.func62, Try.ntmps62
    go_wp2_with (at_builtin; refine Lib.wpList_append_run _ rfl _ _ _ _ rfl _ _ rfl rfl _ _ (hrun _) ?_)
    all_goals
      go_ret
      exact ⟨v', e2, rfl, H1.out.1, H1.out.2.1, H1.out.2.2.1, (fun hx => by cases hx), H1.out.2.2.2.2⟩
/-- Which cell holds what, once a key stands among the others. -/
theorem mid_row {ks : List ByteArray} {x : ByteArray} {i : Nat} {c : Array Value} (hi : i ≤ ks.length) (h1 : ∀ (j : Nat) (k : ByteArray), j < i → ks[j]? = some k → c[j]? = some (.string k)) (h2 : c[i]? = some (.string x))
    (h3 : ∀ (j : Nat) (k : ByteArray), (ks.drop i)[j]? = some k → c[i + 1 + j]? = some (.string k)) (j : Nat) (k : ByteArray) (h : (ks.take i ++ x :: ks.drop i)[j]? = some k) : c[j]? = some (.string k) := by
  have hl : (ks.take i).length = i := by rw [List.length_take]; omega
  rcases Nat.lt_or_ge j i with hj | hj
  · rw [List.getElem?_append_left (by omega), List.getElem?_take_of_lt hj] at h
    exact h1 j k hj h
  · rw [List.getElem?_append_right (by omega), hl] at h
    rcases Nat.eq_zero_or_pos (j - i) with h0 | h0
    · rw [h0] at h
      obtain rfl : x = k := by simpa using h
      obtain rfl : j = i := by omega
      exact h2
    · obtain ⟨t, ht⟩ : ∃ t, j - i = t + 1 := ⟨j - i - 1, by omega⟩
      rw [ht, List.getElem?_cons_succ] at h
      rw [show j = i + 1 + t from by omega]
      exact h3 t k h
theorem drop_cell {W : World} {e : Nat} {cur : Array Value} {ks : List ByteArray} (hf : Fresh W e cur 9) (h6 : ∀ (j : Nat) (k : ByteArray), ks[j]? = some k → cur[j]? = some (.string k)) (i : Nat) (j : Nat) (k : ByteArray) (h : (ks.drop i)[j]? = some k) : W.cell? ((⟨e, i, none⟩ : Addr).add j) = some (.string k) := by
  rw [List.getElem?_drop] at h
  rw [Addr.add_lit, hf.cell]
  exact h6 _ k h
/-- There is room: the keys behind it are moved up. -/
theorem insert_room {W : World} {e cap : Nat} {ks : List ByteArray} {cur : Array Value} (hf : Fresh W e cur 9) (hroom : ks.length + 1 ≤ cap) (hm : cap ≤ 9223372036854775807) (hc : cur.size = cap) (h6 : ∀ (j : Nat) (k : ByteArray), ks[j]? = some k → cur[j]? = some (.string k))
    (x : ByteArray) {i : Nat} (hi : i < ks.length) (hn : ks.length < 1000000) {vb : Nat} (hv : Fresh W vb #[.string x] 9) (hne : vb ≠ e) :
    Calls Try.prog 62 #[.slice (some ⟨e, 0, none⟩) ks.length cap, .int .i64 i, .slice (some ⟨vb, 0, none⟩) 1 1] W (Inserted W e (ks.take i ++ x :: ks.drop i) (.slice (some ⟨e, 0, none⟩) ks.length cap)) := by
  obtain ⟨n, hnn⟩ : ∃ n, ks.length = n := ⟨_, rfl⟩
  have hdl : (ks.drop i).length = n - i := by rw [List.length_drop, hnn]
  obtain ⟨W1, c1, r1, f1, l1, t1⟩ := lay_copy (W := W.drew) (b := e) (cs := cur) hf.drew 60 (i + 1) (n - i) ⟨e, i, none⟩ (n + 1 - i) (ks.drop i) (by rw [hdl]; simp only [Nat.min_def]; split <;> omega) (by rw [hdl, hc]; omega) (fun j k hj => drop_cell hf.drew h6 i j k hj)
  have hv1 : Fresh W1 vb #[.string x] 9 := t1.other hv.drew (by simpa using hne)
  obtain ⟨W2, c2, r2, f2, l2, t2⟩ := lay_copy (W := W1) (b := e) (cs := c1) f1 55 i (n + 1 - i) ⟨vb, 0, none⟩ 1 [x] (by simp only [Nat.min_def, List.length_singleton]; split <;> omega) (by rw [l1.size, hc]; simp; omega) (fun j k hj => by
    rw [Addr.add_lit, hv1.cell, Nat.zero_add]
    cases j with
    | zero => simpa using hj
    | succ j => simp at hj)
  have hov : ∀ lb cb, (callFunc 74 #[.slice (some ⟨vb, 0, none⟩) 1 1, .slice (some ⟨e, i + 1, none⟩) lb cb]).run Try.prog W = .ok (.value (.bool false)) W := fun lb cb => by
    rw [run_callFunc_extern Try.func74 (by kernel_rfl) (by kernel_rfl) (by kernel_rfl) (e := Extern.SlicesOverlaps.overlaps #[55, 55] #[4]) (by kernel_rfl)]
    rw [Lib.run_overlaps_apart W 55 4 9 Try.underlying55 1 (fun w => by kernel_rfl) ⟨vb, 0, none⟩ ⟨e, i + 1, none⟩ 1 1 lb cb hne _ _ _ _ hv.shape hf.shape (by omega) (hv.thawed 0) (hv.thawed _)]
    rfl
  have HE : Hid (Inserted W e (ks.take i ++ x :: ks.drop i) (.slice (some ⟨e, 0, none⟩) ks.length cap) (.returned (.slice (some ⟨e, 0, none⟩) (n + 1) cap)) W2) := by
    refine ⟨_, e, rfl, .inl rfl, ((Turned.refl _ _).drew.trans t1).trans t2, ⟨.inr ⟨cap, c2, by simp; omega, f2, by simp; omega, hm, by rw [l2.size, l1.size]; exact hc, ?_⟩⟩, (fun hx => by cases hx), _, f2⟩
    refine mid_row (by omega) (fun j k hj hk => ?_) ?_ (fun j k hk => ?_)
    · rw [l2.else_ j (.inl hj), l1.else_ j (.inl (by omega))]
      exact h6 j k hk
    · have := l2.here 0 x rfl (by rw [l1.size, hc]; omega)
      simpa using this
    · have hjl := (List.getElem?_eq_some_iff.1 hk).1
      rw [l2.else_ _ (.inr (by simp))]
      exact l1.here j k hk (by rw [hc]; omega)
  have mixed : Try.prog.follows .mixedOrders = true := by kernel_rfl
  rw [hnn] at HE hi hroom hn ⊢
  have z1 : ¬ ((i : Int) = (n : Int)) := by omega
  have z2 : ¬ (cap = i + 1) := by omega
  have z3 : ¬ (cap = i) := by omega
  have z4 : (0 : Int) ≤ (i : Int) + 1 := by omega
  have z5 : ((i : Int) + 1).toNat = i + 1 := by omega
  have z6 : IntKind.i64.wrap ((i : Int) + 1) = (i : Int) + 1 := by rw [IntKind.wrap_i64]; omega
  have z7 : (i : Int) ≤ (n : Int) + 1 := by omega
  have hin : i ≤ n := by omega
  clear f1 l1 t1 f2 l2 t2 hv1 hdl h6 hf hv hc
  go_enter Try.func62, Try.ntmps62
  go_wp2_with (simp only [hov])
  go_region_law_o (refine step_copy_runI rfl _ _ 60 60 rfl _ _ (by simp [Act.eval, Act.put]) (by simp [Act.eval, Act.put]) (r1 _ _ _) ?_)
  go_wp2_with (at_builtin; refine wpList_copy_runI _ rfl _ _ 60 55 rfl _ _ rfl rfl (r2 _ _ _) ?_)
  go_ret
  exact HE.out
/-- A new row, its head filled: what append of empty places makes. -/
theorem lay_places {W : World} {e n : Nat} {ks : List ByteArray} {cur : Array Value} (hf : Fresh W e cur 9) (hnn : ks.length = n) (h6 : ∀ (j : Nat) (k : ByteArray), ks[j]? = some k → cur[j]? = some (.string k)) {i : Nat} (hi : i < n) (hn : n < 1000000) :
    ∃ W' G c', (∀ ty, (Builtin.append_ #[60, 3] ty #[.slice (some ⟨e, 0, none⟩) i n, .int .i64 ((n : Int) + 1 - (i : Int))]).run Try.prog W = .ok (.slice (some ⟨W.heap.size, 0, none⟩) (n + 1) G) W') ∧ Fresh W' W.heap.size c' 9 ∧ c'.size = G ∧ n + 1 ≤ G ∧ G ≤ 9223372036854775807 ∧ (∀ (j : Nat) (k : ByteArray), j < i → ks[j]? = some k → c'[j]? = some (.string k)) ∧ Below W.heap.size W W' := by
  obtain ⟨i0, hi0, hz0, hzs, hzb⟩ := infoS
  obtain ⟨G, hG⟩ : ∃ G, grownCap W (n + 1) n 9 = G := ⟨_, rfl⟩
  have g1 : n + 1 ≤ G := by rw [← hG]; exact grownCap_ge W _ _ _
  have g2 : G ≤ maxLen := by rw [← hG]; exact grownCap_le_maxLen W _ _ _ (by unfold maxLen; omega)
  have hk : i + (n + 1 - i) = n + 1 := by omega
  have hold : (Builtin.firstCells i0.size i (.slice (some ⟨e, 0, none⟩) i n)).run Try.prog W.drew = .ok (strs (ks.take i)).toArray W.drew := by
    rw [hzs]
    refine run_firstCells_some W.drew 1 i ⟨e, 0, none⟩ i n (strs (ks.take i)) (by rw [strs_len, List.length_take, Nat.mul_one]; omega) (fun j u hu => ?_)
    obtain ⟨k, hk, rfl⟩ := strs_at hu
    rw [List.getElem?_take] at hk
    split at hk
    · rw [Addr.add_lit, Nat.zero_add, hf.drew.cell]; exact h6 j k hk
    · cases hk
  refine ⟨_, G, _, fun ty => ?_, Fresh.new W.drew W.heap.size ((strs (ks.take i)).toArray ++ Builtin.zeroCells (Value.string ⟨#[]⟩).cells (n + 1 - i) ++ Builtin.zeroCells (Value.string ⟨#[]⟩).cells (G - (n + 1))) 9 rfl, ?_, g1, by unfold maxLen at g2; omega, fun j k hj hjk => ?_, ((Below.refl _ _).drew).alloc (Nat.le_refl _) _⟩
  · have h := Lib.run_append_grow_zeros W 60 3 ty 9 i0 _ .i64 .i64 Try.underlying60 Try.underlying3 hi0 hz0 (some ⟨e, 0, none⟩) i n (strs (ks.take i)).toArray.toList hold (n + 1 - i) (by omega) (by omega) (by omega) (by omega) (by rw [hzb]; omega) (by rw [hzb, hk]; exact growslice_fits (by omega) (by omega))
    rw [hk, hG] at h
    rw [show (n : Int) + 1 - (i : Int) = ((n + 1 - i : Nat) : Int) from by omega]
    exact h
  · simp [Builtin.zeroCells, Value.cells, strs]; omega
  · have hjl := (List.getElem?_eq_some_iff.1 hjk).1
    rw [Array.append_assoc, Array.getElem?_append_left (by simp [strs]; omega), List.getElem?_toArray, strs_get, List.getElem?_take_of_lt hj, hjk]
    rfl
/-- There is no room: a new row. -/
theorem insert_grow {W : World} {e cap : Nat} {ks : List ByteArray} {cur : Array Value} (hf : Fresh W e cur 9) (hcap : cap = ks.length) (h6 : ∀ (j : Nat) (k : ByteArray), ks[j]? = some k → cur[j]? = some (.string k))
    (x : ByteArray) {i : Nat} (hi : i < ks.length) (hn : ks.length < 1000000) {vb : Nat} (hv : Fresh W vb #[.string x] 9) :
    Calls Try.prog 62 #[.slice (some ⟨e, 0, none⟩) ks.length cap, .int .i64 i, .slice (some ⟨vb, 0, none⟩) 1 1] W (Inserted W e (ks.take i ++ x :: ks.drop i) (.slice (some ⟨e, 0, none⟩) ks.length cap)) := by
  obtain ⟨n, hnn⟩ : ∃ n, ks.length = n := ⟨_, rfl⟩
  have hdl : (ks.drop i).length = n - i := by rw [List.length_drop, hnn]
  obtain ⟨W1, G, c1, r1, f1, s1, hG1, hG2, low, b1⟩ := lay_places hf hnn h6 (i := i) (by omega) (by omega)
  have hv1 := hv.below b1
  have he1 := hf.below b1
  have hel := hf.lt
  have hvl := hv.lt
  obtain ⟨W2, c2, r2, f2, l2, t2⟩ := lay_copy (W := W1) (b := W.heap.size) (cs := c1) f1 55 i (n + 1 - i) ⟨vb, 0, none⟩ 1 [x] (by simp only [Nat.min_def, List.length_singleton]; split <;> omega) (by rw [s1]; simp; omega) (fun j k hj => by
    rw [Addr.add_lit, hv1.cell, Nat.zero_add]
    cases j with
    | zero => simpa using hj
    | succ j => simp at hj)
  have he2 : Fresh W2 e cur 9 := t2.other he1 (by simp; omega)
  obtain ⟨W3, c3, r3, f3, l3, t3⟩ := lay_copy (W := W2.drew) (b := W.heap.size) (cs := c2) f2.drew 60 (i + 1) (n - i) ⟨e, i, none⟩ (n - i) (ks.drop i) (by rw [hdl]; simp only [Nat.min_def]; split <;> omega) (by rw [hdl, l2.size, s1]; omega) (fun j k hj => drop_cell he2.drew h6 i j k hj)
  have HE : Hid (Inserted W e (ks.take i ++ x :: ks.drop i) (.slice (some ⟨e, 0, none⟩) ks.length cap) (.returned (.slice (some ⟨W.heap.size, 0, none⟩) (n + 1) G)) W3) := by
    have tw : Turned [e] W W3 := by
      have hb := Turned.below (S := [W.heap.size]) b1 (t2.drew.trans t3) (by simp) b1.size
      exact .of_below hb
    refine ⟨_, W.heap.size, rfl, .inr (Nat.le_refl _), tw, ⟨.inr ⟨G, c3, by simp; omega, f3, by simp; omega, hG2, by rw [l3.size, l2.size]; exact s1, ?_⟩⟩, (fun hx => by cases hx), _, f3⟩
    refine mid_row (by omega) (fun j k hj hk => ?_) ?_ (fun j k hk => ?_)
    · rw [l3.else_ j (.inl (by omega)), l2.else_ j (.inl hj)]
      exact low j k hj hk
    · rw [l3.else_ i (.inl (by omega))]
      have := l2.here 0 x rfl (by rw [s1]; omega)
      simpa using this
    · have hjl := (List.getElem?_eq_some_iff.1 hk).1
      exact l3.here j k hk (by rw [l2.size, s1]; omega)
  have mixed : Try.prog.follows .mixedOrders = true := by kernel_rfl
  subst hcap
  rw [hnn] at HE hi hn ⊢
  have z1 : ¬ ((i : Int) = (n : Int)) := by omega
  have z2 : ¬ (G = i + 1) := by omega
  have z3 : ¬ (G = i) := by omega
  have z8 : ¬ (n = i) := by omega
  have z4 : (0 : Int) ≤ (i : Int) + 1 := by omega
  have z5 : ((i : Int) + 1).toNat = i + 1 := by omega
  have z6 : IntKind.i64.wrap ((i : Int) + 1) = (i : Int) + 1 := by rw [IntKind.wrap_i64]; omega
  have z7 : (i : Int) ≤ (n : Int) + 1 := by omega
  have z9 : (i : Int) ≤ (n : Int) := by omega
  have hin : i ≤ n := by omega
  clear f1 l2 f2 l3 f3 t2 t3 hv1 hdl h6 hf hv s1 low b1 he1 he2 hel hvl
  go_enter Try.func62, Try.ntmps62
  go_wp2_with (first
    | (at_builtin; refine Lib.wpList_append_run _ rfl _ _ _ _ rfl _ _ rfl rfl _ _ (r1 _) ?_)
    | (at_builtin; refine wpList_copy_runI _ rfl _ _ 60 55 rfl _ _ rfl rfl (r2 _ _ _) ?_))
  go_region_law_o (refine step_copy_runI rfl _ _ 60 60 rfl _ _ (by simp [Act.eval, Act.put]) (by simp [Act.eval, Act.put]) (r3 _ _ _) ?_)
  go_wp2_with fail
  go_ret
  exact HE.out
theorem insert_any {W : World} {e : Nat} {ks : List ByteArray} {v : Value} (h : RowS W e ks v) (x : ByteArray) {i : Nat} (hi : i ≤ ks.length) (hn : ks.length < 1000000) {vb : Nat} (hv : Fresh W vb #[.string x] 9) (hne : vb ≠ e) :
    Calls Try.prog 62 #[v, .int .i64 i, .slice (some ⟨vb, 0, none⟩) 1 1] W fun e' w' => ∃ v' e2, e' = .returned v' ∧ (e2 = e ∨ W.heap.size ≤ e2) ∧ Turned [e] W w' ∧ RowS w' e2 (ks.take i ++ x :: ks.drop i) v' ∧ (v = .slice none 0 0 → Turned [] W w') ∧ ∃ cur, Fresh w' e2 cur 9 := by
  show Calls Try.prog _ _ W (Inserted W e (ks.take i ++ x :: ks.drop i) v)
  rcases Nat.lt_or_ge i ks.length with hlt | hge
  · rcases h.form with ⟨_, h2⟩ | ⟨cap, cur, rfl, hf, h3, h4, h5, h6⟩
    · rw [h2] at hlt; simp at hlt
    · rcases Nat.lt_or_ge ks.length cap with hr | hr
      · exact insert_room hf hr h4 h5 h6 x hlt hn hv hne
      · exact insert_grow hf (by omega) h6 x hlt hn hv
  · obtain rfl : i = ks.length := by omega
    rw [List.take_length, List.drop_length]
    exact insert_end h x hn hv
end Go.Proofs.Ytfffifmpfkkgbaa

/- slices.Delete of one key: what stands behind it moves down, the last place is emptied. -/
namespace Go.Proofs.Ytfffifmpfkkgbaa
open Go.RowKit
set_option maxRecDepth 1000000
set_option maxHeartbeats 4000000

theorem delete_any {W : World} {e : Nat} {ks : List ByteArray} {v : Value} (h : RowS W e ks v) {i : Nat} (hi : i < ks.length) :
    Calls Try.prog 64 #[v, .int .i64 i, .int .i64 ((i : Int) + 1)] W fun e' w' => ∃ v', e' = .returned v' ∧ Turned [e] W w' ∧ RowS w' e (ks.take i ++ ks.drop (i + 1)) v' ∧ ∃ cur, Fresh w' e cur 9 := by
  obtain ⟨cap, cur, rfl, hf, h3, h4, h5, h6⟩ : ∃ cap cur, v = .slice (some ⟨e, 0, none⟩) ks.length cap ∧ Fresh W e cur 9 ∧ ks.length ≤ cap ∧ cap ≤ 9223372036854775807 ∧ cur.size = cap ∧ ∀ (j : Nat) (k : ByteArray), ks[j]? = some k → cur[j]? = some (.string k) := by
    rcases h.form with ⟨_, h2⟩ | h2
    · rw [h2] at hi; simp at hi
    · exact h2
  obtain ⟨i0, hi0, hz0, hz1, hz2⟩ := infoS
  obtain ⟨n, hnn⟩ : ∃ n, ks.length = n := ⟨_, rfl⟩
  rw [hnn] at hi h3 ⊢
  have hdl : (ks.drop (i + 1)).length = n - (i + 1) := by rw [List.length_drop, hnn]
  obtain ⟨W1, hW1⟩ : ∃ W1, W1 = W.drew.setCells e i (strs (ks.drop (i + 1))) := ⟨_, rfl⟩
  obtain ⟨c1, f1, l1, t1⟩ := lay_cells (W := W.drew) hf.drew i (ks.drop (i + 1))
  rw [← hW1] at f1 t1
  obtain ⟨c2, f2, l2, t2⟩ := lay_cells f1 (i + (n - (i + 1))) [⟨#[]⟩]
  -- where the keys behind it stand
  obtain ⟨A, hA, hsrc⟩ : ∃ A : Addr, (if cap = i + 1 then some (⟨e, 0, none⟩ : Addr) else some ⟨e, i + 1, none⟩) = some A ∧ Hid (∀ (j : Nat) u, (strs (ks.drop (i + 1)))[j]? = some u → W.drew.cell? (A.add j) = some u) := by
    by_cases hc : cap = i + 1
    · refine ⟨_, if_pos hc, fun j u hu => ?_⟩
      have := (List.getElem?_eq_some_iff.1 hu).1
      rw [strs_len, hdl] at this
      omega
    · refine ⟨_, if_neg hc, fun j u hu => ?_⟩
      obtain ⟨k, hk, rfl⟩ := strs_at hu
      exact drop_cell hf.drew h6 (i + 1) j k hk
  have hclear : ∀ ty c, (Builtin.clear_ #[60] ty #[.slice (some ⟨e, i + (n - (i + 1)), none⟩) (n - (i + (n - (i + 1)))) c]).run Try.prog W1 = .ok (.tuple #[]) (W1.setCells e (i + (n - (i + 1))) (strs [⟨#[]⟩])) := fun ty c => by
    have h1 : n - (i + (n - (i + 1))) = 1 := by omega
    have := Lib.run_clear_slice W1 60 9 ty _ Try.underlying60 Try.zeroValue9 rfl rfl e (i + (n - (i + 1))) 1 c (by omega) (fun j hj => by rw [f1.cell, Array.getElem?_eq_getElem (by rw [l1.size, h5]; omega)]; rfl) (fun j _ => f1.thawed _)
    rw [h1]
    exact this
  have HE : Hid (∃ v', Ending.returned (.slice (some ⟨e, 0, none⟩) (i + (n - (i + 1))) cap) = .returned v' ∧ Turned [e] W (W1.setCells e (i + (n - (i + 1))) (strs [⟨#[]⟩])) ∧ RowS (W1.setCells e (i + (n - (i + 1))) (strs [⟨#[]⟩])) e (ks.take i ++ ks.drop (i + 1)) v' ∧ ∃ cur, Fresh (W1.setCells e (i + (n - (i + 1))) (strs [⟨#[]⟩])) e cur 9) := by
    refine ⟨_, rfl, ((Turned.refl _ _).drew.trans t1).trans t2, ⟨.inr ⟨cap, c2, by simp; omega, f2, by simp; omega, h4, by rw [l2.size, l1.size]; exact h5, fun j k hj => ?_⟩⟩, _, f2⟩
    have hjl := (List.getElem?_eq_some_iff.1 hj).1
    simp at hjl
    rw [l2.else_ j (.inl (by omega))]
    rcases Nat.lt_or_ge j i with hji | hji
    · rw [List.getElem?_append_left (by simp; omega), List.getElem?_take_of_lt hji] at hj
      rw [l1.else_ j (.inl hji)]
      exact h6 j k hj
    · rw [List.getElem?_append_right (by simp; omega), List.length_take, Nat.min_eq_left (by omega)] at hj
      have := l1.here (j - i) k hj (by rw [h5]; omega)
      rwa [show i + (j - i) = j from by omega] at this
  have s1 : Hid ((strs (ks.drop (i + 1))).length = (n - (i + 1)) * 1) := by show _ = _; rw [strs_len, hdl, Nat.mul_one]
  have s3 : Hid (∀ j, j < (strs (ks.drop (i + 1))).length → (W.drew.cell? ⟨e, 0 + i * 1 + j, none⟩).isSome = true ∧ W.drew.frozen? ⟨e, 0 + i * 1 + j, none⟩ = false) := fun j hj => by
    rw [strs_len, hdl] at hj
    exact ⟨by rw [hf.drew.cell, Array.getElem?_eq_getElem (by omega)]; rfl, hf.drew.thawed _⟩
  have hw : Hid (W1 = W.drew.setCells e (0 + i * 1) (strs (ks.drop (i + 1)))) := by show _ = _; rw [hW1, Nat.mul_one, Nat.zero_add]
  have mixed : Try.prog.follows .mixedOrders = true := by kernel_rfl
  have k1 : i ≤ cap := by omega
  have k2 : i + 1 ≤ cap := by omega
  have k3 : (0 : Int) ≤ (i : Int) + 1 := by omega
  have k4 : (i : Int) + 1 ≤ (n : Int) := by omega
  have k5 : ((i : Int) + 1).toNat = i + 1 := by omega
  clear f1 l1 t1 f2 l2 t2 hW1 hdl h h6 hf hnn
  go_enter Try.func64, Try.ntmps64
  go_wp2_with fail
  go_region_law_o (refine step_append_room rfl (.tmp 22) (.tmp 25) 60 rfl 9 i0 1 Try.underlying60 hi0 hz1 e 0 i cap (by simp [Act.eval, Act.put]) A (n - (i + 1)) (cap - (i + 1)) _ (by simp [Act.eval, Act.put]) s1.out hsrc.out (fun u hu => strs_small hu) (by omega) s3.out ?_; rw [← hw.out])
  go_wp2_with fail
  go_ret
  exact HE.out
end Go.Proofs.Ytfffifmpfkkgbaa

/- The map of values: what a look, a change and a removal make of it. -/
namespace Go.Proofs.Ytfffifmpfkkgbaa
open Go.RowKit Go.Maps
set_option maxRecDepth 100000

/-- A key and its value. -/
abbrev Pr := ByteArray × ByteArray
def Pr.e (t : Pr) : Value × Value := (.string t.1, .string t.2)
def MapIs (l : List Pr) (es : Array MapEntry) : Prop := es.toList.map (fun e => (e.key, e.val)) = l.map Pr.e
def Uniq (l : List Pr) : Prop := (l.map Prod.fst).Nodup
def getT (l : List Pr) (n : ByteArray) : Option Pr := l.find? (fun t => decide (t.1 = n))
def delT (l : List Pr) (n : ByteArray) : List Pr := l.filter (fun t => !decide (t.1 = n))
def getV (l : List Pr) (n : ByteArray) : Value := match getT l n with | some t => .tuple #[.string t.2, .bool true] | none => .tuple #[.string ⟨#[]⟩, .bool false]
theorem MapIs.at {l : List Pr} {es : Array MapEntry} (h : MapIs l es) {j : Nat} {e : MapEntry} (he : es.toList[j]? = some e) : ∃ t, l[j]? = some t ∧ e.key = (.string t.1) ∧ e.val = (.string t.2) := by
  have h1 : (es.toList.map (fun e => (e.key, e.val)))[j]? = some (e.key, e.val) := by rw [List.getElem?_map, he]; rfl
  rw [show es.toList.map (fun e => (e.key, e.val)) = l.map Pr.e from h, List.getElem?_map] at h1
  obtain ⟨t, ht, h2⟩ := Option.map_eq_some_iff.1 h1
  simp only [Pr.e, Prod.mk.injEq] at h2
  exact ⟨t, ht, h2.1.symm, h2.2.symm⟩
theorem MapIs.keys {l : List Pr} {es : Array MapEntry} (h : MapIs l es) : ∀ x ∈ es.toList, MapKept.IsKey .string x.key := by
  intro x hx
  obtain ⟨j, hj⟩ := List.getElem?_of_mem hx
  obtain ⟨t, _, hk, _⟩ := h.at hj
  rw [hk]; trivial
theorem MapIs.size {l : List Pr} {es : Array MapEntry} (h : MapIs l es) : es.size = l.length := by
  have := congrArg List.length (show es.toList.map (fun e => (e.key, e.val)) = l.map Pr.e from h)
  simpa using this

theorem map_erase {α β : Type} (f : α → β) : ∀ (l : List α) (j : Nat), (l.eraseIdx j).map f = (l.map f).eraseIdx j
  | [], _ => rfl
  | _ :: _, 0 => rfl
  | x :: l, j + 1 => by simp [map_erase f l j]
theorem find_at : ∀ (l : List Pr) (n : ByteArray) (j : Nat) (t : Pr), Uniq l → l[j]? = some t → t.1 = n → getT l n = some t ∧ l.eraseIdx j = delT l n
  | [], _, _, _, _, h, _ => by simp at h
  | x :: l, n, 0, t, hu, h, hn => by
    simp at h
    subst h
    subst hn
    refine ⟨by simp [getT], ?_⟩
    have hnot : ∀ y ∈ l, y.1 ≠ x.1 := by
      intro y hy e
      have := (List.nodup_cons.1 (show (x.1 :: l.map Prod.fst).Nodup from hu)).1
      exact this (by rw [← e]; exact List.mem_map_of_mem hy)
    rw [List.eraseIdx_cons_zero]
    unfold delT
    rw [List.filter_cons_of_neg (by simp)]
    exact (List.filter_eq_self.2 (fun y hy => by simpa using hnot y hy)).symm
  | x :: l, n, j + 1, t, hu, h, hn => by
    have hu' := List.nodup_cons.1 (show (x.1 :: l.map Prod.fst).Nodup from hu)
    have h' : l[j]? = some t := by simpa using h
    obtain ⟨a, b⟩ := find_at l n j t hu'.2 h' hn
    have hx : x.1 ≠ n := by
      intro e
      refine hu'.1 ?_
      rw [e, ← hn]
      exact List.mem_map_of_mem (List.mem_of_getElem? h')
    refine ⟨?_, ?_⟩
    · unfold getT at a ⊢
      rw [List.find?_cons_of_neg (by simpa using hx)]
      exact a
    · rw [List.eraseIdx_cons_succ, b]
      unfold delT
      rw [List.filter_cons_of_pos (by simpa using hx)]

theorem find_map {l : List Pr} {es : Array MapEntry} (h : MapIs l es) (hu : Uniq l) (n : ByteArray) :
    (getT l n = none ∧ delT l n = l ∧ Instr.findNow .string (.string n) es.toList 0 = some none) ∨
    ∃ t j, getT l n = some t ∧ t.1 = n ∧ l.eraseIdx j = delT l n ∧ Instr.findNow .string (.string n) es.toList 0 = some (some (j, (.string t.2))) := by
  rcases MapKept.findNow_spec (d := .string) (k := .string n) trivial es.toList 0 h.keys with ⟨h1, h2⟩ | ⟨j, e, h1, h2, h3⟩
  · left
    have hno : ∀ t ∈ l, t.1 ≠ n := by
      intro t ht e
      obtain ⟨j, hj⟩ := List.getElem?_of_mem ht
      have hlt : j < es.toList.length := by
        have := (List.getElem?_eq_some_iff.1 hj).1
        have hs := h.size
        simpa [hs] using this
      obtain ⟨t', ht', hk, _⟩ := h.at (j := j) (e := es.toList[j]) (by simp)
      rw [hj] at ht'
      cases ht'
      exact h2 es.toList[j] (List.getElem_mem hlt) (by rw [hk, e])
    refine ⟨?_, ?_, h1⟩
    · unfold getT
      rw [List.find?_eq_none]
      intro t ht
      simpa using hno t ht
    · unfold delT
      exact List.filter_eq_self.2 (fun t ht => by simpa using hno t ht)
  · right
    obtain ⟨t, ht, hk, hv⟩ := h.at h2
    rw [h3] at hk
    have hn : t.1 = n := by
      simp only [Value.string.injEq] at hk
      exact hk.symm
    obtain ⟨a, b⟩ := find_at l n j t hu ht hn
    exact ⟨t, j, a, hn, b, by rw [h1, hv, Nat.zero_add]⟩

theorem find_at' {l : List Pr} {es : Array MapEntry} (h : MapIs l es) (hu : Uniq l) (n : ByteArray) {j : Nat} {v : Value} (hf : Instr.findNow .string (.string n) es.toList 0 = some (some (j, v))) : ∃ t, l[j]? = some t ∧ t.1 = n := by
  rcases MapKept.findNow_spec (d := .string) (k := .string n) trivial es.toList 0 h.keys with ⟨h1, h2⟩ | ⟨j', e, h1, h2, h3⟩
  · rw [h1] at hf; cases hf
  · rw [h1] at hf
    obtain ⟨t, ht, hk, hv⟩ := h.at h2
    rw [h3] at hk
    have hn : t.1 = n := by
      simp only [Value.string.injEq] at hk
      exact hk.symm
    have : j = j' := by simp at hf; omega
    subst this
    exact ⟨t, ht, hn⟩
theorem mem_del' {l : List Pr} {x : ByteArray} {z w : Pr} : (z = w ∨ z ∈ delT l x) ↔ (z = w ∨ (z ∈ l ∧ z.1 ≠ x)) := by
  unfold delT
  rw [List.mem_filter]
  simp
theorem mem_set_erase : ∀ {l : List Pr} {j : Nat} {t w z : Pr}, l[j]? = some t → (z ∈ l.set j w ↔ z = w ∨ z ∈ l.eraseIdx j)
  | [], _, _, _, _, h => by simp at h
  | a :: l, 0, _, _, _, _ => by simp
  | a :: l, j + 1, t, w, z, h => by
    have := mem_set_erase (w := w) (z := z) (l := l) (j := j) (by simpa using h)
    rw [List.set_cons_succ, List.eraseIdx_cons_succ, List.mem_cons, List.mem_cons, this]
    constructor
    · rintro (h | h | h)
      · exact .inr (.inl h)
      · exact .inl h
      · exact .inr (.inr h)
    · rintro (h | h | h)
      · exact .inr (.inl h)
      · exact .inl h
      · exact .inr (.inr h)

/-- The object of a block that is a map, changed. -/
def setObj (W : World) (m : Nat) (o : Obj) : World := { heap := W.heap.setIfInBounds m o, tape := W.tape, drawn := W.drawn, os := W.os, output := W.output }

section
variable {l : List Pr} {es : Array MapEntry} {c m : Nat} {W : World}
theorem run_look (h : MapIs l es) (hu : Uniq l) (hb : W.heap[m]? = some (.map es c)) (n : ByteArray) :
    (Instr.lookup 59 (.map (some m)) (.string n) true).run Try.prog W = .ok (getV l n) W := by
  have hk : Try.prog.underlying 9 = some .string := Try.underlying9
  have hc : (Instr.checkKey es.isEmpty 10000 9 (.string n)).run Try.prog W = .ok () W := MapKept.run_checkKey hk (show MapKept.IsKey .string (.string n) from trivial) _ 9999
  rcases find_map h hu n with ⟨h1, _, h2⟩ | ⟨t, j, h1, _, _, h2⟩
  · have hz : (zeroValue 9).run Try.prog W = .ok ((.string ⟨#[]⟩)) W := by kernel_rfl
    unfold getV
    rw [h1]
    simp [Instr.lookup, run_underlying Try.underlying59, MapKept.run_getObj_map hb, hc, MapKept.run_findKey hk h2, Result.andThen, hz]
  · unfold getV
    rw [h1]
    simp [Instr.lookup, run_underlying Try.underlying59, MapKept.run_getObj_map hb, hc, MapKept.run_findKey hk h2, Result.andThen]

theorem run_del (h : MapIs l es) (hu : Uniq l) (hb : W.heap[m]? = some (.map es c)) (n : ByteArray) :
    ∃ es', MapIs (delT l n) es' ∧ ∀ ty : TypeId, (Builtin.delete_ #[59, 9] ty #[.map (some m), .string n]).run Try.prog W = .ok (.tuple #[]) (setObj W m (.map es' c)) := by
  have hk : Try.prog.underlying 9 = some .string := Try.underlying9
  have hc : (Instr.checkKey es.isEmpty 10000 9 (.string n)).run Try.prog W = .ok () W := MapKept.run_checkKey hk (show MapKept.IsKey .string (.string n) from trivial) _ 9999
  rcases find_map h hu n with ⟨_, h1, h2⟩ | ⟨t, j, _, _, h1, h2⟩
  · refine ⟨es, by rw [h1]; exact h, fun ty => ?_⟩
    simp [Builtin.delete_, run_underlying Try.underlying59, MapKept.run_getObj_map hb, hc, MapKept.run_findKey hk h2, MapKept.run_setObj_map _ hb, Result.andThen, setObj]
  · refine ⟨es.eraseIdxIfInBounds j, ?_, ?_⟩
    · unfold MapIs at h ⊢
      rw [Array.toList_eraseIdxIfInBounds, ← h1, map_erase, map_erase, h]
    · intro ty
      simp [Builtin.delete_, run_underlying Try.underlying59, MapKept.run_getObj_map hb, hc, MapKept.run_findKey hk h2, MapKept.run_setObj_map _ hb, Result.andThen, setObj]

theorem run_put (h : MapIs l es) (hu : Uniq l) (hb : W.heap[m]? = some (.map es c)) (n k : ByteArray) (hn : getT l n = none) :
    ∃ es', MapIs (l ++ [(n, k)]) es' ∧ (Instr.mapUpdate 59 (.map (some m)) (.string n) (.string k)).run Try.prog W = .ok () (setObj W m (.map es' (c + 1))) := by
  have hk : Try.prog.underlying 9 = some .string := Try.underlying9
  have hc : (Instr.checkKey false 10000 9 (.string n)).run Try.prog W = .ok () W := MapKept.run_checkKey hk (show MapKept.IsKey .string (.string n) from trivial) _ 9999
  rcases find_map h hu n with ⟨_, _, h2⟩ | ⟨t, j, h1, _, _, _⟩
  · refine ⟨es.push { key := .string n, val := .string k, born := c }, ?_, ?_⟩
    · unfold MapIs at h ⊢
      rw [Array.toList_push, List.map_append, List.map_append, h]
      rfl
    · simp [Instr.mapUpdate, run_underlying Try.underlying59, MapKept.run_getObj_map hb, hc, MapKept.run_findKey hk h2, MapKept.run_setObj_map _ hb, Result.andThen, setObj]
  · rw [hn] at h1; cases h1

theorem run_upd (h : MapIs l es) (hu : Uniq l) (hb : W.heap[m]? = some (.map es c)) (n k : ByteArray) {t : Pr} (hn : getT l n = some t) :
    ∃ es' l', MapIs l' es' ∧ l'.map Prod.fst = l.map Prod.fst ∧ (∀ z, z ∈ l' ↔ z = (n, k) ∨ (z ∈ l ∧ z.1 ≠ n)) ∧ (Instr.mapUpdate 59 (.map (some m)) (.string n) (.string k)).run Try.prog W = .ok () (setObj W m (.map es' c)) := by
  have hk : Try.prog.underlying 9 = some .string := Try.underlying9
  have hc : (Instr.checkKey false 10000 9 (.string n)).run Try.prog W = .ok () W := MapKept.run_checkKey hk (show MapKept.IsKey .string (.string n) from trivial) _ 9999
  rcases find_map h hu n with ⟨h1, _, _⟩ | ⟨t0, j, h1, hj1, hj2, h2⟩
  · rw [hn] at h1; cases h1
  · obtain ⟨t, hj, ht⟩ := find_at' h hu n h2
    have hs := h.size
    have hjl : j < es.size := by rw [hs]; exact (List.getElem?_eq_some_iff.1 hj).1
    obtain ⟨e0, he0⟩ : ∃ e0, es[j]? = some e0 := ⟨_, Array.getElem?_eq_getElem hjl⟩
    obtain ⟨t', ht', hk', _⟩ := h.at (j := j) (e := e0) (by rw [Array.getElem?_toList]; exact he0)
    rw [hj] at ht'
    cases ht'
    refine ⟨es.setIfInBounds j { e0 with val := .string k }, l.set j (n, k), ?_, ?_, ?_, ?_⟩
    · unfold MapIs at h ⊢
      rw [Array.toList_setIfInBounds, List.map_set, List.map_set, h]
      simp [Pr.e, hk', ht]
    · rw [List.map_set]
      apply List.ext_getElem?
      intro i
      by_cases hi : i = j
      · subst hi
        rw [List.getElem?_set_self (by rw [List.length_map]; exact (List.getElem?_eq_some_iff.1 hj).1), List.getElem?_map, hj]
        simp [ht]
      · rw [List.getElem?_set_ne (fun e => hi e.symm)]
    · intro z
      rw [← mem_del', ← hj2, mem_set_erase hj]
    · have e0k : e0.key = .string n := by rw [hk', ht]
      have hmod : (es.modify j fun e => { key := .string n, val := .string k, born := e.born }) = es.setIfInBounds j { e0 with val := .string k } := by
        apply Array.ext_getElem?
        intro i
        rw [Array.getElem?_modify, Array.getElem?_setIfInBounds]
        by_cases hi : j = i
        · subst hi
          rw [if_pos rfl, if_pos rfl, if_pos hjl, he0]
          simp [e0k]
        · rw [if_neg hi, if_neg hi]
      rw [← hmod]
      have hst := MapKept.run_keyThatStays (P := Try.prog) (w := W) (d := .string) (k := .string n) trivial
      simp [Instr.mapUpdate, run_underlying Try.underlying59, MapKept.run_getObj_map hb, hc, MapKept.run_findKey hk h2, MapKept.run_setObj_map _ hb, Result.andThen, setObj, he0, e0k, hst]

theorem run_mlen (h : MapIs l es) (hb : W.heap[m]? = some (.map es c)) (ty : TypeId) :
    (Builtin.len_ #[59] ty #[.map (some m)]).run Try.prog W = .ok (.int .i64 (l.length : Int)) W := by
  simp [Builtin.len_, run_underlying Try.underlying59, MapKept.run_getObj_map hb, Result.andThen, goInt, h.size]
end


theorem Fresh.setObj {W : World} {p m : Nat} {cs : Array Value} {t : TypeId} (h : Fresh W p cs t) (hn : p ≠ m) (o : Obj) : Fresh (setObj W m o) p cs t := by
  unfold Fresh Go.Proofs.Ytfffifmpfkkgbaa.setObj at *
  show (W.heap.setIfInBounds m o)[p]? = _
  rw [Array.getElem?_setIfInBounds, if_neg (fun e => hn e.symm)]
  exact h
theorem Turned.setObj {S : List Nat} {W W' : World} (h : Turned S W W') {m : Nat} (hm : m ∈ S) (o : Obj) : Turned S W (setObj W' m o) := by
  refine ⟨h.os, h.tape, h.output, by show _ ≤ (W'.heap.setIfInBounds m o).size; rw [Array.size_setIfInBounds]; exact h.size, fun k hk hn => ?_⟩
  show (W'.heap.setIfInBounds m o)[k]? = _
  rw [Array.getElem?_setIfInBounds, if_neg (by rintro rfl; exact hn hm)]
  exact h.block k hk hn
theorem setObj_at {W : World} {m : Nat} (h : m < W.heap.size) (o : Obj) : (setObj W m o).heap[m]? = some o := by
  show (W.heap.setIfInBounds m o)[m]? = _
  rw [Array.getElem?_setIfInBounds, if_pos rfl, if_pos h]

end Go.Proofs.Ytfffifmpfkkgbaa
