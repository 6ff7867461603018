/- The reference model of an art: its order, the place of a key, what it tells. -/
import Derived.Test.YtfffifmpfkkgbaaSameP
import Derived.Laws.OwnMore
import Derived.Maps.AppendAt
import Derived.Test.YtfffifmpfkkgbaaGRw
import Derived.Laws.Cover1
namespace Go.Proofs.Ytfffifmpfkkgbaa
open Go.RowKit Go.Shelf
set_option maxRecDepth 1000000
set_option maxHeartbeats 4000000

theorem below_drewN {w W : World} (h : Below w.heap.size w W) (q : Nat) : Below w.heap.size w (W.drewN q) := ⟨h.os, h.tape, h.output, h.size, h.block⟩
theorem less_same : ∀ (p x y : List UInt8), Op.bytesLess (p ++ x) (p ++ y) = Op.bytesLess x y
  | [], _, _ => rfl
  | a :: p, x, y => by simp [Op.bytesLess, less_same p x y]
theorem take_one (s : ByteArray) (k : Nat) (h : k < s.size) : s.data.toList.take (k + 1) = s.data.toList.take k ++ [s[k]] := by
  rw [List.take_succ_eq_append_getElem (by rw [length_list]; exact h)]; rfl
/-- Where two lists agree in their first k places, only what follows counts. -/
theorem less_drop (k : Nat) : ∀ (a b : List UInt8), a.take k = b.take k → k ≤ a.length → k ≤ b.length → Op.bytesLess a b = Op.bytesLess (a.drop k) (b.drop k) := by
  intro a b h _ _
  conv => lhs; rw [← List.take_append_drop k a, ← List.take_append_drop k b, h]
  exact less_same _ _ _

theorem get_iff {l : List Pr} (h : SrtP l) {z y : ByteArray} : getT l z = some (z, y) ↔ (z, y) ∈ l := by
  constructor
  · intro hg; exact (get_mem hg).1
  · exact get_of_mem (srt_uniq h)
theorem cell_lt {W : World} {p : Addr} {v : Value} (h : W.cell? p = some v) : p.block < W.heap.size := by
  rcases Nat.lt_or_ge p.block W.heap.size with h1 | h1
  · exact h1
  · simp [World.cell?, Array.getElem?_eq_none h1] at h
theorem rless_any (a b : ByteArray) (w : World) (ha : a.size ≤ 1000000) :
    Calls Try.prog 63 #[.string a, .string b] w fun e w' => e = .returned (.bool (Op.bytesLess a.toList b.toList)) ∧ Below w.heap.size w w' := by
  go_enter Try.func63, Try.ntmps63
  go_wp2
  go_loopw [5] (fun i wr => ∃ k : Nat, k ≤ a.size ∧ k ≤ b.size ∧ i = .int .i64 k ∧ a.data.toList.take k = b.data.toList.take k ∧ Below w.heap.size w wr) (fun i _ => a.size - (intOf i).toNat)
  case atStart => exact ⟨0, Nat.zero_le _, Nat.zero_le _, rfl, rfl, Below.refl _ _⟩
  case round =>
    obtain ⟨k, hk1, hk2, rfl, hk3, hB⟩ := hrel
    have hd : Op.bytesLess a.toList b.toList = Op.bytesLess (a.data.toList.drop k) (b.data.toList.drop k) := by
      rw [ByteArray.toList_eq, ByteArray.toList_eq]
      exact less_drop k _ _ hk3 (by rw [length_list]; exact hk1) (by rw [length_list]; exact hk2)
    by_cases hA : k < a.size
    · have kA : (k : Int) < (a.size : Int) := by omega
      by_cases hBs : k < b.size
      · have kB : (k : Int) < (b.size : Int) := by omega
        have ea : a.data.toList.drop k = a[k] :: a.data.toList.drop (k + 1) := by rw [List.drop_eq_getElem_cons (by rw [length_list]; exact hA)]; rfl
        have eb : b.data.toList.drop k = b[k] :: b.data.toList.drop (k + 1) := by rw [List.drop_eq_getElem_cons (by rw [length_list]; exact hBs)]; rfl
        by_cases he : a[k] = b[k]
        · have q1 : (((a[k]'hA).toNat : Int) == ((b[k]'hBs).toNat : Int)) = true := by rw [he]; simp
          have ht : a.data.toList.take (k + 1) = b.data.toList.take (k + 1) := by rw [take_one a k hA, take_one b k hBs, hk3, he]
          have HB := Lib.hid hB
          clear hB hd hk3 ea eb he
          go_wp2
          go_quiet (fail)
          go_wp2
          go_roundw
          case rel => exact ⟨k + 1, by omega, by omega, by go_num, ht, below_drewN HB.out _⟩
          case measure => simp [intOf] <;> omega
        · have q1 : (((a[k]'hA).toNat : Int) == ((b[k]'hBs).toNat : Int)) = false := by
            rw [beq_eq_false_iff_ne]; intro e; exact he (UInt8.toNat.inj (by show (a[k]'hA).toNat = (b[k]'hBs).toNat; omega))
          have hv : Op.bytesLess a.toList b.toList = decide (((a[k]'hA).toNat : Int) < ((b[k]'hBs).toNat : Int)) := by
            have e1 : (a[k] == b[k]) = false := by rw [beq_eq_false_iff_ne]; exact he
            rw [hd, ea, eb]
            simp [Op.bytesLess, e1, UInt8.lt_iff_toNat_lt]
          have HB := Lib.hid hB
          have HV := Lib.hid hv
          clear hB hd hk3 ea eb he hv
          go_wp2
          go_quiet (fail)
          go_wp2
          go_quiet (fail)
          go_wp2
          refine bodyPost_ret (v := .bool (Op.bytesLess a.toList b.toList)) (by rw [HV.out]; simp [results, Try.results63, go_sem]) rfl ?_
          exact ⟨rfl, below_drewN (below_drewN HB.out _) _⟩
      · have kB : (b.size : Int) ≤ (k : Int) := by omega
        have hv : Op.bytesLess a.toList b.toList = decide ((a.size : Int) < (b.size : Int)) := by
          have eb : b.data.toList.drop k = [] := List.drop_of_length_le (by rw [length_list]; omega)
          rw [hd, eb]
          have : ¬ (a.size : Int) < (b.size : Int) := by omega
          simp only [this, decide_false]
          cases a.data.toList.drop k <;> rfl
        have HB := Lib.hid hB
        have HV := Lib.hid hv
        clear hB hd hk3 hv
        go_wp2
        refine bodyPost_ret (v := .bool (Op.bytesLess a.toList b.toList)) (by rw [HV.out]; simp [results, Try.results63, go_sem]) rfl ?_
        exact ⟨rfl, HB.out⟩
    · have kA : (a.size : Int) ≤ (k : Int) := by omega
      have hv : Op.bytesLess a.toList b.toList = decide ((a.size : Int) < (b.size : Int)) := by
        have ea : a.data.toList.drop k = [] := List.drop_of_length_le (by rw [length_list]; omega)
        have lb : (b.data.toList.drop k).length = b.size - k := by simp
        rw [hd, ea]
        cases hl : b.data.toList.drop k with
        | nil =>
          rw [hl] at lb
          have : ¬ (a.size : Int) < (b.size : Int) := by simp at lb; omega
          simp only [this, decide_false]; rfl
        | cons c l =>
          rw [hl] at lb
          have : (a.size : Int) < (b.size : Int) := by simp at lb; omega
          simp only [this, decide_true]; rfl
      have HB := Lib.hid hB
      have HV := Lib.hid hv
      clear hB hd hk3 hv
      go_wp2
      refine bodyPost_ret (v := .bool (Op.bytesLess a.toList b.toList)) (by rw [HV.out]; simp [results, Try.results63, go_sem]) rfl ?_
      exact ⟨rfl, HB.out⟩

/-- A slice of pairs in a block of its own kind. -/
def Seg (W : World) (v : Value) (l : List Pr) : Prop := (v = .slice none 0 0 ∧ l = []) ∨ ∃ g o cap cur, v = .slice (some ⟨g, o, none⟩) l.length cap ∧ l.length ≤ cap ∧ cap ≤ maxLen ∧ Fresh W g cur 34 ∧ ∀ (j : Nat) u, (flatP l)[j]? = some u → cur[o + j]? = some u
theorem Seg.nil (W : World) : Seg W (.slice none 0 0) [] := .inl ⟨rfl, rfl⟩
theorem Seg.same {W W' : World} {v : Value} {l : List Pr} (h : Seg W v l) (hk : ∀ g, v.ownBlock = some g → W'.heap[g]? = W.heap[g]?) : Seg W' v l := by
  rcases h with h | ⟨g, o, cap, cur, rfl, h2, h3, h4, h5⟩
  · exact .inl h
  · exact .inr ⟨g, o, cap, cur, rfl, h2, h3, (hk g rfl).trans h4, h5⟩
theorem Seg.lt {W : World} {v : Value} {l : List Pr} (h : Seg W v l) {g : Nat} (hg : v.ownBlock = some g) : g < W.heap.size ∧ ∃ cur, Fresh W g cur 34 := by
  rcases h with ⟨rfl, _⟩ | ⟨g', o, cap, cur, rfl, h2, h3, h4, h5⟩
  · cases hg
  · cases hg
    exact ⟨h4.lt, cur, h4⟩
theorem Seg.below {W W' : World} {v : Value} {l : List Pr} (h : Seg W v l) (hb : Below W.heap.size W W') : Seg W' v l := h.same fun g hg => hb.block g (h.lt hg).1
theorem Seg.of_row {W : World} {B : Nat} {v : Value} {l : List Pr} (h : W.ownsRow B 34 2 v l.length (flatP l)) : Seg W v l := by
  rcases h.2 with ⟨h1, h2⟩ | ⟨g, cap, cur, h1, _, h3, h4, h5, h6, h7⟩
  · exact .inl ⟨h1, List.length_eq_zero_iff.1 h2⟩
  · refine .inr ⟨g, 0, cap, cur, h1, h4, h5, h3, fun j u hj => ?_⟩
    have hjl : j < l.length * 2 := by rw [← flatP_length]; exact (List.getElem?_eq_some_iff.1 hj).1
    rw [← h7, List.getElem?_take_of_lt hjl, Array.getElem?_toList] at hj
    rw [Nat.zero_add]
    exact hj
theorem Seg.form {W : World} {v : Value} {l : List Pr} (h : Seg W v l) : ∃ ao cap, v = .slice ao l.length cap ∧ l.length ≤ cap ∧ cap ≤ maxLen := by
  rcases h with ⟨rfl, rfl⟩ | ⟨g, o, cap, cur, rfl, h2, h3, _⟩
  · exact ⟨none, 0, rfl, Nat.le_refl _, Nat.zero_le _⟩
  · exact ⟨_, cap, rfl, h2, h3⟩
theorem Seg.holds {W : World} {v : Value} {l : List Pr} (h : Seg W v l) : Holds W v l := by
  rcases h with ⟨rfl, rfl⟩ | ⟨g, o, cap, cur, rfl, h2, h3, h4, h5⟩
  · exact ⟨none, 0, rfl, fun j x hj => by simp at hj⟩
  · refine ⟨_, cap, rfl, fun j x hj => ⟨g, o, rfl, h4.lt, ?_⟩⟩
    obtain ⟨a1, a2⟩ := flatP_at l j x hj
    exact ⟨by rw [h4.cell]; exact h5 _ _ a1, by rw [h4.cell, Nat.add_assoc]; exact h5 _ _ a2⟩
theorem flatP_drop (l : List Pr) (k : Nat) : flatP (l.drop k) = (flatP l).drop (k * 2) := by
  induction k generalizing l with
  | zero => simp
  | succ k ih =>
    cases l with
    | nil => simp [flatP]
    | cons x l =>
      rw [List.drop_succ_cons, ih]
      show _ = ([Value.string x.1, Value.string x.2] ++ flatP l).drop _
      rw [show (k + 1) * 2 = k * 2 + 2 from by omega]
      rfl
theorem flatP_take (l : List Pr) (k : Nat) : flatP (l.take k) = (flatP l).take (k * 2) := by
  induction k generalizing l with
  | zero => simp [flatP]
  | succ k ih =>
    cases l with
    | nil => simp [flatP]
    | cons x l =>
      rw [List.take_succ_cons]
      show [Value.string x.1, Value.string x.2] ++ flatP (l.take k) = ([Value.string x.1, Value.string x.2] ++ flatP l).take _
      rw [ih, show (k + 1) * 2 = k * 2 + 2 from by omega]
      rfl
theorem Seg.take {W : World} {a : Option Addr} {n cap : Nat} {l : List Pr} (h : Seg W (.slice a n cap) l) {k : Nat} (hk : k ≤ n) : Seg W (.slice a k cap) (l.take k) := by
  rcases h with ⟨h1, rfl⟩ | ⟨g, o, cap', cur, h1, h2, h3, h4, h5⟩
  · simp only [Value.slice.injEq] at h1
    obtain ⟨rfl, rfl, rfl⟩ := h1
    obtain rfl : k = 0 := by omega
    exact .inl ⟨rfl, rfl⟩
  · simp only [Value.slice.injEq] at h1
    obtain ⟨rfl, rfl, rfl⟩ := h1
    refine .inr ⟨g, o, cap, cur, by rw [List.length_take, Nat.min_eq_left hk], by rw [List.length_take]; omega, h3, h4, fun j u hj => h5 j u ?_⟩
    rw [flatP_take, List.getElem?_take] at hj
    split at hj
    · exact hj
    · cases hj
/-- The slice from a place on. -/
def fromAd (a : Option Addr) (cap k : Nat) : Option Addr := if cap = k then a else a.map (fun x => x.add (k * 2))
theorem Seg.drop {W : World} {a : Option Addr} {n cap : Nat} {l : List Pr} (h : Seg W (.slice a n cap) l) {k : Nat} (hk : k ≤ n) : Seg W (.slice (fromAd a cap k) (n - k) (cap - k)) (l.drop k) := by
  rcases h with ⟨h1, rfl⟩ | ⟨g, o, cap', cur, h1, h2, h3, h4, h5⟩
  · simp only [Value.slice.injEq] at h1
    obtain ⟨rfl, rfl, rfl⟩ := h1
    obtain rfl : k = 0 := by omega
    exact .inl ⟨rfl, rfl⟩
  · simp only [Value.slice.injEq] at h1
    obtain ⟨rfl, rfl, rfl⟩ := h1
    unfold fromAd
    by_cases hc : cap = k
    · rw [if_pos hc]
      have h0 : l.drop k = [] := List.drop_eq_nil_of_le (by omega)
      rw [h0]
      exact .inr ⟨g, o, cap - k, cur, by simp; omega, by simp, by omega, h4, fun j u hj => by simp [flatP] at hj⟩
    · rw [if_neg hc]
      refine .inr ⟨g, o + k * 2, cap - k, cur, by simp [Addr.add_lit], by simp; omega, by omega, h4, fun j u hj => ?_⟩
      rw [flatP_drop, List.getElem?_drop] at hj
      rw [Nat.add_assoc]
      exact h5 _ _ hj
/-- Pairs appended to a row of the call's own. -/
theorem app_seg {W : World} {B : Nat} {vx : Value} {l l2 : List Pr} (ho : W.ownsRow B 34 2 vx l.length (flatP l)) {v : Value} (hv : Seg W v l2) (hB : B ≤ W.heap.size) (hn : l.length + l2.length ≤ 100000) :
    ∃ v' W', (∀ ty, (Builtin.append_ #[26, 26] ty #[vx, v]).run Try.prog W = .ok v' W') ∧ W'.ownsRow B 34 2 v' (l ++ l2).length (flatP (l ++ l2)) ∧ W.grownBy W' vx.ownBlock := by
  obtain ⟨i0, hi0, hz0, hzs, hzb⟩ := infoP
  have hfl : flatP (l ++ l2) = flatP l ++ flatP l2 := by simp [flatP]
  rw [hfl, List.length_append]
  rcases hv with ⟨rfl, rfl⟩ | ⟨g, o, cap, cur, rfl, h2, h3, h4, h5⟩
  · exact ⟨vx, W, fun ty => run_append_owned_none W B 26 ty 34 i0 2 Try.underlying26 hi0 vx l.length (flatP l) ho, by simpa [flatP] using ho, ⟨rfl, rfl, rfl, Nat.le_refl _, fun _ _ _ => rfl⟩⟩
  · obtain ⟨v', w', h1, h2, h3, _, _⟩ := run_append_own_at (P := Try.prog) (w := W) B 26 0 34 i0 _ 2 32 Try.underlying26 hi0 hz0 hzs hzb rfl (by omega) vx l.length (flatP l) ho ⟨g, o, none⟩ l2.length cap (flatP l2) (flatP_length l2)
      (fun j u hj => by rw [Addr.add_lit, h4.cell]; exact h5 j u hj)
      (fun u hu => by
        unfold flatP at hu
        obtain ⟨t, _, ht⟩ := List.mem_flatMap.1 hu
        simp at ht
        rcases ht with rfl | rfl <;> rfl) (by unfold maxLen; omega) (by omega) hB
    exact ⟨v', w', fun ty => h1, h2, h3⟩

/-- The reference's value. -/
def rb (v : Value) : Value := .agg #[v]
theorem rbox (W : World) (v : Value) : ∃ W1, W1 = W.alloc (.cells #[v] 28) ∧ Below W.heap.size W W1 ∧ Fresh W1 W.heap.size #[v] 28 :=
  ⟨_, rfl, Below.new (Below.refl _ _) _, Fresh.new _ _ _ _ rfl⟩
theorem rat_any {W : World} {v : Value} {l : List Pr} (h : Seg W v l) (hs : SrtP l) (ht : TxtP l) (hn : l.length < 1000000) (x : ByteArray) :
    Calls Try.prog 47 #[rb v, .string x] W fun e' w' => e' = .returned (.int .i64 (atK x (keys l) : Nat)) ∧ Below W.heap.size W w' := by
  obtain ⟨W1, hW1, b1, f1⟩ := rbox W v
  obtain ⟨a, cap, rfl, hcap, _⟩ := h.form
  have HS := Lib.hid (h.below b1)
  have HH : Hid (∀ (j : Nat) (y : Pr), l[j]? = some y → ∃ b o, a = some ⟨b, o, none⟩ ∧ b < W1.heap.size ∧ W1.cell? ⟨b, o + j * 2, none⟩ = some (.string y.1) ∧ W1.cell? ⟨b, o + j * 2 + 1, none⟩ = some (.string y.2)) := by
    obtain ⟨a', c', e', h'⟩ := (h.below b1).holds
    cases e'
    exact h'
  obtain ⟨A, hA⟩ : ∃ A, atK x (keys l) = A := ⟨_, rfl⟩
  have HA1 : Hid (∀ (j : Nat) (k v : ByteArray), j < A → l[j]? = some (k, v) → kl k x = true) := fun j k v h1 h2 => atK_below (keys l) x k j (by rw [hA]; exact h1) (by simp [keys, h2])
  have HA2 : Hid (∀ (j : Nat) (k v : ByteArray), A ≤ j → l[j]? = some (k, v) → kl k x = false) := fun j k v h1 h2 => atK_above (keys l) x k j hs (by rw [hA]; exact h1) (by simp [keys, h2])
  have HAL : Hid (A ≤ l.length) := by show _ ≤ _; rw [← hA, ← keys_len]; exact atK_le _ _
  have HT := Lib.hid ht
  have HB := Lib.hid b1
  have HW1 := Lib.hid hW1
  have HF := Lib.hid f1
  have c0 := f1.cell 0
  simp only [List.getElem?_toArray, List.getElem?_cons_zero] at c0
  have HN := Lib.hid hn
  have hsz := f1.lt
  rw [hA]
  clear h hs ht hn b1 f1 hW1 hA
  unfold rb
  go_enter Try.func47, Try.ntmps47
  go_upto_region 1 with fail
  rw [← HW1.out]
  go_wp2_with fail
  go_loopw [5] (fun iv wr => ∃ i : Nat, i ≤ A ∧ iv = .int .i64 i ∧ Below W1.heap.size W1 wr) (fun iv _ => A - (intOf iv).toNat)
  case atStart => exact ⟨0, Nat.zero_le _, rfl, Below.refl _ _⟩
  case round =>
    obtain ⟨i, hi, rfl, hbw⟩ := hrel
    have hAl := HAL.out
    have n6 := HN.out
    replace c0 := (hbw.cell (p := ⟨W.heap.size, 0, none⟩) hsz).trans c0
    by_cases hlt : i < l.length
    · obtain ⟨⟨kx, vx⟩, hx⟩ : ∃ t, l[i]? = some t := ⟨_, List.getElem?_eq_getElem hlt⟩
      obtain ⟨b, o, rfl, hb, k1, _⟩ := HH.out i _ hx
      replace k1 := (hbw.cell (p := ⟨b, o + i * 2, none⟩) hb).trans k1
      dsimp only at k1
      have hks := CodeP.size (HT.out _ (List.mem_of_getElem? hx)).1
      dsimp only at hks
      have jl : (i : Int) < (l.length : Int) := by omega
      have j0 : (0 : Int) ≤ (i : Int) := by omega
      have j6 : (i : Int) < 1000000 := by omega
      have J6 := Lib.hid j6
      have jd : decide (i < l.length) = true := decide_eq_true hlt
      have HX := Lib.hid (And.intro hx (And.intro hbw hb))
      have HL : Hid (∀ W', Calls Try.prog 63 #[.string kx, .string x] W' fun e w' => e = .returned (.bool (kl kx x)) ∧ Below W'.heap.size W' w') := fun W' => by
        have h := rless_any kx x W' (by omega)
        rw [kl_eq] at h
        exact h
      clear hx hbw hb n6 j6 hks
      rcases Nat.lt_or_ge i A with hiA | hiA
      · have hkx := HA1.out i kx vx hiA HX.out.1
        rw [hkx] at HL
        clear hkx hi
        go_wp2_with (go_at_call 63; with_reducible refine (HL.out _).mono ?_; rintro e4 w4 ⟨rfl, hb4⟩; have H4 := Lib.hid hb4; clear hb4)
        go_roundw
        case rel => exact ⟨i + 1, by omega, by rw [IntWalk.wrap64_in _ (by have := J6.out; omega)]; simp, Below.step HX.out.2.1 H4.out⟩
        case measure => rw [IntWalk.wrap64_in _ (by have := J6.out; omega)]; simp [intOf]; omega
      · have hkx := HA2.out i kx vx hiA HX.out.1
        rw [hkx] at HL
        obtain rfl : i = A := by omega
        clear hkx hi
        go_wp2_with (go_at_call 63; with_reducible refine (HL.out _).mono ?_; rintro e4 w4 ⟨rfl, hb4⟩; have H4 := Lib.hid hb4; clear hb4)
        go_ret
        exact ⟨rfl, Below.step HB.out (Below.step HX.out.2.1 H4.out)⟩
    · obtain rfl : i = A := by omega
      have jl : ¬ (i : Int) < (l.length : Int) := by omega
      have jd : decide (i < l.length) = false := decide_eq_false hlt
      have HBW := Lib.hid (Below.step HB.out hbw)
      clear hbw hi n6
      go_wp2_with fail
      go_ret
      exact ⟨rfl, HBW.out⟩
end Go.Proofs.Ytfffifmpfkkgbaa
