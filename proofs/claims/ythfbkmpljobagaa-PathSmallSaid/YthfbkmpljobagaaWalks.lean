/- The walks of the path layer: what each function of the package path, and of its reference, returns. -/
import Derived.Test.YthfbkmpljobagaaKit
namespace Go.Proofs.Ythfbkmpljobagaa
open Go.RowKit
set_option maxRecDepth 100000
set_option maxHeartbeats 400000

theorem agrees1_any (s t : ByteArray) (w : World) (b : Nat) (hs : s.size ≤ maxLen) (ht : t.size ≤ maxLen) (hc : w.cell? ⟨b, 0, none⟩ = some (.string s)) :
    Calls Try.prog 32 #[.string t, .pointer (some ⟨b, 0, none⟩)] w fun e w' => e = .returned (.int .i64 (lcp s.data.toList t.data.toList)) ∧ Below w.heap.size w w' := by
  unfold maxLen at hs ht
  go_enter Try.func32, Try.ntmps32
  go_wp2
  all_goals
    go_loopw [12] (fun i wr => ∃ k : Nat, k ≤ s.size ∧ k ≤ t.size ∧ i = .int .i64 k ∧ Below w.heap.size w wr ∧ (∀ p, wr.cell? p = w.cell? p) ∧ Hid (∀ j, j < k → s.data.toList[j]? = t.data.toList[j]?)) (fun i _ => s.size + t.size - (intOf i).toNat)
    case atStart => exact ⟨0, Nat.zero_le _, Nat.zero_le _, rfl, Below.refl _ _, fun _ => rfl, fun j hj => by omega⟩
    case round =>
      obtain ⟨k, hk1, hk2, rfl, hB, hcell, HE⟩ := hrel
      have hcr : wr.cell? ⟨b, 0, none⟩ = some (.string s) := by rw [hcell]; exact hc
      have HC : Hid (∀ p, wr.cell? p = w.cell? p) := hcell
      clear hc hcell
      by_cases hm : k < s.size ∧ k < t.size
      · obtain ⟨h1, h2⟩ := hm
        go_wp2
        go_region
        all_goals go_wp2
        · have hne := byte_ne h1 h2 (by assumption)
          go_ret
          exact ⟨ret_int (by rw [lcp_eq_of _ _ k (by simpa using hk1) (by simpa using hk2) HE.out (fun _ _ => hne)]), hB.drew⟩
        · have heq := byte_eq h1 h2 (by assumption)
          go_roundw
          case rel => exact ⟨k + 1, by omega, by omega, by go_num, hB.drew, fun p => by simp [HC.out], upto_succ HE.out heq⟩
          case measure => simp [intOf]; omega
      · have H : Hid (lcp s.data.toList t.data.toList = k) := lcp_eq_of _ _ _ (by simpa using hk1) (by simpa using hk2) HE.out (fun a b => absurd (And.intro (by simpa using a) (by simpa using b)) hm)
        go_wp2
        go_ret
        exact ⟨ret_int (by rw [H.out]; omega), hB⟩

theorem of_any (s : ByteArray) (w : World) :
    Calls Try.prog 27 #[.string s] w fun e w' => e = .returned (.agg #[.string s]) ∧ Below w.heap.size w w' := by
  go_enter Try.func27, Try.ntmps27
  go_wp2
  exact bodyPost_ret (v := .agg #[.string s]) (by simp [results, Try.results27, go_sem]) rfl ⟨rfl, (Below.refl _ _).alloc (Nat.le_refl _) _⟩

theorem agrees_any (s : ByteArray) (w : World) :
    Calls Try.prog 28 #[.string s] w fun e w' => ∃ b, e = .returned (.func (.func 32) #[] #[.pointer (some ⟨b, 0, none⟩)]) ∧ w.heap.size ≤ b ∧ b < w'.heap.size ∧ w'.cell? ⟨b, 0, none⟩ = some (.string s) ∧ Below w.heap.size w w' := by
  go_enter Try.func28, Try.ntmps28
  have hmf := @makeFunc_run Try.prog
  go_wp2
  go_ret
  exact ⟨w.heap.size, rfl, Nat.le_refl _, by simp, by simp [go_sem], (Below.refl _ _).alloc (Nat.le_refl _) _⟩

theorem has_any (s : ByteArray) (n : Int) (w : World) (hs : s.size ≤ maxLen) :
    Calls Try.prog 29 #[.string s, .int .i64 n] w fun e w' => e = .returned (.bool (decide (0 ≤ n ∧ n < s.size))) ∧ w' = w := by
  unfold maxLen at hs
  by_cases h : 0 ≤ n
  all_goals
    go_enter Try.func29, Try.ntmps29
    go_wp2
    go_ret
    exact ⟨ret_bool (by first | (simp [h]; done) | (simp; omega)), rfl⟩

theorem upTo_any (s : ByteArray) (n : Int) (w : World) (hs : s.size ≤ maxLen) (h0 : 0 ≤ n) (h : n ≤ s.size) :
    Calls Try.prog 30 #[.string s, .int .i64 n] w fun e w' => e = .returned (.string (s.extract 0 n.toNat)) ∧ w' = w := by
  unfold maxLen at hs
  go_enter Try.func30, Try.ntmps30
  go_wp2
  go_ret
  exact ⟨rfl, rfl⟩

theorem from_any (s : ByteArray) (n : Int) (w : World) (hs : s.size ≤ maxLen) (h0 : 0 ≤ n) (h : n ≤ s.size) :
    Calls Try.prog 31 #[.string s, .int .i64 n] w fun e w' => e = .returned (.string (s.extract n.toNat s.size)) ∧ w' = w := by
  unfold maxLen at hs
  go_enter Try.func31, Try.ntmps31
  go_wp2
  go_ret
  exact ⟨rfl, rfl⟩

theorem join_any (s t : ByteArray) (c : UInt8) (w : World) (hs : s.size ≤ 1000000) (h : t.size ≤ 1000000) :
    Calls Try.prog 19 #[.string s, .int .u8 c.toNat, .string t] w fun e w' => e = .returned (.string (s ++ one c ++ t)) ∧ Below w.heap.size w w' := by
  have hcv := fun (w : World) => run_convert_one (P := Try.prog) w 48 9 5 c Try.underlying48 Try.underlying5 Try.underlying9
  have h1 := one_size c
  go_enter Try.func19, Try.ntmps19
  go_wp2
  go_ret
  exact ⟨rfl, (Below.refl _ _).alloc (Nat.le_refl _) _⟩

/-- What 'All' finds: of the first string's bytes, how many all others begin with. -/
def lcpAll (a : ByteArray) (r : List ByteArray) : Nat := r.foldl (fun n s => min n (lcp a.data.toList s.data.toList)) a.size

theorem lcpAll_succ (a : ByteArray) (r : List ByteArray) (k : Nat) (hk : k < r.length) : lcpAll a (r.take (k + 1)) = min (lcpAll a (r.take k)) (lcp a.data.toList (r.getD k ByteArray.empty).data.toList) := by
  unfold lcpAll
  rw [List.take_succ_eq_append_getElem hk, List.foldl_append, List.getD_eq_getElem?_getD, List.getElem?_eq_getElem hk]
  rfl

theorem field0 (x : ByteArray) (w : World) : (Instr.field 43 (.agg #[.string x]) 0).run Try.prog w = .ok (.string x) w := by kernel_rfl

theorem all_any (a : ByteArray) (r : List ByteArray) (b off cap : Nat) (w : World) (hb : b < w.heap.size) (hz : ∀ x ∈ a :: r, x.size ≤ maxLen) (hl : r.length + 1 ≤ maxLen) (hcap : r.length + 1 ≤ cap)
    (hc : ∀ i, i < r.length + 1 → w.cell? ⟨b, off + i, none⟩ = some (.string ((a :: r).getD i ByteArray.empty))) :
    Calls Try.prog 13 #[.slice (some ⟨b, off, none⟩) (r.length + 1) cap] w fun e w' => e = .returned (.int .i64 (lcpAll a r)) ∧ Below w.heap.size w w' := by
  unfold maxLen at hl
  have c0 := hc 0 (by omega)
  simp only [Nat.add_zero, List.getD_cons_zero] at c0
  have HC := Lib.hid hc
  have HZ := Lib.hid hz
  clear hc hz
  have hfd := field0
  by_cases hc1 : cap = 1
  all_goals
    go_enter Try.func13, Try.ntmps13
    go_wp2_with (first | (go_at_call 27; refine (of_any _ _).mono ?_; rintro e w1 ⟨rfl, hb1⟩) | (go_at_call 28; refine (agrees_any _ _).mono ?_; rintro e w2 ⟨bc, rfl, hbc1, hbc2, hcc, hb2⟩))
    have hB0 : Below w.heap.size w w2 := hb1.trans (hb2.mono hb1.size)
    have hbc : w.heap.size ≤ bc := Nat.le_trans hb1.size hbc1
    go_loopw [3, 23] (fun n i wr => ∃ k : Nat, k ≤ r.length ∧ i = .int .i64 k ∧ n = .int .i64 (lcpAll a (r.take k)) ∧ Below w.heap.size w wr ∧ bc < wr.heap.size ∧ wr.cell? ⟨bc, 0, none⟩ = some (.string a)) (fun _ i _ => r.length - (intOf i).toNat)
    case atStart => exact ⟨0, Nat.zero_le _, rfl, by simp [lcpAll], hB0, hbc2, hcc⟩
    case round =>
      obtain ⟨k, hk, rfl, rfl, hB, hlt, hca⟩ := hrel
      by_cases hkr : k < r.length
      · try (exfalso; omega)
        all_goals
          have hcell : wr.cell? ⟨b, off + 1 + k, none⟩ = some (.string (r.getD k ByteArray.empty)) := by
            rw [hB.cell (p := ⟨b, off + 1 + k, none⟩) hb, show off + 1 + k = off + (k + 1) from by omega, HC.out (k + 1) (by omega)]
            rfl
          have hza : Hid (a.size ≤ maxLen) := HZ.out a (by simp)
          have hzk : Hid ((r.getD k ByteArray.empty).size ≤ maxLen) := HZ.out _ (by rw [List.getD_eq_getElem?_getD, List.getElem?_eq_getElem hkr]; simp)
          generalize hx : r.getD k ByteArray.empty = x at *
          have HX := Lib.hid hx
          clear hx
          go_wp2_with (go_at_call 32; refine (agrees1_any a _ _ bc hza.out hzk.out hca).mono ?_; rintro e w3 ⟨rfl, hb3⟩)
          have hs := lcpAll_succ a r k hkr
          rw [HX.out] at hs
          have HS := Lib.hid hs
          clear hs
          go_roundw
          case rel => exact ⟨k + 1, by omega, by go_num, by rw [HS.out]; split <;> go_num, hB.trans (hb3.mono hB.size), Nat.lt_of_lt_of_le hlt hb3.size, by rw [hb3.cell (p := ⟨bc, 0, none⟩) hlt]; exact hca⟩
          case measure => simp [intOf]; omega
      · obtain rfl : k = r.length := by omega
        go_wp2
        go_ret
        exact ⟨ret_int (by rw [List.take_length]), hB⟩

end Go.Proofs.Ythfbkmpljobagaa
