/- The place of a key: binary search over the row, by the place that it must find. -/
import Derived.Test.YtcpmnkihhenbgaaRowS
import Derived.Laws.Cover1
namespace Go.Proofs.Ytcpmnkihhenbgaa
open Go.RowKit
set_option maxRecDepth 1000000
set_option maxHeartbeats 4000000

theorem nan1_any (x : ByteArray) (w : World) : Calls Try.prog 80 #[.string x] w fun e w' => e = .returned (.bool false) ∧ w' = w := by
  go_enter Try.func80, Try.ntmps80
  go_wp2_with fail
  go_ret
  simp
theorem nan2_any (x : ByteArray) (w : World) : Calls Try.prog 102 #[.string x] w fun e w' => e = .returned (.bool false) ∧ w' = w := by
  go_enter Try.func102, Try.ntmps102
  go_wp2_with fail
  go_ret
  simp
theorem before_any (x y : ByteArray) (w : World) : Calls Try.prog 79 #[.string x, .string y] w fun e w' => e = .returned (.bool (kl x y)) ∧ w' = w := by
  have hk := kl_eq x y
  go_enter Try.func79, Try.ntmps79
  go_wp2_with (go_at_call 102; refine (nan2_any _ _).mono ?_; rintro e1 w1 ⟨rfl, h1⟩; replace h1 := h1.symm; subst h1)
  go_ret
  simp [hk]

/-- What stands at a place, as a bool. -/
def standsAt (x : ByteArray) (ks : List ByteArray) (i : Nat) : Bool := decide (ks[i]? = some x)
theorem stands_has {ks : List ByteArray} (hs : SrtK ks) (x : ByteArray) : standsAt x ks (atK x ks) = hasK x ks := by
  rw [Bool.eq_iff_iff, hasK_iff, atK_mem hs x]
  simp [standsAt]

theorem search_any {W : World} {e : Nat} {ks : List ByteArray} {v : Value} (h : RowS W e ks v) (hs : SrtK ks) (hn : ks.length < 1000000) (x : ByteArray) :
    Calls Try.prog 53 #[v, .string x] W fun e' w' => e' = .returned (.tuple #[.int .i64 (atK x ks : Nat), .bool (hasK x ks)]) ∧ Below W.heap.size W w' := by
  obtain ⟨ao, cap, rfl, _⟩ := h.slice
  have hcell : Hid (∀ (j : Nat) (k : ByteArray), ks[j]? = some k → ∃ b, ao = some ⟨b, 0, none⟩ ∧ b < W.heap.size ∧ W.cell? ⟨b, j, none⟩ = some (.string k)) := by
    intro j k hj
    rcases h.form with ⟨_, h2⟩ | ⟨cap', cur, h2, hf, _, _, _, h6⟩
    · rw [h2] at hj; simp at hj
    · cases h2
      exact ⟨e, rfl, hf.lt, by rw [hf.cell]; exact h6 j k hj⟩
  have HSH := stands_has hs x
  obtain ⟨A, hA⟩ : ∃ A, atK x ks = A := ⟨_, rfl⟩
  obtain ⟨n, hnn⟩ : ∃ n, ks.length = n := ⟨_, rfl⟩
  have hlow : Hid (∀ (j : Nat) (k : ByteArray), j < A → ks[j]? = some k → kl k x = true) := fun j k h1 h2 => atK_below ks x k j (by rw [hA]; exact h1) h2
  have hhigh : Hid (∀ (j : Nat) (k : ByteArray), A ≤ j → ks[j]? = some k → kl k x = false) := fun j k h1 h2 => atK_above ks x k j hs (by rw [hA]; exact h1) h2
  have hAn : A ≤ n := by rw [← hA, ← hnn]; exact atK_le x ks
  have hget : Hid (∀ j, j < n → ∃ k, ks[j]? = some k) := fun j hj => ⟨_, List.getElem?_eq_getElem (by rw [hnn]; exact hj)⟩
  have hbig : Hid (n < 1000000) := by show _ < _; rw [← hnn]; exact hn
  have HLN := Lib.hid hnn
  obtain ⟨r, hr⟩ : ∃ r, standsAt x ks A = r := ⟨_, rfl⟩
  have HR := Lib.hid hr
  rw [← HSH, hA, hnn, hr]
  clear h hs hn HSH hA hnn hr
  go_enter Try.func53, Try.ntmps53
  go_wp2_with fail
  go_loopw [7, 8] (fun av bv wr => ∃ a b : Nat, av = .int .i64 a ∧ bv = .int .i64 b ∧ a ≤ A ∧ A ≤ b ∧ b ≤ n ∧ Below W.heap.size W wr) (fun av bv _ => (intOf bv).toNat - (intOf av).toNat)
  case atStart => exact ⟨0, n, rfl, rfl, Nat.zero_le _, hAn, Nat.le_refl _, Below.refl _ _⟩
  case round =>
    obtain ⟨a, b, rfl, rfl, ha, hb, hbn, hbw⟩ := hrel
    have n6 := hbig.out
    by_cases hab : a < b
    · obtain ⟨c, hc⟩ : ∃ c, (a + b) / 2 = c := ⟨_, rfl⟩
      obtain ⟨k, hk⟩ := hget.out c (by omega)
      obtain ⟨blk, rfl, hlt, hcl⟩ := hcell.out c k hk
      replace hcl := (hbw.cell (p := ⟨blk, c, none⟩) hlt).trans hcl
      have hcI : ((a : Int) + (b : Int)) / 2 = (c : Int) := by omega
      have HBW := Lib.hid hbw
      have HK := Lib.hid hk
      have c0 : (0 : Int) ≤ (c : Int) := by omega
      have c1 : (c : Int) < (n : Int) := by omega
      have jab : (a : Int) < (b : Int) := by omega
      have jd : decide (a < b) = true := decide_eq_true hab
      clear hk hbw hlt
      cases hkx : kl k x
      · have hAc : A ≤ c := by
          rcases Nat.lt_or_ge c A with h | h
          · rw [hlow.out c k h HK.out] at hkx; cases hkx
          · exact h
        go_wp2_with (go_at_call 79; refine (before_any k x _).mono ?_; rw [hkx]; rintro e1 w1 ⟨rfl, h1⟩; replace h1 := h1.symm; subst h1)
        go_roundw
        case rel => exact ⟨a, c, rfl, rfl, ha, hAc, by omega, HBW.out⟩
        case measure => simp [intOf]; omega
      · have hAc : c + 1 ≤ A := by
          rcases Nat.lt_or_ge c A with h | h
          · exact h
          · rw [hhigh.out c k h HK.out] at hkx; cases hkx
        go_wp2_with (go_at_call 79; refine (before_any k x _).mono ?_; rw [hkx]; rintro e1 w1 ⟨rfl, h1⟩; replace h1 := h1.symm; subst h1)
        go_roundw
        case rel => exact ⟨c + 1, b, by simp, rfl, hAc, hb, hbn, HBW.out⟩
        case measure => simp [intOf]; omega
    · obtain rfl : a = A := by omega
      obtain rfl : b = a := by omega
      have jab : ¬ (b : Int) < (b : Int) := by omega
      have jd : decide (b < b) = false := decide_eq_false (by omega)
      have HBW := Lib.hid hbw
      clear hbw hb ha
      by_cases hbn2 : b < n
      · obtain ⟨k, hk⟩ := hget.out b hbn2
        obtain ⟨blk, rfl, hlt, hcl⟩ := hcell.out b k hk
        replace hcl := (HBW.out.cell (p := ⟨blk, b, none⟩) hlt).trans hcl
        have HK := Lib.hid hk
        have c0 : (0 : Int) ≤ (b : Int) := by omega
        have c1 : (b : Int) < (n : Int) := by omega
        have jn : decide (b < n) = true := decide_eq_true hbn2
        clear hk hlt hcell hget hlow hhigh
        by_cases hkx : k = x
        · have hs1 : standsAt x ks b = true := by unfold standsAt; rw [HK.out, hkx]; simp
          have heq : (k.toList == x.toList) = true := by rw [kl_beq]; exact decide_eq_true hkx
          clear hkx
          go_wp2_with (go_at_call 80; refine (nan1_any _ _).mono ?_; rintro e1 w1 ⟨rfl, h1⟩; replace h1 := h1.symm; subst h1)
          go_ret2
          exact ⟨by rw [← HR.out, hs1]; first | done | simp [*], HBW.out⟩
        · have hs1 : standsAt x ks b = false := by unfold standsAt; rw [HK.out]; simpa using hkx
          have heq : (k.toList == x.toList) = false := by rw [kl_beq]; exact decide_eq_false hkx
          clear hkx
          go_wp2_with (go_at_call 80; refine (nan1_any _ _).mono ?_; rintro e1 w1 ⟨rfl, h1⟩; replace h1 := h1.symm; subst h1)
          go_ret2
          exact ⟨by rw [← HR.out, hs1]; first | done | simp [*], HBW.out⟩
      · have hs1 : standsAt x ks b = false := by
          unfold standsAt
          rw [List.getElem?_eq_none (by rw [HLN.out]; omega)]
          simp
        have c1 : ¬ (b : Int) < (n : Int) := by omega
        have jn : decide (b < n) = false := decide_eq_false hbn2
        clear hcell hget hlow hhigh
        go_wp2_with fail
        go_ret2
        exact ⟨by rw [← HR.out, hs1]; first | done | simp [*], HBW.out⟩
end Go.Proofs.Ytcpmnkihhenbgaa
