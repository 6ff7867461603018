/- The walk of the reference's Parse. -/
import Derived.Test.YtjkocklfnapdaaaDoorDigits
import Derived.Test.YtjkocklfnapdaaaDoorRefShow
namespace Go.Proofs.YtjkocklfnapdaaaDoor
open Go.RowKit
set_option maxRecDepth 100000
set_option maxHeartbeats 2000000

theorem byte_at (s : ByteArray) (k : Nat) (h : k < s.size) : s.data.toList[k]? = some s[k] := by
  rw [List.getElem?_eq_getElem (by simpa using h)]; rfl

/-- What Parse is to answer. -/
def Answer (s : ByteArray) (res : Value) : Prop :=
  (∃ m : Nat, m < 18446744073709551616 ∧ showL m = s.data.toList ∧ res = .tuple #[.int .u64 m, .int .i64 0]) ∨ ((∀ m, m < 18446744073709551616 → showL m ≠ s.data.toList) ∧ res = .tuple #[.int .u64 0, .int .i64 7])

theorem rparse_any (s : ByteArray) (res : Value) (w : World) (hs : s.size ≤ 1000) (hans : Answer s res) :
    Calls Tryd.prog 28 #[.string s] w fun e w' => e = .returned res ∧ Below w.heap.size w w' := by
  have HA := Lib.hid hans
  clear hans
  go_enter Tryd.func28, Tryd.ntmps28
  go_wp2_with fail
  go_loopw [4, 5] (fun n i wr => ∃ k : Nat, k ≤ s.size ∧ k ≤ 20 ∧ i = .int .i64 k ∧ (∃ x : Nat, n = .int .u64 x ∧ x < 18446744073709551616 ∧ Hid (k ≤ 19 → x = val 0 (s.data.toList.take k))) ∧ Hid (Digs s.data.toList k) ∧ wr = w) (fun _ i _ => 20 - (intOf i).toNat)
  case atStart => exact ⟨0, Nat.zero_le _, Nat.zero_le _, rfl, ⟨0, rfl, by omega, fun _ => by simp [val]⟩, fun j hj => by omega, rfl⟩
  case round =>
    obtain ⟨k, hk, hk20, rfl, ⟨x, rfl, hx, HX⟩, HD, rfl⟩ := hrel
    by_cases hgo : ∃ h1 : k < s.size, k < 20 ∧ 48 ≤ s[k].toNat ∧ s[k].toNat ≤ 57
    · obtain ⟨h1, h2, h3, h4⟩ := hgo
      have hb := byte_at s k h1
      have hd1 := HD.out.succ hb ⟨h3, h4⟩
      have htk : s.data.toList.take (k + 1) = s.data.toList.take k ++ [s[k]] := by
        rw [List.take_succ_eq_append_getElem (by simpa using h1)]; rfl
      have hv : k + 1 ≤ 19 → val 0 (s.data.toList.take (k + 1)) = x * 10 + (s[k].toNat - 48) ∧ x * 10 + (s[k].toNat - 48) < 18446744073709551616 := by
        intro h19
        have e1 := HX.out (by omega)
        have e2 : val 0 (s.data.toList.take (k + 1)) = x * 10 + (s[k].toNat - 48) := by rw [htk, val_snoc, ← e1]
        have e3 := val_lt _ hd1.take
        have e4 : (s.data.toList.take (k + 1)).length ≤ 19 := by simp; omega
        have e5 : 10 ^ (s.data.toList.take (k + 1)).length ≤ 10 ^ 19 := Nat.pow_le_pow_right (by decide) e4
        have e6 : (10 : Nat) ^ 19 = 10000000000000000000 := by decide
        exact ⟨e2, by rw [← e2]; omega⟩
      have HV := Lib.hid hv
      have HD1 := Lib.hid hd1
      have HX0 := Lib.hid hx
      have W : Hid (IntKind.u64.wrap (IntKind.u64.wrap ((x : Int) * 10) + ((s[k].toNat : Int) - 48)) = (((x * 10 % 18446744073709551616 + (s[k].toNat - 48)) % 18446744073709551616 : Nat) : Int)) := by
        show _ = _
        rw [wrapU, wrapU]; omega
      clear hv hd1 hb htk hx
      go_wp2_with fail
      go_roundw
      case rel =>
        refine ⟨k + 1, by omega, by omega, by go_num, ⟨(x * 10 % 18446744073709551616 + (s[k].toNat - 48)) % 18446744073709551616, by rw [W.out], by omega, fun h19 => ?_⟩, HD1.out, trivial⟩
        have := HV.out h19
        rw [this.1]; omega
      case measure => simp [intOf]; omega
    · have hend : (k = s.data.toList.length ∨ ∃ c, s.data.toList[k]? = some c ∧ ¬ isD c) ∨ k = 20 := by
        rcases Nat.lt_or_ge k 20 with h2 | h2
        · left
          rcases Nat.lt_or_ge k s.size with h1 | h1
          · right
            exact ⟨s[k], byte_at s k h1, fun hd => hgo ⟨h1, h2, hd.1, hd.2⟩⟩
          · left; simp at *; omega
        · right; omega
      have HEnd := Lib.hid hend
      have HX0 := Lib.hid hx
      have hcase : (¬ k < s.size) ∨ (k < s.size ∧ ¬ k < 20) ∨ (∃ h1 : k < s.size, k < 20 ∧ s[k].toNat < 48) ∨ (∃ h1 : k < s.size, k < 20 ∧ 48 ≤ s[k].toNat ∧ 57 < s[k].toNat) := by
        by_cases h1 : k < s.size
        · by_cases h2 : k < 20
          · rcases Nat.lt_or_ge s[k].toNat 48 with h3 | h3
            · exact .inr (.inr (.inl ⟨h1, h2, h3⟩))
            · exact .inr (.inr (.inr ⟨h1, h2, h3, by
                rcases Nat.lt_or_ge 57 s[k].toNat with h4 | h4
                · exact h4
                · exact absurd ⟨h1, h2, h3, h4⟩ hgo⟩))
          · exact .inr (.inl ⟨h1, h2⟩)
        · exact .inl h1
      clear hend hx hgo
      by_cases h19 : k ≤ 19
      · rcases hcase with h1 | ⟨h1, h2⟩ | ⟨h1, h2, h3⟩ | ⟨h1, h2, h3, h4⟩
        all_goals try (exfalso; omega)
        all_goals
          have HX' : Hid (x = val 0 (s.data.toList.take k)) := HX.out h19
          have HNo : Hid (∀ m, m < 18446744073709551616 → showL m = s.data.toList → x = m / 4) := fun m hm hl => by
            rw [HX'.out]
            refine (digs_end hm hl HD.out ?_).2
            rcases HEnd.out with h | h
            · exact h
            · omega
          go_wp2_with fail
          obtain ⟨wo, rfl⟩ : ∃ wo : World, wo = wr := ⟨_, rfl⟩
          go_loopw [6] (fun t wr => ∃ q : Nat, q ≤ 4 ∧ t = .int .i64 q ∧ Below wo.heap.size wo wr ∧ Hid (∀ j, j < q → x < 4611686018427387904 → showL (4 * x + j) ≠ s.data.toList)) (fun t _ => 4 - (intOf t).toNat)
          case atStart => exact ⟨0, Nat.zero_le _, rfl, Below.refl _ _, fun j hj => by omega⟩
          case round =>
            obtain ⟨q, hq, rfl, hB, HQ⟩ := hrel
            by_cases hq4 : q < 4
            · obtain ⟨l, hl⟩ : ∃ l, ((q : Int) % 2 == 1) = l := ⟨_, rfl⟩
              obtain ⟨d, hd⟩ : ∃ d, ((q : Int) / 2 == 1) = d := ⟨_, rfl⟩
              have hv : VN (x : Int) l d = ((4 * x + q : Nat) : Int) := by
                rw [← hl, ← hd]
                rcases (show q = 0 ∨ q = 1 ∨ q = 2 ∨ q = 3 by omega) with rfl | rfl | rfl | rfl <;> simp [VN] <;> omega
              have V := Lib.hid hv
              clear hv
              by_cases hx62 : x < 4611686018427387904
              · have hm : 4 * x + q < 18446744073709551616 := by omega
                have HM := Lib.hid hm
                have X0 := Lib.hid hx62
                by_cases heq : showL (4 * x + q) = s.data.toList
                · have hres : res = .tuple #[.int .u64 ((4 * x + q : Nat) : Int), .int .i64 0] := by
                    rcases HA.out with ⟨m, h1, h2, h3⟩ | ⟨h1, _⟩
                    · rw [h3, showL_inj (h2.trans heq.symm)]
                    · exact absurd heq (h1 _ hm)
                  have hb : ((showB (4 * x + q)).toList == s.toList) = true := by
                    rw [beq_iff_eq, ByteArray.toList_eq, ByteArray.toList_eq, showB_list]; exact heq
                  have HR := Lib.hid hres
                  clear heq hres hm hx62
                  generalize 4 * x + q = y at *
                  go_wp2_with fail
                  refine (newR_yes x l d _ (by omega) (by have := X0.out; omega)).mono ?_
                  rw [V.out]
                  rintro e w1 ⟨rfl, hb1⟩
                  go_wp2_with fail
                  refine (showR_loop y _ HM.out).mono ?_
                  rintro e w2 ⟨rfl, hb2⟩
                  go_wp2_with fail
                  go_ret2
                  exact ⟨by rw [HR.out]; rfl, Below.step (Below.step hB hb1) hb2⟩
                · have hb : ((showB (4 * x + q)).toList == s.toList) = false := by
                    rw [beq_eq_false_iff_ne, ByteArray.toList_eq, ByteArray.toList_eq, showB_list]; exact heq
                  have HQ' : Hid (∀ j, j < q + 1 → x < 4611686018427387904 → showL (4 * x + j) ≠ s.data.toList) := fun j hj hx' => by
                    by_cases e : j = q
                    · subst e; exact heq
                    · exact HQ.out j (by omega) hx'
                  clear heq hm hx62
                  generalize 4 * x + q = y at *
                  go_wp2_with fail
                  refine (newR_yes x l d _ (by omega) (by have := X0.out; omega)).mono ?_
                  rw [V.out]
                  rintro e w1 ⟨rfl, hb1⟩
                  go_wp2_with fail
                  refine (showR_loop y _ HM.out).mono ?_
                  rintro e w2 ⟨rfl, hb2⟩
                  go_wp2_with fail
                  go_roundw
                  case rel => exact ⟨q + 1, by omega, by go_num, Below.step (Below.step hB hb1) hb2, HQ'.out⟩
                  case measure => simp [intOf]; omega
              · have HQ' : Hid (∀ j, j < q + 1 → x < 4611686018427387904 → showL (4 * x + j) ≠ s.data.toList) := fun j hj hx' => absurd hx' hx62
                have X1 := Lib.hid hx62
                clear hx62
                go_wp2_with fail
                refine (newR_no x l d _ (by have := X1.out; omega)).mono ?_
                rintro e w1 ⟨rfl, rfl⟩
                go_wp2_with fail
                go_roundw
                case rel => exact ⟨q + 1, by omega, by go_num, hB, HQ'.out⟩
                case measure => simp [intOf]; omega
            · obtain rfl : q = 4 := by omega
              have hres : res = .tuple #[.int .u64 0, .int .i64 7] := by
                rcases HA.out with ⟨m, h1, h2, _⟩ | ⟨_, h2⟩
                · exfalso
                  have e1 := HNo.out m h1 h2
                  refine HQ.out (m % 4) (by omega) (by omega) ?_
                  rw [show 4 * x + m % 4 = m by omega]; exact h2
                · exact h2
              have HR := Lib.hid hres
              clear hres
              go_wp2_with fail
              go_ret2
              exact ⟨by rw [HR.out]; rfl, hB⟩
      · have hres : res = .tuple #[.int .u64 0, .int .i64 7] := by
          rcases HA.out with ⟨m, h1, h2, _⟩ | ⟨_, h2⟩
          · exact absurd (digs_long h1 h2 HD.out) h19
          · exact h2
        have HR := Lib.hid hres
        clear hres
        rcases hcase with h1 | ⟨h1, h2⟩ | ⟨h1, h2, h3⟩ | ⟨h1, h2, h3, h4⟩
        · go_wp2_with fail
          go_ret2
          exact ⟨by rw [HR.out]; rfl, Below.refl _ _⟩
        · go_wp2_with fail
          go_ret2
          exact ⟨by rw [HR.out]; rfl, Below.refl _ _⟩
        · exfalso; omega
        · exfalso; omega

end Go.Proofs.YtjkocklfnapdaaaDoor
