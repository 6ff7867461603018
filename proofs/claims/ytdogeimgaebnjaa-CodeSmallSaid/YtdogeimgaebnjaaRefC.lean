/- The reference's Encode of a long key, and its Less. -/
import Derived.Test.YtdogeimgaebnjaaOrderW
import Derived.Test.YtdogeimgaebnjaaRefEnc
namespace Go.Proofs.Ytdogeimgaebnjaa
open Go.RowKit Go.Shelf
set_option maxRecDepth 100000
set_option maxHeartbeats 2000000

theorem rencode_long (s : ByteArray) (w : World) (hs : 16 < s.size) (hm : s.size ≤ maxLen) :
    Calls Try.prog 14 #[.string s] w fun e w' => e = .returned (.tuple #[.string ⟨#[]⟩, .int .i64 3]) ∧ w' = w := by
  unfold maxLen at hm
  have h1 : (16 : Int) < (s.size : Int) := by omega
  go_enter Try.func14, Try.ntmps14
  go_wp2_with fail
  go_ret2
  exact ⟨rfl, rfl⟩

/-- Where two lists agree in their first k places, only what follows counts. -/
theorem less_drop (k : Nat) : ∀ (a b : List UInt8), a.take k = b.take k → k ≤ a.length → k ≤ b.length → Op.bytesLess a b = Op.bytesLess (a.drop k) (b.drop k) := by
  intro a b h _ _
  conv => lhs; rw [← List.take_append_drop k a, ← List.take_append_drop k b, h]
  exact less_same _ _ _

theorem rless_any (a b : ByteArray) (w : World) (ha : a.size ≤ 1000000) :
    Calls Try.prog 10 #[.string a, .string b] w fun e w' => e = .returned (.bool (Op.bytesLess a.toList b.toList)) ∧ Below w.heap.size w w' := by
  go_enter Try.func10, Try.ntmps10
  go_wp2
  go_loopw [5] (fun i wr => ∃ k : Nat, k ≤ a.size ∧ k ≤ b.size ∧ i = .int .i64 k ∧ a.data.toList.take k = b.data.toList.take k ∧ Below w.heap.size w wr) (fun i _ => a.size - (intOf i).toNat)
  case atStart => exact ⟨0, Nat.zero_le _, Nat.zero_le _, rfl, rfl, Below.refl _ _⟩
  case round =>
    obtain ⟨k, hk1, hk2, rfl, hk3, hB⟩ := hrel
    have hd : Op.bytesLess a.toList b.toList = Op.bytesLess (a.data.toList.drop k) (b.data.toList.drop k) := by
      rw [ByteArray.toList_eq, ByteArray.toList_eq]
      exact less_drop k _ _ hk3 (by rw [length_list]; exact hk1) (by rw [length_list]; exact hk2)
    by_cases hA : k < a.size
    · have kA : (k : Int) < (a.size : Int) := by omega
      by_cases hBs : k < b.size
      · have kB : (k : Int) < (b.size : Int) := by omega
        have ea : a.data.toList.drop k = a[k] :: a.data.toList.drop (k + 1) := by rw [List.drop_eq_getElem_cons (by rw [length_list]; exact hA)]; rfl
        have eb : b.data.toList.drop k = b[k] :: b.data.toList.drop (k + 1) := by rw [List.drop_eq_getElem_cons (by rw [length_list]; exact hBs)]; rfl
        by_cases he : a[k] = b[k]
        · have q1 : (((a[k]'hA).toNat : Int) == ((b[k]'hBs).toNat : Int)) = true := by rw [he]; simp
          have ht : a.data.toList.take (k + 1) = b.data.toList.take (k + 1) := by rw [take_one a k hA, take_one b k hBs, hk3, he]
          have HB := Lib.hid hB
          clear hB hd hk3 ea eb he
          go_wp2
          go_quiet (fail)
          go_wp2
          go_roundw
          case rel => exact ⟨k + 1, by omega, by omega, by go_num, ht, below_drewN HB.out _⟩
          case measure => simp [intOf] <;> omega
        · have q1 : (((a[k]'hA).toNat : Int) == ((b[k]'hBs).toNat : Int)) = false := by
            rw [beq_eq_false_iff_ne]; intro e; exact he (UInt8.toNat.inj (by show (a[k]'hA).toNat = (b[k]'hBs).toNat; omega))
          have hv : Op.bytesLess a.toList b.toList = decide (((a[k]'hA).toNat : Int) < ((b[k]'hBs).toNat : Int)) := by
            have e1 : (a[k] == b[k]) = false := by rw [beq_eq_false_iff_ne]; exact he
            rw [hd, ea, eb]
            simp [Op.bytesLess, e1, UInt8.lt_iff_toNat_lt]
          have HB := Lib.hid hB
          have HV := Lib.hid hv
          clear hB hd hk3 ea eb he hv
          go_wp2
          go_quiet (fail)
          go_wp2
          go_quiet (fail)
          go_wp2
          refine bodyPost_ret (v := .bool (Op.bytesLess a.toList b.toList)) (by rw [HV.out]; simp [results, Try.results10, go_sem]) rfl ?_
          exact ⟨rfl, below_drewN (below_drewN HB.out _) _⟩
      · have kB : (b.size : Int) ≤ (k : Int) := by omega
        have hv : Op.bytesLess a.toList b.toList = decide ((a.size : Int) < (b.size : Int)) := by
          have eb : b.data.toList.drop k = [] := List.drop_of_length_le (by rw [length_list]; omega)
          rw [hd, eb]
          have : ¬ (a.size : Int) < (b.size : Int) := by omega
          simp only [this, decide_false]
          cases a.data.toList.drop k <;> rfl
        have HB := Lib.hid hB
        have HV := Lib.hid hv
        clear hB hd hk3 hv
        go_wp2
        refine bodyPost_ret (v := .bool (Op.bytesLess a.toList b.toList)) (by rw [HV.out]; simp [results, Try.results10, go_sem]) rfl ?_
        exact ⟨rfl, HB.out⟩
    · have kA : (a.size : Int) ≤ (k : Int) := by omega
      have hv : Op.bytesLess a.toList b.toList = decide ((a.size : Int) < (b.size : Int)) := by
        have ea : a.data.toList.drop k = [] := List.drop_of_length_le (by rw [length_list]; omega)
        have lb : (b.data.toList.drop k).length = b.size - k := by simp
        rw [hd, ea]
        cases hl : b.data.toList.drop k with
        | nil =>
          rw [hl] at lb
          have : ¬ (a.size : Int) < (b.size : Int) := by simp at lb; omega
          simp only [this, decide_false]; rfl
        | cons c l =>
          rw [hl] at lb
          have : (a.size : Int) < (b.size : Int) := by simp at lb; omega
          simp only [this, decide_true]; rfl
      have HB := Lib.hid hB
      have HV := Lib.hid hv
      clear hB hd hk3 hv
      go_wp2
      refine bodyPost_ret (v := .bool (Op.bytesLess a.toList b.toList)) (by rw [HV.out]; simp [results, Try.results10, go_sem]) rfl ?_
      exact ⟨rfl, HB.out⟩
end Go.Proofs.Ytdogeimgaebnjaa
