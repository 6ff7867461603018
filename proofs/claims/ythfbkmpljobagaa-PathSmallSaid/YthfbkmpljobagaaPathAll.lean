/- The walk of PathAll. -/
import Derived.Test.YthfbkmpljobagaaAll
import Derived.Test.YthfbkmpljobagaaMark
namespace Go.Proofs.Ythfbkmpljobagaa
open Go.RowKit
set_option maxRecDepth 100000
set_option maxHeartbeats 400000

def SameW (a b : World) : Prop := a = b
theorem getD_mem' (zs : List ByteArray) (k : Nat) (h : k < zs.length) : zs.getD k ByteArray.empty ∈ zs := by
  rw [List.getD_eq_getElem?_getD, List.getElem?_eq_getElem h]; exact List.getElem_mem h
theorem short_succ {zs : List ByteArray} {k : Nat} (h : ∀ j, j < k → (zs.getD j ByteArray.empty).size ≤ 2000) (hk : (zs.getD k ByteArray.empty).size ≤ 2000) : ∀ j, j < k + 1 → (zs.getD j ByteArray.empty).size ≤ 2000 := by
  intro j hj
  by_cases e : j = k
  · subst e; exact hk
  · exact h j (by omega)

/-- All, over a list that is read, and the reference's: the same number. -/
def allOf : List ByteArray → Nat
  | [] => 0
  | a :: r => lcpAll a r

theorem all_list (ao : Option Addr) (len cap : Nat) (zs : List ByteArray) (w : World) (h : IsStrs w ao len cap zs) (hn : len ≤ 1000000) :
    Calls Try.prog 13 #[.slice ao len cap] w fun e w' => e = .returned (.int .i64 (allOf zs)) ∧ Below w.heap.size w w' := by
  have hl := h.length
  cases zs with
  | nil => obtain rfl : len = 0 := by simpa using hl.symm
           exact all0_any _ _ _
  | cons a r =>
    obtain rfl : len = r.length + 1 := by simpa using hl.symm
    obtain ⟨b, off, rfl, hb, hc⟩ := h.at (by omega)
    exact all_any a r b off cap w hb h.small (by unfold maxLen; omega) h.cap.1 hc

theorem rall_list (ao : Option Addr) (len cap : Nat) (zs : List ByteArray) (w : World) (h : IsStrs w ao len cap zs) (hn : len ≤ 1000000) :
    Calls Try.prog 14 #[.slice ao len cap] w fun e w' => e = .returned (.int .i64 (allOf zs)) ∧ Below w.heap.size w w' := by
  have hl := h.length
  cases zs with
  | nil => obtain rfl : len = 0 := by simpa using hl.symm
           exact rall0_any _ _ _
  | cons a r =>
    obtain rfl : len = r.length + 1 := by simpa using hl.symm
    obtain ⟨b, off, rfl, hb, hc⟩ := h.at (by omega)
    exact rall_any a r b off cap w hb h.small (by unfold maxLen; omega) hc

/-- What LentTexts hands on reads as the same list. -/
theorem lent_strs {w : World} {g len : Nat} {zs : List ByteArray} (hl : zs.length = len) (hn : len ≤ 1000000) (hs : ∀ s ∈ zs, s.size ≤ maxLen)
    (hc : ∀ j, j < len + 12 → w.cell? ⟨g, j, none⟩ = (strVals (zs ++ marks 12))[j]?) : IsStrs w (some ⟨g, 0, none⟩) len (len + 12) zs := by
  refine .inr ⟨_, rfl, by omega, by unfold maxLen; omega, hl, fun i hi => ?_, hs⟩
  rw [Addr.add_lit, Nat.zero_add, hc i (by omega), strVals_front _ _ _ hi]

theorem pathAll_walk (ao : Option Addr) (len cap : Nat) (zs : List ByteArray) (w : World) (h : IsStrs w ao len cap zs) :
    Calls Try.prog 4 #[.slice ao len cap] w fun e w' => e = .returned (.bool true) ∧ Below w.heap.size w w' := by
  have hcap := h.cap
  unfold maxLen at hcap
  obtain ⟨hc1, hc2⟩ := hcap
  have HH := Lib.hid h
  have HL := Lib.hid h.length
  clear h
  by_cases h60 : len ≤ 60
  · go_enter Try.func4, Try.ntmps4
    go_wp2_with fail
    go_loopw [3] (fun i wr => ∃ k : Nat, k ≤ len ∧ i = .int .i64 k ∧ SameW wr w ∧ Hid (∀ j, j < k → (zs.getD j ByteArray.empty).size ≤ 2000)) (fun i _ => len - (intOf i).toNat)
    case atStart => exact ⟨0, by omega, rfl, rfl, fun j hj => by omega⟩
    case round =>
      obtain ⟨k, hk, rfl, HW, HS⟩ := hrel
      obtain rfl : wr = w := HW
      by_cases hlt : k < len
      · obtain ⟨b, off, rfl, hb, hc⟩ := HH.out.at (by omega)
        have g1 := hc k hlt
        have hsz : (zs.getD k ByteArray.empty).size ≤ maxLen := HH.out.small _ (getD_mem' _ _ (by rw [HL.out]; exact hlt))
        generalize hx : zs.getD k ByteArray.empty = x at *
        have HX := Lib.hid hx
        clear hc hx
        unfold maxLen at hsz
        by_cases hsm : x.size ≤ 2000
        · go_wp2_with fail
          go_roundw
          case rel => exact ⟨k + 1, by omega, by go_num, rfl, short_succ HS (by rw [HX.out]; exact hsm)⟩
          case measure => simp [intOf]; omega
        · go_wp2_with fail
          refine (awake_any _).mono ?_
          rintro e w4 ⟨rfl, hb4⟩
          go_wp2_with fail
          go_ret
          exact ⟨rfl, hb4⟩
      · obtain rfl : k = len := by omega
        have n1 : Hid (k ≤ 1000000) := by show _ ≤ _; omega
        go_wp2_with fail
        refine (lent_any ao k cap zs _ n1.out HH.out).mono ?_
        rintro e w1 ⟨rfl, hb1, hlt1, hc1'⟩
        have I1 := Lib.hid (lent_strs HL.out n1.out HH.out.small hc1')
        have C1 := Lib.hid hc1'
        clear hc1'
        go_wp2_with fail
        refine (all_list _ _ _ _ _ I1.out n1.out).mono ?_
        rintro e w2 ⟨rfl, hb2⟩
        go_wp2_with fail
        refine (rall_list _ _ _ _ _ (HH.out.kept (Below.step hb1 hb2)) n1.out).mono ?_
        rintro e w3 ⟨rfl, hb3⟩
        go_wp2_with fail
        have hb23 := Below.step hb2 hb3
        refine (kept_any _ _ _ _ zs _ (Nat.lt_of_lt_of_le hlt1 hb23.size) n1.out (HH.out.kept (Below.step hb1 hb23)) (fun j hj => by rw [hb23.cell (p := ⟨wr.heap.size, j, none⟩) hlt1]; exact C1.out j hj)).mono ?_
        rintro e w4 ⟨rfl, hb4⟩
        go_wp2_with fail
        refine (awake_any _).mono ?_
        rintro e w5 ⟨rfl, hb5⟩
        go_wp2_with fail
        go_ret
        exact ⟨rfl, Below.step (Below.step (Below.step hb1 hb23) hb4) hb5⟩
  · go_enter Try.func4, Try.ntmps4
    go_wp2_with fail
    refine (awake_any _).mono ?_
    rintro e w4 ⟨rfl, hb4⟩
    go_wp2_with fail
    go_ret
    exact ⟨rfl, hb4⟩

end Go.Proofs.Ythfbkmpljobagaa
