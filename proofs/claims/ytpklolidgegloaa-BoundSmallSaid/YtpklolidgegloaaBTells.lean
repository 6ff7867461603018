/- 'tells', and the walk of BoundTells. -/
import Derived.Test.YtpklolidgegloaaMax
import Derived.Test.YtpklolidgegloaaSized
namespace Go.Proofs.Ytpklolidgegloaa
open Go.RowKit
set_option maxRecDepth 100000

set_option maxHeartbeats 1000000 in
theorem tells_any (p s : ByteArray) (n : Int) (w : World) (hp : p.size ≤ 1000) (hs : s.size ≤ 1000) :
    Calls Try.prog 9 #[.string p, .string s, .int .i64 n] w fun e w' => e = .returned (.bool true) ∧ Below w.heap.size w w' := by
  have P1 : Hid (p.size ≤ 1000000) := Nat.le_trans hp (by decide)
  have S1 : Hid (s.size ≤ 1000000) := Nat.le_trans hs (by decide)
  have P2 : Hid (p.size ≤ maxLen) := Nat.le_trans hp (by decide)
  have S2 : Hid (s.size ≤ maxLen) := Nat.le_trans hs (by decide)
  clear hp hs
  obtain ⟨r, hr⟩ : ∃ r, beyondB p = r := ⟨_, rfl⟩
  obtain ⟨u, hu⟩ : ∃ u, beyondOk p = u := ⟨_, rfl⟩
  obtain ⟨c, hc⟩ : ∃ c, clipB s n = c := ⟨_, rfl⟩
  obtain ⟨l, hl⟩ : ∃ l, leastB p s = l := ⟨_, rfl⟩
  obtain ⟨v, hv⟩ : ∃ v, reachB p s = v := ⟨_, rfl⟩
  obtain ⟨f, hf⟩ : ∃ f, p ++ one 0 = f := ⟨_, rfl⟩
  have HR := Lib.hid hr
  have HU := Lib.hid hu
  have HC := Lib.hid hc
  have HL := Lib.hid hl
  have HV := Lib.hid hv
  have HF := Lib.hid hf
  clear hr hu hc hl hv hf
  go_enter Try.func9, Try.ntmps9
  go_wp2_with fail
  refine (beyond_val _ P1.out _).mono ?_
  rw [HR.out, HU.out]
  rintro e w1 ⟨rfl, hb1⟩
  go_wp2_with fail
  refine (rbeyond_any _ _ P1.out).mono ?_
  rw [HR.out, HU.out]
  rintro e w2 ⟨rfl, hb2⟩
  go_wp2_with fail
  refine (after_any _ _ P1.out).mono ?_
  rw [HF.out]
  rintro e w3 ⟨rfl, rfl⟩
  go_wp2_with fail
  refine (rafter_any _ _ P1.out).mono ?_
  rw [HF.out]
  rintro e w4 ⟨rfl, rfl⟩
  cases u
  all_goals
    go_wp2_with fail
    refine (clip_any _ _ _ S2.out).mono ?_
    rw [HC.out]
    rintro e w5 ⟨rfl, hb5⟩
    go_wp2_with fail
    refine (rclip_any _ _ _ S1.out).mono ?_
    rw [HC.out]
    rintro e w6 ⟨rfl, rfl⟩
    go_wp2_with fail
    refine (reaches_any _ _ _ P2.out S2.out).mono ?_
    rw [HV.out]
    rintro e w7 ⟨rfl, hb7⟩
    go_wp2_with fail
    refine (rreaches_any _ _ _ P1.out S2.out).mono ?_
    rw [HV.out]
    rintro e w8 ⟨rfl, hb8⟩
    cases v
    all_goals
      go_wp2_with fail
      refine (least_any _ _ _ P2.out S2.out).mono ?_
      rw [HL.out]
      rintro e w9 ⟨rfl, hb9⟩
      go_wp2_with fail
      refine (rleast_any _ _ _ P1.out S2.out).mono ?_
      rw [HL.out]
      rintro e w10 ⟨rfl, hb10⟩
      go_wp2_with fail
      go_ret
      exact ⟨rfl, Below.step (Below.step (Below.step (Below.step (Below.step (Below.step hb1 hb2) hb5) hb7) hb8) hb9) hb10⟩

/-- The lengths of the first k strings, added up. -/
def tot (zs : List ByteArray) (k : Nat) : Nat := (zs.take k).foldl (fun n s => n + s.size) 0
theorem tot_succ (zs : List ByteArray) (k : Nat) (h : k < zs.length) : tot zs (k + 1) = tot zs k + (zs.getD k ByteArray.empty).size := by
  unfold tot
  rw [List.take_succ_eq_append_getElem h, List.foldl_append, List.getD_eq_getElem?_getD, List.getElem?_eq_getElem h]
  rfl
def SameW (a b : World) : Prop := a = b

/-- What LentTexts hands on reads as the same list. -/
theorem lent_strs {w : World} {g len : Nat} {zs : List ByteArray} (hl : zs.length = len) (hn : len ≤ 1000000) (hs : ∀ s ∈ zs, s.size ≤ maxLen)
    (hc : ∀ j, j < len + 12 → w.cell? ⟨g, j, none⟩ = (strVals (zs ++ marks 12))[j]?) : IsStrs w (some ⟨g, 0, none⟩) len (len + 12) zs := by
  refine .inr ⟨_, rfl, by omega, by unfold maxLen; omega, hl, fun i hi => ?_, hs⟩
  rw [Addr.add_lit, Nat.zero_add, hc i (by omega), strVals_front _ _ _ hi]

set_option maxHeartbeats 2000000 in
theorem boundTells_walk (p s : ByteArray) (n : Int) (ao : Option Addr) (len cap : Nat) (zs : List ByteArray) (w : World) (hp : p.size ≤ 140737488351232) (hs : s.size ≤ 140737488351232) (_ : (Lit.int .i64 n).wf = true)
    (h : IsStrs w ao len cap zs) (hz : len ≤ 140737488351232 ∧ ∀ s ∈ zs, s.size ≤ 140737488351232) :
    Calls Try.prog 3 #[.string p, .string s, .int .i64 n, .slice ao len cap] w fun e w' => e = .returned (.bool true) ∧ Below w.heap.size w w' := by
  obtain ⟨hlen, hz⟩ := hz
  have HZ := Lib.hid hz
  have HH := Lib.hid h
  have HL := Lib.hid h.length
  clear h hz
  go_enter Try.func3, Try.ntmps3
  go_wp2_with fail
  go_loopw [9, 10] (fun m i wr => ∃ k : Nat, k ≤ len ∧ i = .int .i64 k ∧ (∃ q : Nat, m = .int .i64 q ∧ p.size + s.size + len ≤ q ∧ q ≤ 562949953405000) ∧ SameW wr w) (fun _ i _ => len - (intOf i).toNat)
  case atStart => exact ⟨0, by omega, rfl, ⟨p.size + s.size + len, by go_num, by omega, by omega⟩, rfl⟩
  case round =>
    obtain ⟨k, hk, rfl, ⟨q, rfl, hq1, hq2⟩, HW⟩ := hrel
    obtain rfl : wr = w := HW
    by_cases hm : k < len ∧ q ≤ 1000
    · obtain ⟨hlt, hq⟩ := hm
      obtain ⟨b, off, rfl, hb, hc⟩ := HH.out.at (by omega)
      have g1 := hc k hlt
      have hsz : (zs.getD k ByteArray.empty).size ≤ 140737488351232 := HZ.out _ (getD_mem' _ _ (by rw [HL.out]; exact hlt))
      generalize zs.getD k ByteArray.empty = x at *
      clear hc
      go_wp2_with fail
      go_roundw
      case rel => exact ⟨k + 1, by omega, by go_num, ⟨q + x.size, by go_num, by omega, by omega⟩, rfl⟩
      case measure => simp [intOf]; omega
    · by_cases hbig : 1000 < q
      · have d1 : decide ((1000 : Int) < (q : Int)) = true := by simp; omega
        have d2 : decide ((q : Int) ≤ 1000) = false := by simp; omega
        by_cases hlt : k < len
        all_goals
          go_wp2_with fail
          refine (awake_any _).mono ?_
          rintro e w1 ⟨rfl, hb1⟩
          go_wp2_with fail
          go_ret
          exact ⟨rfl, hb1⟩
      · have hkl : ¬ k < len := fun h => hm ⟨h, by omega⟩
        have n1 : Hid (len ≤ 1000000) := by show _ ≤ _; omega
        have hp1 : Hid (p.size ≤ 1000) := by show _ ≤ _; omega
        have hs1 : Hid (s.size ≤ 1000) := by show _ ≤ _; omega
        clear hm
        have d1 : decide ((1000 : Int) < (q : Int)) = false := by simp; omega
        go_wp2_with fail
        refine (lent_any ao len cap zs _ n1.out HH.out).mono ?_
        rintro e w1 ⟨rfl, hb1, hlt1, hc1'⟩
        have I1 := Lib.hid (lent_strs HL.out n1.out HH.out.small hc1')
        have C1 := Lib.hid hc1'
        clear hc1'
        go_wp2_with fail
        refine (tells_any _ _ _ _ hp1.out hs1.out).mono ?_
        rintro e w2 ⟨rfl, hb2⟩
        go_wp2_with fail
        refine (tells_any _ _ _ _ hs1.out hp1.out).mono ?_
        rintro e w3 ⟨rfl, hb3⟩
        go_wp2_with fail
        have hb23 := Below.step hb2 hb3
        refine (max_any _ _ _ _ _ (I1.out.kept hb23) n1.out).mono ?_
        rintro e w4 ⟨rfl, hb4⟩
        go_wp2_with fail
        have hb234 := Below.step hb23 hb4
        refine (rmax_any _ _ _ _ _ (HH.out.kept (Below.step hb1 hb234)) n1.out).mono ?_
        rintro e w5 ⟨rfl, hb5⟩
        have hb25 := Below.step hb234 hb5
        go_wp2_with fail
        refine (kept_any _ _ _ _ zs _ (Nat.lt_of_lt_of_le hlt1 hb25.size) n1.out (HH.out.kept (Below.step hb1 hb25)) (fun j hj => by rw [hb25.cell (p := ⟨wr.heap.size, j, none⟩) hlt1]; exact C1.out j hj)).mono ?_
        rintro e w6 ⟨rfl, hb6⟩
        go_wp2_with fail
        refine (awake_any _).mono ?_
        rintro e w7 ⟨rfl, hb7⟩
        go_wp2_with fail
        go_ret
        exact ⟨rfl, Below.step (Below.step (Below.step hb1 hb25) hb6) hb7⟩

end Go.Proofs.Ytpklolidgegloaa
