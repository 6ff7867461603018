/- The iterator over a row. -/
import Derived.Test.YtioacpcmcnjgaaaCopyF
import Derived.Test.YtioacpcmcnjgaaaSeqOwn
import Derived.OwnWalkIn
import Derived.TacticsInMore
import Derived.LoopNIn
import Derived.LoopIn
import Derived.TacticsIn
namespace Go.Proofs.Ytioacpcmcnjgaaa
open Go.RowKit
attribute [local go_sem] Oper.semAt_some
set_option maxRecDepth 100000
set_option maxHeartbeats 2000000

/-- What a row yields at an entry. -/
def enV (x : En) : Array Value := #[.int .u8 (x.1.toNat : Int), refV x.2.1 x.2.2]
theorem each1_in (n : Nat) (hn : 1 ≤ n) (l0 Bw q room : Nat) (l : List En) (S : List Nat) (J Jx : List En → World → Prop)
    (hY : ∀ (k : Nat) (h : k < l.length) (W : World), J (l.take k) W → YieldAt Fence.wide (n - 1) Try.prog l0 (enV l[k]) W fun e W' =>
      (e = .returned (.bool true) ∧ J (l.take k ++ [l[k]]) W' ∧ Turned S W W') ∨ (e = .returned (.bool false) ∧ Jx (l.take k ++ [l[k]]) W'))
    (hAB : ∀ s X Y, Below X.heap.size X Y → J s X → J s Y)
    (W : World) (hR : RowAt W q l room) (hw : W.cell? ⟨Bw, 0, none⟩ = some (.pointer (some ⟨q, 0, none⟩))) (hq : q ∉ S) (hb : Bw ∉ S) (h0 : J [] W) :
    CallsIn Fence.wide n Try.prog 38 #[.func (.yield l0) #[] #[], .pointer (some ⟨Bw, 0, none⟩)] W fun e W' => (∃ v, e = .returned v) ∧
      (J l W' ∨ (∃ k, k < l.length ∧ Jx (l.take (k + 1)) W')) := by
  have h48 := hR.n
  have hlen := hR.len
  obtain ⟨m, hm⟩ : ∃ m, l.length = m := ⟨_, rfl⟩
  rw [hm] at h48 hlen
  have m0 : (0 : Int) ≤ (m : Int) := Int.natCast_nonneg _
  have m1 : (m : Int) ≤ 16 := by omega
  have HR := Lib.hid hR
  have HM := Lib.hid hm
  have HY := Lib.hid hY
  have HAB := Lib.hid hAB
  have HW := Lib.hid hw
  have H0 := Lib.hid h0
  have HS := Lib.hid (And.intro hq hb)
  have hbl : Hid (Bw < W.heap.size) := cell_lt hw
  clear hR hm hY hAB h0 hlen
  refine callsIn_of_wp Try.func38 rfl trivial ?_ rfl
  simp only [Try.ntmps38, List.size_toArray, List.length_cons, List.length_nil, Nat.reduceAdd, Nat.reduceSub, Array.replicate_succ, Array.replicate_zero, List.push_toArray, List.append_toArray, List.nil_append, List.cons_append]
  gi_wp2
  refine wpIn_wide.2 ?_
  go_region
  clear hw h48
  gi_wp2
  gi_loopw [14] (fun i wr => ∃ k : Nat, k ≤ m ∧ i = .int .i64 k ∧ J (l.take k) wr ∧ Turned S W wr) (fun i _ => m - (intOf i).toNat)
  case atStart => exact ⟨0, by omega, rfl, HAB.out _ _ _ ((Below.refl _ _).drew) H0.out, (Turned.refl _ _).drew⟩
  case round =>
    obtain ⟨k, hk, rfl, hJ, hT⟩ := hrel
    by_cases hlt : k < m
    · have kl : (k : Int) < (m : Int) := by omega
      have k0 : (0 : Int) ≤ (k : Int) := by omega
      have k16 : (k : Int) < 16 := by omega
      have kd : decide (k < m) = true := decide_eq_true hlt
      have hkl : k < l.length := by have := HM.out; omega
      have hRk := HR.out.turned hT HS.out.1
      have hwk : wr.cell? ⟨Bw, 0, none⟩ = some (.pointer (some ⟨q, 0, none⟩)) := (cell_same (p := ⟨Bw, 0, none⟩) (hT.block Bw hbl.out HS.out.2)).trans HW.out
      have hc := hRk.byte k hkl
      have hs := hRk.slot k hkl
      have hg := hRk.gen k hkl
      obtain ⟨fn, tmps, asg, body, hy, hRd⟩ := HY.out k hkl wr hJ
      obtain ⟨x, hx⟩ : ∃ x, l[k] = x := ⟨_, rfl⟩
      rw [hx] at hc hs hg hy hRd
      unfold enV at hy
      have hx2 : l.take k ++ [x] = l.take (k + 1) := by rw [← hx]; exact (List.take_succ_eq_append_getElem hkl).symm
      rw [hx2] at hRd
      have HRd := Lib.hid hRd
      have HT := Lib.hid hT
      have HK := Lib.hid hkl
      clear hRk hRd hx hx2 hJ hT hk hkl
      gi_wp2
      refine HRd.out.mono ?_
      rintro e W3 (⟨rfl, hJ3, hT3⟩ | ⟨rfl, hJx⟩)
      · have H3 := Lib.hid (And.intro hJ3 (HT.out.trans hT3))
        clear hJ3 hT3
        gi_wp2
        go_roundw
        case rel => exact ⟨k + 1, by omega, by go_num, H3.out⟩
        case measure => simp [intOf] <;> omega
      · have H3 := Lib.hid hJx
        clear hJx
        gi_wp2
        refine bodyPost_ret (results_none rfl _ _ _) rfl ?_
        exact ⟨⟨_, rfl⟩, .inr ⟨k, HK.out, H3.out⟩⟩
    · obtain rfl : k = m := by omega
      have H3 : Hid (J l wr) := by
        have := hJ
        rw [List.take_of_length_le (by have := HM.out; omega)] at this
        exact this
      clear hJ hT
      gi_wp2
      go_end0
      exact ⟨⟨_, rfl⟩, .inl H3.out⟩

/-- What is yielded: the entries, in order. -/
def NextE (l : List En) (pre : List En) : Prop := ∃ k, ∃ h : k < l.length, pre = l.take k ++ [l[k]'h]
theorem each_own (n : Nat) (hn : 1 ≤ n) (Bw q room : Nat) (l : List En) (S : List Nat) (w : World) (hR : RowAt w q l room) (hw : w.cell? ⟨Bw, 0, none⟩ = some (.pointer (some ⟨q, 0, none⟩))) (hq : q ∉ S) (hb : Bw ∉ S) :
    SeqOwn Fence.wide n Try.prog 38 #[.pointer (some ⟨Bw, 0, none⟩)] enV (Turned S) (fun xs => xs = l) (fun pre => ∃ k, k < l.length ∧ pre = l.take (k + 1)) (NextE l) w := fun l0 J Jx W hW _ hJ hJx hY h0 => by
  have := each1_in n hn l0 Bw q room l S J Jx
    (fun k hk W hj => by
      obtain ⟨fn, tmps, asg, body, e, hRd⟩ := hY (l.take k) l[k] W ⟨k, hk, rfl⟩ hj
      refine ⟨fn, tmps, asg, body, e, hRd.mono ?_⟩
      rintro e W' ⟨hB, ⟨rfl, hJ2⟩ | ⟨rfl, hJ2⟩⟩
      · exact .inl ⟨rfl, hJ2, hB⟩
      · exact .inr ⟨rfl, hJ2⟩)
    (fun s X Y hB hj => hJ s X Y none hj ⟨hB.os, hB.tape, hB.output, hB.size, fun k hk _ => hB.block k hk⟩ (fun r e => by cases e))
    W (hR.below hW) ((hW.cell (p := ⟨Bw, 0, none⟩) (cell_lt hw)).trans hw) hq hb h0
  refine this.mono ?_
  rintro e W' ⟨he, h | ⟨k, hk, h⟩⟩
  · exact ⟨he, .inl ⟨_, rfl, h⟩⟩
  · exact ⟨he, .inr ⟨_, ⟨k, hk, rfl⟩, h⟩⟩
theorem each_any (q : Nat) (w : World) : Calls Try.prog 33 #[.pointer (some ⟨q, 0, none⟩)] w fun e w' => e = .returned (.func (.func 38) #[] #[.pointer (some ⟨w.heap.size, 0, none⟩)]) ∧ w' = w.alloc (.cells #[.pointer (some ⟨q, 0, none⟩)] 47) := by
  have hmf := @makeFunc_run Try.prog
  go_enter Try.func33, Try.ntmps33
  go_wp2
  go_ret
  exact ⟨rfl, rfl⟩
theorem allv_any (p : Nat) (w : World) : Calls Try.prog 13 #[.pointer (some ⟨p, 0, none⟩)] w fun e w' => e = .returned (.func (.func 32) #[] #[.pointer (some ⟨w.heap.size, 0, none⟩)]) ∧ w' = w.alloc (.cells #[.pointer (some ⟨p, 0, none⟩)] 24) := by
  have hmf := @makeFunc_run Try.prog
  go_enter Try.func13, Try.ntmps13
  go_wp2
  go_ret
  exact ⟨rfl, rfl⟩
end Go.Proofs.Ytioacpcmcnjgaaa
