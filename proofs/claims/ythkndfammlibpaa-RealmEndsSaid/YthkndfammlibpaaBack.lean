/- The iterator over a string's bytes from the end, and Beyond. -/
import Derived.Test.YthkndfammlibpaaWalks
import Derived.RangeFuncNested
import Derived.RangeFuncBound
import Derived.RangeFuncCalls
import Derived.RangeFuncLeaves
import Derived.Shelf.Abstract
import Derived.Shelf.RegionOpen
import Derived.OwnWalkIn
import Derived.TacticsInMore
import Derived.LoopNIn
import Derived.LoopIn
namespace Go.Proofs.Ythkndfammlibpaa.Bd
open Go.Proofs.Ythkndfammlibpaa
open Go.RowKit Go.Shelf
attribute [local go_sem] Oper.semAt_some

/-- An index of a string's bytes. -/
abbrev Ix (s : ByteArray) := { i : Nat // i < s.size }
def downTo (s : ByteArray) : (k : Nat) → k ≤ s.size → List (Ix s)
  | 0, _ => []
  | k + 1, h => downTo s k (by omega) ++ [⟨s.size - 1 - k, by omega⟩]
theorem downTo_length (s : ByteArray) : ∀ (k : Nat) (h : k ≤ s.size), (downTo s k h).length = k
  | 0, _ => rfl
  | k + 1, h => by simp [downTo, downTo_length s k]

set_option maxRecDepth 100000 in
set_option maxHeartbeats 2000000 in
theorem back1_in (n : Nat) (hn : 1 ≤ n) (l Bs n₀ : Nat) (s : ByteArray) (hs : s.size ≤ 9223372036854775807) (hb : Bs < n₀) (J Jx : List (Ix s) → World → Prop)
    (hY : ∀ pre x W, J pre W → pre.length < s.size → YieldAt Fence.wide (n - 1) Try.prog l #[.int .i64 (x.1 : Int), .int .u8 ((s[x.1]'x.2).toNat : Int)] W fun e W' =>
      (e = .returned (.bool true) ∧ J (pre ++ [x]) W' ∧ Below n₀ W W') ∨ (e = .returned (.bool false) ∧ Jx (pre ++ [x]) W'))
    (W : World) (hBs : W.cell? ⟨Bs, 0, none⟩ = some (.string s)) (h0 : J [] W) :
    CallsIn Fence.wide n Try.prog 40 #[.func (.yield l) #[] #[], .pointer (some ⟨Bs, 0, none⟩)] W fun e W' => (∃ v, e = .returned v) ∧
      ((∃ ys, ys = downTo s s.size (Nat.le_refl _) ∧ J ys W') ∨ (∃ pre, (∃ k h, pre = downTo s k h) ∧ Jx pre W')) := by
  refine callsIn_of_wp Try.func40 rfl trivial ?_ rfl
  simp only [Try.ntmps40, List.size_toArray, List.length_cons, List.length_nil, Nat.reduceAdd, Nat.reduceSub, Array.replicate_succ, Array.replicate_zero, List.push_toArray, List.append_toArray, List.nil_append, List.cons_append]
  gi_wp2
  gi_loopw [3] (fun i wr => ∃ (k : Nat) (h : k ≤ s.size), i = .int .i64 ((s.size : Int) - 1 - (k : Int)) ∧ J (downTo s k h) wr ∧ Below n₀ W wr)
    (fun i _ => (intOf i + 1).toNat)
  case atStart => exact ⟨0, Nat.zero_le _, by simp, h0, Below.refl _ _⟩
  case round =>
    obtain ⟨k, hk, rfl, hJs, hnx⟩ := hrel
    have hcx : wr.cell? ⟨Bs, 0, none⟩ = some (.string s) := (hnx.cell (p := ⟨Bs, 0, none⟩) hb).trans hBs
    by_cases hlt : k < s.size
    · obtain ⟨j, hjlt, hj⟩ : ∃ j : Nat, j < s.size ∧ j = s.size - 1 - k := ⟨_, by omega, rfl⟩
      obtain ⟨fn, tmps, assign, body, hy, hR⟩ := hY _ ⟨j, hjlt⟩ wr hJs (by rw [downTo_length]; exact hlt)
      dsimp only at hy
      have hji : (s.size : Int) - 1 - (k : Int) = (j : Int) := by omega
      rw [hji]
      have HJ := Lib.hid hj
      have HN := Lib.hid hnx
      clear hj hji hY hBs h0 hnx
      gi_wp2
      refine hR.mono ?_
      rintro e W3 (⟨rfl, hJ3, hk3⟩ | ⟨rfl, hJx3⟩)
      · gi_wp2
        go_roundw
        case rel =>
          refine ⟨k + 1, by omega, ?_, ?_, HN.out.trans hk3⟩
          · have := HJ.out
            simp <;> omega
          · have := HJ.out; subst this; exact hJ3
        case measure => simp [intOf] <;> omega
      · gi_wp2
        refine bodyPost_ret (results_none rfl _ _ _) rfl ?_
        refine ⟨⟨_, rfl⟩, .inr ⟨_, ⟨k + 1, by omega, ?_⟩, hJx3⟩⟩
        have := HJ.out; subst this; rfl
    · obtain rfl : k = s.size := by omega
      gi_wp2
      go_end0
      exact ⟨⟨_, rfl⟩, .inl ⟨_, rfl, hJs⟩⟩

/-- What the value of back() gives to a range over it. -/
theorem back_stops (n : Nat) (hn : 1 ≤ n) (Bs n₀ : Nat) (s : ByteArray) (hs : s.size ≤ 9223372036854775807) (w : World) (hBs : Bs < w.heap.size) (hb : Bs < n₀) (hn₀ : n₀ ≤ w.heap.size) (hc : w.cell? ⟨Bs, 0, none⟩ = some (.string s)) :
    SeqStopsK Fence.wide n Try.prog 40 #[.pointer (some ⟨Bs, 0, none⟩)] (fun x : Ix s => #[Value.int .i64 (x.1 : Int), Value.int .u8 ((s[x.1]'x.2).toNat : Int)]) (Below n₀) (fun ys => ys = downTo s s.size (Nat.le_refl _))
      (fun pre => ∃ k h, pre = downTo s k h) s.size w := fun l J Jx W hW _ _ hY h0 =>
  back1_in n hn l Bs n₀ s hs hb J Jx hY W ((hW.cell (p := ⟨Bs, 0, none⟩) hBs).trans hc) h0

end Go.Proofs.Ythkndfammlibpaa.Bd
