/- The walks of Reaches and Least. -/
import Derived.Test.YtpklolidgegloaaWalks
import Derived.Test.YtpklolidgegloaaBytes
namespace Go.Proofs.Ytpklolidgegloaa
open Go.RowKit
set_option maxRecDepth 100000
set_option maxHeartbeats 400000

theorem pre_bytes (s p : ByteArray) : pre p.data.toList s.data.toList = (decide (p.size ≤ s.size) && ((s.extract 0 p.size).data.toList == p.data.toList)) := by
  rw [pre_iff, extract_list, length_list, length_list]; simp

theorem hasPrefix_any (s p : ByteArray) (w : World) (hs : s.size ≤ maxLen) (hp : p.size ≤ maxLen) :
    Calls Try.prog 32 #[.string s, .string p] w fun e w' => e = .returned (.bool (pre p.data.toList s.data.toList)) ∧ w' = w := by
  have HP := Lib.hid (pre_bytes s p)
  unfold maxLen at hs hp
  by_cases h : p.size ≤ s.size
  all_goals
    go_enter Try.func32, Try.ntmps32
    go_wp2
    go_ret
    refine ⟨ret_bool ?_, rfl⟩
    rw [HP.out]
    first
      | (rw [ByteArray.toList_eq, ByteArray.toList_eq]; simp [h]; done)
      | (simp [h]; done)

theorem hasPrefix2_any (s p : ByteArray) (w : World) (hs : s.size ≤ maxLen) (hp : p.size ≤ maxLen) :
    Calls Try.prog 31 #[.string s, .string p] w fun e w' => e = .returned (.bool (pre p.data.toList s.data.toList)) ∧ w' = w := by
  have HA := Lib.hid (And.intro hs hp)
  clear hs hp
  go_enter Try.func31, Try.ntmps31
  go_wp2_with (go_at_call 32; refine (hasPrefix_any s p _ HA.out.1 HA.out.2).mono ?_; rintro e w1 ⟨rfl, rfl⟩)
  go_ret
  exact ⟨rfl, rfl⟩

theorem begins_any (s p : ByteArray) (w : World) (hs : s.size ≤ maxLen) (hp : p.size ≤ maxLen) :
    Calls Try.prog 28 #[.string s, .string p] w fun e w' => e = .returned (.bool (pre p.data.toList s.data.toList)) ∧ w' = w := by
  have HA := Lib.hid (And.intro hs hp)
  clear hs hp
  go_enter Try.func28, Try.ntmps28
  go_wp2_with (go_at_call 31; refine (hasPrefix2_any s p _ HA.out.1 HA.out.2).mono ?_; rintro e w1 ⟨rfl, rfl⟩)
  go_ret
  exact ⟨rfl, rfl⟩

/-- Whether some text with the prefix p is not below f. -/
def reachB (p f : ByteArray) : Bool := !bl p.data.toList (f.data.toList.take p.size)
theorem reachB_clip (p f : ByteArray) : (!Op.bytesLess p.toList (clipB f (p.size : Int)).toList) = reachB p f := by
  unfold reachB clipB
  rw [ByteArray.toList_eq, ByteArray.toList_eq, extract_list]
  simp

theorem reaches_any (p f : ByteArray) (w : World) (hp : p.size ≤ maxLen) (hf : f.size ≤ maxLen) :
    Calls Try.prog 16 #[.string p, .string f] w fun e w' => e = .returned (.bool (reachB p f)) ∧ Below w.heap.size w w' := by
  have HA := Lib.hid (And.intro hp hf)
  unfold maxLen at hp hf
  go_enter Try.func16, Try.ntmps16
  go_wp2_with (go_at_call 17; refine (clip_any f _ _ HA.out.2).mono ?_; rintro e w1 ⟨rfl, hb1⟩)
  go_ret
  exact ⟨ret_bool (reachB_clip p f), hb1⟩

/-- What Least returns. -/
def leastB (p f : ByteArray) : ByteArray := if bl p.data.toList f.data.toList then (if pre p.data.toList f.data.toList then f else ⟨#[]⟩) else p

theorem least_any (p f : ByteArray) (w : World) (hp : p.size ≤ maxLen) (hf : f.size ≤ maxLen) :
    Calls Try.prog 15 #[.string p, .string f] w fun e w' => e = .returned (.string (leastB p f)) ∧ Below w.heap.size w w' := by
  have HA := Lib.hid (And.intro hp hf)
  have hfd := field0
  unfold maxLen at hp hf
  have hdef : Hid (leastB p f = if bl p.data.toList f.data.toList then (if pre p.data.toList f.data.toList then f else ⟨#[]⟩) else p) := rfl
  have hlt : Op.bytesLess p.toList f.toList = bl p.data.toList f.data.toList := by rw [ByteArray.toList_eq, ByteArray.toList_eq]
  obtain ⟨x, hx⟩ : ∃ x, bl p.data.toList f.data.toList = x := ⟨_, rfl⟩
  obtain ⟨y, hy⟩ : ∃ y, pre p.data.toList f.data.toList = y := ⟨_, rfl⟩
  have HY := Lib.hid hy
  rw [hx] at hlt
  have HX := Lib.hid hx
  clear hx hy
  cases x <;> cases y
  all_goals
    go_enter Try.func15, Try.ntmps15
    go_wp2_with (first | (go_at_call 25; refine (of_any _ _).mono ?_; rintro e w1 ⟨rfl, hb1⟩) | (go_at_call 28; refine (begins_any f p _ HA.out.2 HA.out.1).mono ?_; rw [HY.out]; rintro e w2 ⟨rfl, rfl⟩))
    go_ret
    refine ⟨ret_str ?_, ?_⟩
    · rw [hdef.out, HX.out, HY.out]; rfl
    · first
        | exact Below.refl _ _
        | exact hb1

end Go.Proofs.Ytpklolidgegloaa
