/- Cutting and joining: lemmas for the laws of the path layer. -/
import Derived.Test.YthfbkmpljobagaaLaws
import Derived.Lib.QuietBelow
namespace Go.Proofs.Ythfbkmpljobagaa
open Go.RowKit
set_option maxRecDepth 100000
set_option maxHeartbeats 400000

theorem cutVal_yes (s : ByteArray) (k : Nat) (h : k < s.size) : cutVal s k = .tuple #[.string (s.extract 0 k), .int .u8 ((s[k]'h).toNat : Int), .string (s.extract (k + 1) s.size), .bool true] := by
  unfold cutVal; rw [dif_pos (by omega)]; simp
theorem cutVal_no (s : ByteArray) (k : Nat) (h : ¬ k < s.size) : cutVal s k = .tuple #[.string ⟨#[]⟩, .int .u8 0, .string ⟨#[]⟩, .bool false] := by
  unfold cutVal; rw [dif_neg (by omega)]

theorem parts_back (s : ByteArray) (k : Nat) (h : k < s.size) : s.extract 0 k ++ one (s[k]'h) ++ s.extract (k + 1) s.size = s := by
  apply bytes_ext
  have e : ∀ a b : ByteArray, (a ++ b).data.toList = a.data.toList ++ b.data.toList := fun a b => by simp [ByteArray.data_append]
  rw [e, e, extract_list, extract_list, one_list]
  have hl : s.data.toList.length = s.size := by simp
  have hk : s.data.toList[k]'(by omega) = s[k]'h := rfl
  rw [List.take_of_length_le (l := List.drop (k + 1) s.data.toList) (by simp), List.append_assoc, ← hk]
  simp only [List.drop_zero, Nat.sub_zero, List.cons_append, List.nil_append]
  rw [List.getElem_cons_drop, List.take_append_drop]

theorem join_back (s : ByteArray) (k : Nat) (w : World) (h : k < s.size) (hs : s.size ≤ 2000) :
    Calls Try.prog 19 #[.string (s.extract 0 k), .int .u8 ((s[k]'h).toNat : Int), .string (s.extract (k + 1) s.size)] w fun e w' => e = .returned (.string s) ∧ Below w.heap.size w w' := by
  refine (join_any _ _ _ w (by simp; omega) (by simp; omega)).mono ?_
  rintro e w' ⟨rfl, hb⟩
  exact ⟨by rw [parts_back], hb⟩

end Go.Proofs.Ythfbkmpljobagaa
