/- The walk of the law RealmTells. -/
import Derived.Test.YthkndfammlibpaaRSplit
namespace Go.Proofs.Ythkndfammlibpaa
open Go.RowKit
set_option maxRecDepth 100000
set_option maxHeartbeats 2000000

theorem tells_any (t : Int) (s x : ByteArray) (hs : s.size ≤ 1000) (hx : x.size ≤ 1000) (w : World) :
    Calls Try.prog 8 #[.int .i64 t, .string s, .string x] w fun e w' => e = .returned (.bool true) ∧ Below w.heap.size w w' := by
  obtain ⟨a, e1, hp⟩ : ∃ (a : ByteArray) (e : Int), prefixV t = .tuple #[.string a, .int .i64 e] := by
    unfold prefixV; split <;> exact ⟨_, _, rfl⟩
  obtain ⟨c, e2, hj⟩ : ∃ (a : ByteArray) (e : Int), joinV t s = .tuple #[.string a, .int .i64 e] := by
    unfold joinV; split
    · split <;> exact ⟨_, _, rfl⟩
    · exact ⟨_, _, rfl⟩
  obtain ⟨n, k, e3, hsp⟩ : ∃ (n : Int) (a : ByteArray) (e : Int), splitV x = .tuple #[.int .i64 n, .string a, .int .i64 e] := by
    unfold splitV; split
    · exact ⟨_, _, _, rfl⟩
    · split <;> exact ⟨_, _, _, rfl⟩
  obtain ⟨y, z, e4, hr⟩ : ∃ (a b : ByteArray) (e : Int), rangeV t = .tuple #[.string a, .string b, .int .i64 e] := by
    unfold rangeV; split <;> exact ⟨_, _, _, rfl⟩
  obtain ⟨o, b, ho⟩ : ∃ (o : Int) (b : Bool), ownerV x = .tuple #[.int .i64 o, .bool b] := by
    unfold ownerV; split <;> exact ⟨_, _, rfl⟩
  have P1 := prefixD_any t
  have P2 := rprefixD_any t
  have J1 := join_any t s (by unfold maxLen; omega)
  have J2 := rjoin_any t s (by unfold maxLen; omega)
  have S1 := split_any x (by omega)
  have S2 := rsplit_any x hx
  have R1 := range_any t
  have R2 := rrange_any t
  have O1 := owner_any x
  have O2 := rowner_any x (by omega)
  rw [hp] at P1 P2
  rw [hj] at J1 J2
  rw [hsp] at S1 S2
  rw [hr] at R1 R2
  rw [ho] at O1 O2
  have P1 := Lib.hid P1
  have P2 := Lib.hid P2
  have J1 := Lib.hid J1
  have J2 := Lib.hid J2
  have S1 := Lib.hid S1
  have S2 := Lib.hid S2
  have R1 := Lib.hid R1
  have R2 := Lib.hid R2
  have O1 := Lib.hid O1
  have O2 := Lib.hid O2
  clear hp hj hsp hr ho hs hx
  cases b
  all_goals
    go_enter Try.func8, Try.ntmps8
    go_wp2_with (first
      | (go_at_call 14; with_reducible refine (P1.out _).mono ?_; rintro e w1 ⟨rfl, hb1⟩)
      | (go_at_call 15; with_reducible refine (P2.out _).mono ?_; rintro e w2 ⟨rfl, hb2⟩)
      | (go_at_call 12; with_reducible refine (J1.out _).mono ?_; rintro e w3 ⟨rfl, hb3⟩)
      | (go_at_call 9; with_reducible refine (J2.out _).mono ?_; rintro e w4 ⟨rfl, hb4⟩)
      | (go_at_call 13; with_reducible refine (S1.out _).mono ?_; rintro e w5 ⟨rfl, hb5⟩)
      | (go_at_call 16; with_reducible refine (S2.out _).mono ?_; rintro e w6 ⟨rfl, hb6⟩)
      | (go_at_call 11; with_reducible refine (R1.out _).mono ?_; rintro e w7 ⟨rfl, hb7⟩)
      | (go_at_call 17; with_reducible refine (R2.out _).mono ?_; rintro e w8 ⟨rfl, hb8⟩)
      | (go_at_call 10; with_reducible refine (O1.out _).mono ?_; rintro e w9 ⟨rfl, hb9⟩)
      | (go_at_call 18; with_reducible refine (O2.out _).mono ?_; rintro e w10 ⟨rfl, hb10⟩))
    go_ret
    exact ⟨rfl, Below.step hb1 (Below.step hb2 (Below.step hb3 (Below.step hb4 (Below.step hb5 (Below.step hb6 (Below.step hb7 (Below.step hb8 (Below.step hb9 hb10))))))))⟩

theorem realmTells_any (t : Int) (s x : ByteArray) (w : World) (hs : s.size ≤ 140737488351232) (hx : x.size ≤ 140737488351232) :
    Calls Try.prog 3 #[.int .i64 t, .string s, .string x] w fun e w' => e = .returned (.bool true) ∧ Below w.heap.size w w' := by
  by_cases hb : 1000 < s.size + x.size
  · have k1 : (1000 : Int) < (s.size : Int) + (x.size : Int) := by omega
    go_enter Try.func3, Try.ntmps3
    go_wp2_with (go_at_call 7; refine (awake_any _).mono ?_; rintro e w1 ⟨rfl, hb1⟩)
    go_ret
    exact ⟨rfl, hb1⟩
  have k1 : (s.size : Int) + (x.size : Int) ≤ 1000 := by omega
  have HT := Lib.hid (tells_any t s x (by omega) (by omega))
  go_enter Try.func3, Try.ntmps3
  go_wp2_with (first
    | (go_at_call 8; with_reducible refine (HT.out _).mono ?_; rintro e w1 ⟨rfl, hb1⟩)
    | (go_at_call 7; refine (awake_any _).mono ?_; rintro e w2 ⟨rfl, hb2⟩))
  go_ret
  exact ⟨rfl, Below.step hb1 hb2⟩
theorem realmTells_walk {p : Prop} (t : Int) (s x : ByteArray) (w : World) (_ : p) (hs : s.size ≤ 140737488351232) (hx : x.size ≤ 140737488351232) :
    Calls Try.prog 3 #[.int .i64 t, .string s, .string x] w fun e w' => e = .returned (.bool true) ∧ Below w.heap.size w w' := realmTells_any t s x w hs hx
end Go.Proofs.Ythkndfammlibpaa
