/- The operations among a law's arguments. -/
import Derived.Test.YtiifogbdoajnoaaKit
namespace Go.Proofs.Ytiifogbdoajnoaa
open Go.RowKit
set_option maxRecDepth 100000

def I64 (x : Int) : Prop := -9223372036854775808 ≤ x ∧ x ≤ 9223372036854775807
structure Dd where
  c : Int
  n : UInt8
  x : Int
  s : Int
  g : Int
def Dd.ok (d : Dd) : Prop := I64 d.c ∧ I64 d.x ∧ I64 d.s ∧ 0 ≤ d.g ∧ d.g ≤ 4294967295
def Dd.at' (W : World) (b o : Nat) (d : Dd) : Prop := W.cell? ⟨b, o, none⟩ = some (.int .i64 d.c) ∧ W.cell? ⟨b, o + 1, none⟩ = some (.int .u8 (d.n.toNat : Int)) ∧ W.cell? ⟨b, o + 2, none⟩ = some (.int .i64 d.x) ∧ W.cell? ⟨b, o + 3, none⟩ = some (.int .i64 d.s) ∧ W.cell? ⟨b, o + 4, none⟩ = some (.int .u32 d.g)
theorem Dd.at'.below {W W' : World} {b o : Nat} {d : Dd} (h : d.at' W b o) (hlt : b < W.heap.size) {n : Nat} (hn : b < n) (hb : Below n W W') : d.at' W' b o := by
  obtain ⟨a0, a1, a2, a3, a4⟩ := h
  exact ⟨by rw [hb.cell (p := ⟨b, o, none⟩) hn]; exact a0, by rw [hb.cell (p := ⟨b, o + 1, none⟩) hn]; exact a1, by rw [hb.cell (p := ⟨b, o + 2, none⟩) hn]; exact a2, by rw [hb.cell (p := ⟨b, o + 3, none⟩) hn]; exact a3, by rw [hb.cell (p := ⟨b, o + 4, none⟩) hn]; exact a4⟩
/-- The operations among a law's arguments. -/
def IsDeeds (W : World) (ao : Option Addr) (len : Nat) : Prop := len ≤ 9223372036854775807 ∧ (len = 0 ∨ ∃ g off, ao = some ⟨g, off, none⟩ ∧ g < W.heap.size ∧ ∀ i, i < len → ∃ d : Dd, d.ok ∧ d.at' W g (off + i * 5))
theorem IsDeeds.below {W W' : World} {ao : Option Addr} {len : Nat} (h : IsDeeds W ao len) (hb : Below W.heap.size W W') : IsDeeds W' ao len := by
  refine ⟨h.1, ?_⟩
  rcases h.2 with h | ⟨g, off, h1, h2, h3⟩
  · exact .inl h
  · refine .inr ⟨g, off, h1, Nat.lt_of_lt_of_le h2 hb.size, fun i hi => ?_⟩
    obtain ⟨d, hd, ha⟩ := h3 i hi
    exact ⟨d, hd, ha.below h2 h2 hb⟩
/-- The deed at i, in every later world. -/
theorem IsDeeds.at' {w : World} {ao : Option Addr} {len : Nat} (h : IsDeeds w ao len) (i : Nat) (hi : i < len) : ∃ g off, ao = some ⟨g, off, none⟩ ∧ ∃ d : Dd, d.ok ∧ ∀ W, Below w.heap.size w W → g < W.heap.size ∧ d.at' W g (off + i * 5) := by
  rcases h.2 with h | ⟨g, off, h1, h2, h3⟩
  · omega
  · obtain ⟨d, hd, ha⟩ := h3 i hi
    exact ⟨g, off, h1, d, hd, fun W hb => ⟨Nat.lt_of_lt_of_le h2 hb.size, ha.below h2 h2 hb⟩⟩
end Go.Proofs.Ytiifogbdoajnoaa
