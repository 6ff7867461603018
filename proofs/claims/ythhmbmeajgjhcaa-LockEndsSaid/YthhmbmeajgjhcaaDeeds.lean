/- The operations among a law's arguments. -/
import Derived.Test.YthhmbmeajgjhcaaOps
import Derived.Test.YthhmbmeajgjhcaaPick
namespace Go.Proofs.Ythhmbmeajgjhcaa
open Go.RowKit
set_option maxRecDepth 100000

/-- The operations among a law's arguments. -/
def IsDeeds (W : World) (ao : Option Addr) (len : Nat) : Prop := len ≤ 9223372036854775807 ∧ (len = 0 ∨ ∃ g off, ao = some ⟨g, off, none⟩ ∧ g < W.heap.size ∧
  ∀ i, i < len → ∃ c x k v : Int, RefOk x k ∧ W64 v ∧ W.cell? ⟨g, off + i * 4, none⟩ = some (.int .i64 c) ∧ W.cell? ⟨g, off + i * 4 + 1, none⟩ = some (.int .i64 x) ∧ W.cell? ⟨g, off + i * 4 + 2, none⟩ = some (.int .u32 k) ∧ W.cell? ⟨g, off + i * 4 + 3, none⟩ = some (.int .u64 v))
theorem IsDeeds.below {W W' : World} {ao : Option Addr} {len : Nat} (h : IsDeeds W ao len) (hb : Below W.heap.size W W') : IsDeeds W' ao len := by
  refine ⟨h.1, ?_⟩
  rcases h.2 with h | ⟨g, off, h1, h2, h3⟩
  · exact .inl h
  · refine .inr ⟨g, off, h1, Nat.lt_of_lt_of_le h2 hb.size, fun i hi => ?_⟩
    obtain ⟨c, x, k, v, u1, u2, e0, e1, e2, e3⟩ := h3 i hi
    exact ⟨c, x, k, v, u1, u2, by rw [hb.cell (p := ⟨g, off + i * 4, none⟩) h2]; exact e0, by rw [hb.cell (p := ⟨g, off + i * 4 + 1, none⟩) h2]; exact e1, by rw [hb.cell (p := ⟨g, off + i * 4 + 2, none⟩) h2]; exact e2, by rw [hb.cell (p := ⟨g, off + i * 4 + 3, none⟩) h2]; exact e3⟩
/-- The deed at i, in every later world. -/
theorem IsDeeds.at' {w : World} {ao : Option Addr} {len : Nat} (h : IsDeeds w ao len) (i : Nat) (hi : i < len) : ∃ g off, ao = some ⟨g, off, none⟩ ∧ ∃ c x k v : Int, RefOk x k ∧ W64 v ∧ ∀ W, Below w.heap.size w W → g < W.heap.size ∧ W.cell? ⟨g, off + i * 4, none⟩ = some (.int .i64 c) ∧ W.cell? ⟨g, off + i * 4 + 1, none⟩ = some (.int .i64 x) ∧ W.cell? ⟨g, off + i * 4 + 2, none⟩ = some (.int .u32 k) ∧ W.cell? ⟨g, off + i * 4 + 3, none⟩ = some (.int .u64 v) := by
  rcases h.2 with h | ⟨g, off, h1, h2, h3⟩
  · omega
  · obtain ⟨c, x, k, v, u1, u2, e0, e1, e2, e3⟩ := h3 i hi
    exact ⟨g, off, h1, c, x, k, v, u1, u2, fun W hb => ⟨Nat.lt_of_lt_of_le h2 hb.size, by rw [hb.cell (p := ⟨g, off + i * 4, none⟩) h2]; exact e0, by rw [hb.cell (p := ⟨g, off + i * 4 + 1, none⟩) h2]; exact e1, by rw [hb.cell (p := ⟨g, off + i * 4 + 2, none⟩) h2]; exact e2, by rw [hb.cell (p := ⟨g, off + i * 4 + 3, none⟩) h2]; exact e3⟩⟩

end Go.Proofs.Ythhmbmeajgjhcaa
