/- The walk of Parse. -/
import Derived.Test.YtjkocklfnapdaaaDoorText
import Derived.Test.YtjkocklfnapdaaaDoorRefs
import Derived.WalkSmall
namespace Go.Proofs.YtjkocklfnapdaaaDoor
open Go.RowKit
set_option maxRecDepth 100000
set_option maxHeartbeats 1000000

/-- The library's two error variables hold errors. -/
def Errs (w : World) : Prop := (∃ tp p, w.var? Tryd.prog "strconv.ErrSyntax" = some #[.iface tp p]) ∧ (∃ tp p, w.var? Tryd.prog "strconv.ErrRange" = some #[.iface tp p])

theorem var_on {w w1 : World} (hb : Below w.heap.size w w1) {n : String} {cs : Array Value} (h : w.var? Tryd.prog n = some cs) : w1.var? Tryd.prog n = some cs := by
  unfold World.var? at *
  cases hg : Tryd.prog.globalNamed n with
  | none => simp [hg] at h
  | some g =>
    simp only [hg, Option.bind_some] at h ⊢
    have hlt : g < w.heap.size := by
      rcases Nat.lt_or_ge g w.heap.size with h1 | h1
      · exact h1
      · rw [Array.getElem?_eq_none h1] at h; simp at h
    rw [hb.block g hlt]; exact h

theorem Errs.on {w w1 : World} (h : Errs w) (hb : Below w.heap.size w w1) : Errs w1 := by
  obtain ⟨⟨a, b, h1⟩, ⟨c, d, h2⟩⟩ := h
  exact ⟨⟨a, b, var_on hb h1⟩, ⟨c, d, var_on hb h2⟩⟩

theorem pu_ok (s : ByteArray) (hs : s.size ≤ maxLen) (hb : s.size ≤ 281474976710656) (u : Nat) (h : Lib.parseUintB 64 s.data.toList = .ok u) (w : World) :
    Calls Tryd.prog 41 #[.string s, .int .i64 10, .int .i64 64] w fun e w' => e = .returned (.tuple #[.int .u64 u, .nilIface]) ∧ Below w.heap.size w w' := by
  refine (Tryd.strconv_ParseUint_10_at64_ok s (by omega) u h w).mono ?_
  rintro e w' ⟨rfl, rfl | rfl⟩
  · exact ⟨rfl, Below.refl _ _⟩
  · exact ⟨rfl, rfl, rfl, rfl, by rw [Lib.bytesWorld_size]; omega, fun k hk => Lib.bytesWorld_at_old _ _ _ _ hk⟩

theorem pu_bad (s : ByteArray) (hb : s.size ≤ 281474976710656) (h : ∀ u, Lib.parseUintB 64 s.data.toList ≠ .ok u) (w : World) (he : Errs w) :
    Calls Tryd.prog 41 #[.string s, .int .i64 10, .int .i64 64] w fun e w' => ∃ (x : Int) (N : Nat), e = .returned (.tuple #[.int .u64 x, .iface 63 (.pointer (some ⟨N, 0, none⟩))]) ∧ Below w.heap.size w w' := by
  obtain ⟨⟨a, b, h1⟩, ⟨c, d, h2⟩⟩ := he
  cases hp : Lib.parseUintB 64 s.data.toList
  case ok u => exact absurd hp (h u)
  case range =>
    refine (Tryd.strconv_ParseUint_10_at64_range_var s hb hp c d w h2).mono ?_
    rintro e w' ⟨N, rfl, _, _, hbw⟩
    exact ⟨_, N, rfl, hbw⟩
  · refine (Any.strconv_ParseUint_10_at64_syntax_var Tryd.laysPu14 s hb hp a b w h1).mono ?_
    rintro e w' ⟨N, rfl, _, _, hbw⟩
    exact ⟨_, N, rfl, hbw⟩

end Go.Proofs.YtjkocklfnapdaaaDoor
