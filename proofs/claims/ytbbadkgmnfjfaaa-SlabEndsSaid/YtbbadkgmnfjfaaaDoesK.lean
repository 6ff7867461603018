/- What each operation does to the slab and to its reference alike. -/
import Derived.Test.YtbbadkgmnfjfaaaSame
import Derived.Test.YtbbadkgmnfjfaaaInvC
import Derived.Test.YtbbadkgmnfjfaaaRow
import Derived.Test.YtbbadkgmnfjfaaaPick
import Derived.Test.YtbbadkgmnfjfaaaDeeds
import Derived.Test.YtbbadkgmnfjfaaaCount
namespace Go.Proofs.Ytbbadkgmnfjfaaa
open Go.RowKit
set_option maxRecDepth 100000
set_option maxHeartbeats 4000000

def Ints (s : Sb) : Prop := ∀ (j : Nat) (t : Ce), s.l[j]? = some t → ∃ v : Int, t.x = .int .i64 v
theorem Ints.set {s s' : Sb} {i : Nat} {t : Ce} {v : Int} (h : Ints s) (hl : s'.l = s.l.set i t) (ht : t.x = .int .i64 v) : Ints s' := fun j t' hj => by
  rw [hl, List.getElem?_set] at hj
  split at hj
  · split at hj
    · cases hj; exact ⟨v, ht⟩
    · cases hj
  · exact h j t' hj
theorem both_get {s : Sb} (hM : s.l.length ≤ 5000) (hx : Ints s) (p a g r gr : Nat) (x k : Int) : ∃ (v : Int) (c : Bool),
    (∀ W, Si.At W p a g s → Calls Try.prog 20 #[.pointer (some ⟨p, 0, none⟩), refV x k] W fun e w' => e = .returned (.tuple #[.int .i64 v, .bool c]) ∧ Below W.heap.size W w') ∧
    (∀ W, RAt W r gr s.l → Calls Try.prog 26 #[.pointer (some ⟨r, 0, none⟩), refV x k] W fun e w' => e = .returned (.tuple #[.int .i64 v, .bool c]) ∧ Below W.heap.size W w') := by
  cases hl : liveAt s x k with
  | none => exact ⟨0, false, fun W h => Si.get_none h x k hM hl, fun W h => rget_none h x k hl⟩
  | some i =>
    obtain ⟨_, t, ht, _, _⟩ := live_some hl
    obtain ⟨v, hv⟩ := hx i t ht
    refine ⟨v, true, fun W h => ?_, fun W h => ?_⟩
    · have := Si.get_some h x k hM i t hl ht
      rwa [hv] at this
    · have := rget_some h x k i t hl ht
      rwa [hv] at this
theorem both_free {s : Sb} {N b : Nat} (hW : Wf s N b) (hN : N ≤ 4096) (hb : b < 4294967295) (hx : Ints s) (p a g r gr : Nat) (x k : Int) : ∃ (v : Int) (s' : Sb),
    (∀ W, Si.At W p a g s → Calls Try.prog 14 #[.pointer (some ⟨p, 0, none⟩), refV x k] W fun e w' => e = .returned (.int .i64 v) ∧ Turned [a, g] W w' ∧ Si.At w' p a g s') ∧
    (∀ W, RAt W r gr s.l → Calls Try.prog 27 #[.pointer (some ⟨r, 0, none⟩), refV x k] W fun e w' => e = .returned (.int .i64 v) ∧ Turned [gr] W w' ∧ RAt w' r gr s'.l) ∧ Wf s' N b ∧ Ints s' := by
  obtain ⟨b1, b2, b3, b4, b5, b6⟩ := hW.bounds hN
  cases hl : liveAt s x k with
  | none => exact ⟨5, s, fun W h => (Si.free_none h x k b3 hl).mono fun e w' ⟨he, hb'⟩ => ⟨he, Turned.of_below hb', h.below hb'⟩,
      fun W h => (rfree_none h x k hl).mono fun e w' ⟨he, hb'⟩ => ⟨he, Turned.of_below hb', h.below hb'⟩, hW, hx⟩
  | some i =>
    obtain ⟨_, t, ht, htt, htu⟩ := live_some hl
    refine ⟨0, relSb (.int .i64 0) s i t.u, fun W h => Si.free_some h x k b3 b1 b2 i t hl ht, fun W h => ?_, hW.rel hb _ ht htt, hx.set rfl (by rfl)⟩
    have := rfree_some h x k i t hl ht
    rw [htu]
    exact this
theorem both_set {s : Sb} {N b : Nat} (hW : Wf s N b) (hN : N ≤ 4096) (hx : Ints s) (p a g r gr : Nat) (x k y : Int) : ∃ (v : Int) (s' : Sb),
    (∀ W, Si.At W p a g s → Calls Try.prog 19 #[.pointer (some ⟨p, 0, none⟩), refV x k, .int .i64 y] W fun e w' => e = .returned (.int .i64 v) ∧ Turned [a, g] W w' ∧ Si.At w' p a g s') ∧
    (∀ W, RAt W r gr s.l → Calls Try.prog 28 #[.pointer (some ⟨r, 0, none⟩), refV x k, .int .i64 y] W fun e w' => e = .returned (.int .i64 v) ∧ Turned [gr] W w' ∧ RAt w' r gr s'.l) ∧ Wf s' N b ∧ Ints s' := by
  obtain ⟨b1, b2, b3, b4, b5, b6⟩ := hW.bounds hN
  cases hl : liveAt s x k with
  | none => exact ⟨5, s, fun W h => (Si.set_none h x k y b3 hl).mono fun e w' ⟨he, hb'⟩ => ⟨he, Turned.of_below hb', h.below hb'⟩,
      fun W h => (rset_none h x k y hl).mono fun e w' ⟨he, hb'⟩ => ⟨he, Turned.of_below hb', h.below hb'⟩, hW, hx⟩
  | some i =>
    obtain ⟨_, t, ht, htt, htu⟩ := live_some hl
    exact ⟨0, _, fun W h => Si.set_some h x k y b3 i t hl ht, fun W h => rset_some h x k y i t hl ht, hW.setx _ ht, hx.set rfl (by rfl)⟩
theorem both_take {s : Sb} {N b : Nat} (hW : Wf s N b) (hN : N ≤ 4096) (hb : b < 4294967295) (hx : Ints s) (p a g r gr : Nat) (y : Int) : ∃ (i u v : Int) (s' : Sb), (v = 0 ∨ v = 14) ∧
    (∀ W, Si.At W p a g s → Calls Try.prog 12 #[.pointer (some ⟨p, 0, none⟩), .int .i64 y] W fun e w' => e = .returned (.tuple #[refV i u, .int .i64 v]) ∧ Turned [a, g] W w' ∧ Si.At w' p a g s') ∧
    (∀ W, RAt W r gr s.l → Calls Try.prog 30 #[.pointer (some ⟨r, 0, none⟩), .int .i64 y] W fun e w' => e = .returned (.tuple #[refV i u, .int .i64 v]) ∧ Turned [gr] W w' ∧ RAt w' r gr s'.l) ∧ Wf s' N (b + 1) ∧ Ints s' := by
  obtain ⟨b1, b2, b3, b4, b5, b6⟩ := hW.bounds hN
  rcases take_cases hW hb (.int .i64 y) with ⟨h1, h2⟩ | ⟨i, t, h1, h2, h3, h4, h5⟩
  · refine ⟨0, 0, 14, s, .inr rfl, fun W h => Si.Take_no h y _ b5 b6 b3 b4 b1 b2 h2, fun W h => ?_, hW.more (by omega), hx⟩
    refine (rtake_any h hW hN hx y).mono ?_
    rintro e w' (⟨_, he, hb'⟩ | ⟨i, u, s', e1, _⟩)
    · exact ⟨he, Turned.of_below hb', h.below hb'⟩
    · rw [h2] at e1; simp at e1
  · refine ⟨i, t.u + 1, 0, _, .inl rfl, fun W h => Si.Take_ok h y _ b5 b6 b3 b4 b1 b2 h4, fun W h => ?_, h5, hx.set rfl (by rfl)⟩
    refine (rtake_any h hW hN hx y).mono ?_
    rintro e w' (⟨e1, _⟩ | ⟨i', u', s', e1, he, hT, hR⟩)
    · rw [h4] at e1; simp at e1
    · rw [h4] at e1
      simp only [Prod.mk.injEq, Option.some.injEq] at e1
      obtain ⟨e2, e3, e4⟩ := e1
      subst e2 e3 e4
      exact ⟨he, hT, hR⟩

/-- The slab, its reference and the row of what was told, all above B. -/
structure St (B : Nat) (W : World) (p a g r gr : Nat) (s : Sb) (N b : Nat) (vt : Value) (T : List Rf) : Prop where
  sl : Si.At W p a g s
  rf : RAt W r gr s.l
  wf : Wf s N b
  nt : Ints s
  row : W.ownsRow B 36 2 vt T.length (rc T)
  lo : B ≤ p ∧ B ≤ a ∧ B ≤ g ∧ B ≤ r ∧ B ≤ gr
variable {B : Nat} {W W' : World} {p a g r gr : Nat} {s s' : Sb} {N b : Nat} {vt : Value} {T : List Rf}
theorem St.below (h : St B W p a g r gr s N b vt T) (hb : Below W.heap.size W W') : St B W' p a g r gr s N b vt T :=
  ⟨h.sl.below hb, h.rf.below hb, h.wf, h.nt, row_keep h.row fun k hk => hb.block k (h.row.lt k hk).2, h.lo⟩
/-- Behind an operation on both. -/
theorem St.both {c : Nat} {W2 : World} (h : St B W p a g r gr s N b vt T) (h1 : Turned [a, g] W W') (h2 : Turned [gr] W' W2) (hA : Si.At W' p a g s') (hR : RAt W2 r gr s'.l) (hW : Wf s' N c) (hx : Ints s') (hB : B ≤ W.heap.size) :
    St B W2 p a g r gr s' N c vt T ∧ Below B W W2 := by
  have hR' : RAt W' r gr s.l := h.rf.beside h.sl h1
  have hA2 : Si.At W2 p a g s' := hA.beside hR' h2
  obtain ⟨l1, l2, l3, l4, l5⟩ := h.lo
  refine ⟨⟨hA2, hR, hW, hx, row_keep h.row fun k hk => ?_, h.lo⟩, ?_⟩
  · have hlt := (h.row.lt k hk).2
    have n1 := row_apart h.row h.sl.ha (by decide)
    have n2 := row_apart h.row h.sl.hg (by decide)
    have n3 := row_apart h.row h.rf.hg (by decide)
    rw [h2.block k (by have := h1.size; omega) (by simp; rintro rfl; exact n3 hk)]
    exact h1.block k hlt (by simp; exact ⟨fun e => n1 (e ▸ hk), fun e => n2 (e ▸ hk)⟩)
  · exact Turned.below (Turned.below (Below.refl B W) h1 (by simp; omega) hB) h2 (by simp; omega) (by have := h1.size; omega)
/-- What does leaves. -/
def DoesP (B : Nat) (r gr N b : Nat) (W : World) (e : Ending) (w' : World) : Prop :=
  ∃ (p' a' g' : Nat) (s' : Sb) (vt' : Value) (T' : List Rf), e = .returned (.tuple #[.pointer (some ⟨p', 0, none⟩), vt', .bool true]) ∧ St B w' p' a' g' r gr s' N (b + 1) vt' T' ∧ T'.length ≤ b + 1 ∧ Below B W w'
end Go.Proofs.Ytbbadkgmnfjfaaa
