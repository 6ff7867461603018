/- A table with one reference, and the chapter's example. -/
import Derived.Test.YthhmbmeajgjhcaaAll
namespace Go.Proofs.Ythhmbmeajgjhcaa
open Go.RowKit
set_option maxRecDepth 100000
set_option maxHeartbeats 8000000

/-- The table of the one reference (0, 1). -/
def lk (t n : Int) : Lk := ⟨heldN n, t, [⟨0, 1, n⟩]⟩
theorem lk_ok (t n : Int) (h : W64 n) (h0 : 0 ≤ t) (N : Int) (hN : t ≤ N) (h1 : 1 ≤ N) : (lk t n).Ok N :=
  ⟨List.pairwise_singleton _ _, fun u hu => by simp [lk] at hu; subst hu; exact h, by simp [lk, sumH], by show ((1 : Nat) : Int) ≤ N; omega, h0, hN⟩
theorem r01 : RefOk 0 1 := ⟨by decide, by decide⟩
theorem lk_get (t n : Int) : getW (lk t n).l 0 1 = some ⟨0, 1, n⟩ := rfl
theorem lk_put (t n v : Int) : putW (lk t n).l 0 1 v = [⟨0, 1, v⟩] := rfl
section
variable {W : World} {p a m : Nat} {t n : Int}
theorem lk_begin (h : At W p a m (lk t n)) (hw : W64 n) : Calls Try.prog 12 #[.pointer (some ⟨p, 0, none⟩), refV 0 1] W fun e w' => e = .returned (.tuple #[.int .u64 n, .int .i64 (stN n)]) ∧ Below W.heap.size W w' :=
  begin_any h 0 1 r01 (fun u hu => by simp [lk] at hu; subst hu; exact hw)
theorem lk_check (h : At W p a m (lk t n)) (v : Int) : Calls Try.prog 15 #[.pointer (some ⟨p, 0, none⟩), refV 0 1, .int .u64 v] W fun e w' => e = .returned (.bool (n == v)) ∧ Below W.heap.size W w' := by
  have := check_any h 0 1 v r01
  rw [lk_get] at this
  simpa [zeroW] using this
theorem lk_yes (h : At W p a m (lk t n)) (hw : W64 n) (h0 : 0 ≤ t) (h1 : t ≤ 1000) (h4 : n % 4 = 0) : Calls Try.prog 16 #[.pointer (some ⟨p, 0, none⟩), refV 0 1, .int .u64 n] W fun e w' => e = .returned (.bool true) ∧ Turned [a, m] W w' ∧ At w' p a m (lk (t + 1) (n + 1)) := by
  have := lock_any h (lk_ok t n hw h0 1000 h1 (by decide)) (by decide) 0 1 n r01
  have e1 : lockB (lk t n) 0 1 n = true := by unfold lockB; rw [lk_get]; simp [zeroW, h4]
  have e2 : lockS (lk t n) 0 1 n = lk (t + 1) (n + 1) := by
    unfold lockS
    rw [e1, if_pos rfl, lk_put]
    have e3 : heldN n = 0 := by unfold heldN; rw [if_neg (by omega)]
    have e4 : heldN (n + 1) = 1 := by unfold heldN; rw [if_pos (by omega)]
    show (⟨heldN n + 1, t + 1, _⟩ : Lk) = ⟨heldN (n + 1), t + 1, _⟩
    rw [e3, e4]
    rfl
  rw [e1, e2] at this
  exact this
theorem lk_no (h : At W p a m (lk t n)) (hw : W64 n) (h0 : 0 ≤ t) (h1 : t ≤ 1000) (v : Int) (h4 : ¬ (n = v ∧ v % 4 = 0)) : Calls Try.prog 16 #[.pointer (some ⟨p, 0, none⟩), refV 0 1, .int .u64 v] W fun e w' => e = .returned (.bool false) ∧ Turned [a, m] W w' ∧ At w' p a m (lk t n) := by
  have := lock_any h (lk_ok t n hw h0 1000 h1 (by decide)) (by decide) 0 1 v r01
  have e1 : lockB (lk t n) 0 1 v = false := by
    unfold lockB
    rw [lk_get]
    simp only [Option.isSome_some, zeroW, Bool.true_and, Bool.and_eq_false_iff, beq_eq_false_iff_ne, ne_eq]
    by_cases e : n = v
    · exact .inr (fun e2 => h4 ⟨e, e2⟩)
    · exact .inl e
  have e2 : lockS (lk t n) 0 1 v = lk t n := by unfold lockS; rw [e1, if_neg (by decide)]
  rw [e1, e2] at this
  exact this
theorem rel_yes (f : Int → Int) (h4 : n % 4 = 1) (hf : ¬ f n % 4 = 1) : relS f (lk t n) 0 1 = (lk t (f n), 0) := by
  unfold relS
  rw [lk_get]
  dsimp only
  rw [if_pos h4, lk_put]
  have e3 : heldN n = 1 := by unfold heldN; rw [if_pos h4]
  have e4 : heldN (f n) = 0 := by unfold heldN; rw [if_neg hf]
  show ((⟨heldN n - 1, t, _⟩ : Lk), (0 : Int)) = (⟨heldN (f n), t, _⟩, 0)
  rw [e3, e4]
  rfl
theorem rel_no (f : Int → Int) (h4 : ¬ n % 4 = 1) : relS f (lk t n) 0 1 = (lk t n, 15) := by
  unfold relS
  rw [lk_get]
  dsimp only
  rw [if_neg h4]
theorem lk_drop1 (h : At W p a m (lk t n)) (hw : W64 n) (h0 : 0 ≤ t) (h1 : t ≤ 1000) (h4 : n % 4 = 1) : Calls Try.prog 17 #[.pointer (some ⟨p, 0, none⟩), refV 0 1] W fun e w' => e = .returned (.int .i64 0) ∧ Turned [a, m] W w' ∧ At w' p a m (lk t (n - 1)) := by
  have := drop_any h (lk_ok t n hw h0 1000 h1 (by decide)) (by decide) 0 1 r01
  rw [rel_yes _ h4 (by omega)] at this
  exact this
theorem lk_drop0 (h : At W p a m (lk t n)) (hw : W64 n) (h0 : 0 ≤ t) (h1 : t ≤ 1000) (h4 : ¬ n % 4 = 1) : Calls Try.prog 17 #[.pointer (some ⟨p, 0, none⟩), refV 0 1] W fun e w' => e = .returned (.int .i64 15) ∧ Turned [a, m] W w' ∧ At w' p a m (lk t n) := by
  have := drop_any h (lk_ok t n hw h0 1000 h1 (by decide)) (by decide) 0 1 r01
  rw [rel_no _ h4] at this
  exact this
theorem lk_done1 (h : At W p a m (lk t n)) (hw : W64 n) (h0 : 0 ≤ t) (h1 : t ≤ 1000) (h4 : n % 4 = 1) (hb : n ≤ 1000000) : Calls Try.prog 18 #[.pointer (some ⟨p, 0, none⟩), refV 0 1] W fun e w' => e = .returned (.int .i64 0) ∧ Turned [a, m] W w' ∧ At w' p a m (lk t (n + 3)) := by
  have := done_any h (lk_ok t n hw h0 1000 h1 (by decide)) (by decide) 0 1 r01
  have e : doneV n = n + 3 := by unfold doneV; have := hw.1; omega
  rw [rel_yes _ h4 (by omega), e] at this
  exact this
theorem lk_done0 (h : At W p a m (lk t n)) (hw : W64 n) (h0 : 0 ≤ t) (h1 : t ≤ 1000) (h4 : ¬ n % 4 = 1) : Calls Try.prog 18 #[.pointer (some ⟨p, 0, none⟩), refV 0 1] W fun e w' => e = .returned (.int .i64 15) ∧ Turned [a, m] W w' ∧ At w' p a m (lk t n) := by
  have := done_any h (lk_ok t n hw h0 1000 h1 (by decide)) (by decide) 0 1 r01
  rw [rel_no _ h4] at this
  exact this
theorem lk_kill1 (h : At W p a m (lk t n)) (hw : W64 n) (h0 : 0 ≤ t) (h1 : t ≤ 1000) (h4 : n % 4 = 1) (hb : n ≤ 1000000) : Calls Try.prog 19 #[.pointer (some ⟨p, 0, none⟩), refV 0 1] W fun e w' => e = .returned (.int .i64 0) ∧ Turned [a, m] W w' ∧ At w' p a m (lk t (n + 5)) := by
  have := kill_any h (lk_ok t n hw h0 1000 h1 (by decide)) (by decide) 0 1 r01
  have e : killV n = n + 5 := by unfold killV; have := hw.1; omega
  rw [rel_yes _ h4 (by omega), e] at this
  exact this
theorem lk_kill0 (h : At W p a m (lk t n)) (hw : W64 n) (h0 : 0 ≤ t) (h1 : t ≤ 1000) (h4 : ¬ n % 4 = 1) : Calls Try.prog 19 #[.pointer (some ⟨p, 0, none⟩), refV 0 1] W fun e w' => e = .returned (.int .i64 15) ∧ Turned [a, m] W w' ∧ At w' p a m (lk t n) := by
  have := kill_any h (lk_ok t n hw h0 1000 h1 (by decide)) (by decide) 0 1 r01
  rw [rel_no _ h4] at this
  exact this
theorem lk_held (h : At W p a m (lk t n)) : Calls Try.prog 20 #[.pointer (some ⟨p, 0, none⟩)] W fun e w' => e = .returned (.int .i64 (heldN n)) ∧ w' = W := held_any h
theorem lk_add (h : At W p a m ⟨0, 0, []⟩) : Calls Try.prog 13 #[.pointer (some ⟨p, 0, none⟩), refV 0 1] W fun e w' => e = .returned (.int .i64 0) ∧ Turned [a, m] W w' ∧ At w' p a m (lk 0 0) := add_any h 0 1 r01
end
theorem one_any (w : World) : Calls Try.prog 11 #[] w fun e w' => e = .returned (refV 0 1) ∧ Below w.heap.size w w' := by
  go_enter Try.func11, Try.ntmps11
  go_wp2_with fail
  exact bodyPost_ret (v := refV 0 1) (by simp [results, Try.results11, go_sem]) rfl ⟨rfl, Below.new (Below.refl _ _) _⟩

/-- A table and the box of the reference, behind the world w. -/
structure On (w W : World) (p a m q : Nat) (t n : Int) : Prop where
  at' : At W p a m (lk t n)
  box : Fresh W q #[.int .i64 0, .int .u32 1] 33
  low : Below w.heap.size w W
  ge : ∀ k ∈ [a, m], w.heap.size ≤ k
  ne : q ∉ [a, m]
theorem On.below {w W W' : World} {p a m q : Nat} {t n : Int} (h : On w W p a m q t n) (hb : Below W.heap.size W W') : On w W' p a m q t n :=
  ⟨h.at'.below hb, h.box.below hb, Below.step h.low hb, h.ge, h.ne⟩
theorem On.drew {w W : World} {p a m q : Nat} {t n : Int} (h : On w W p a m q t n) : On w W.drew p a m q t n := h.below (Below.refl _ _).drew
theorem On.turned {w W W' : World} {p a m q : Nat} {t n t' n' : Int} (h : On w W p a m q t n) (ht : Turned [a, m] W W') (ha : At W' p a m (lk t' n')) : On w W' p a m q t' n' :=
  ⟨ha, ht.other h.box h.ne, ht.below h.low h.ge h.low.size, h.ge, h.ne⟩
theorem On.ref {w W : World} {p a m q : Nat} {t n : Int} (h : On w W p a m q t n) : W.cell? ⟨q, 0, none⟩ = some (.int .i64 0) ∧ W.cell? ⟨q, 1, none⟩ = some (.int .u32 1) := ⟨h.box.cell 0, h.box.cell 1⟩
end Go.Proofs.Ythhmbmeajgjhcaa
