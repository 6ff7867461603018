/- Take of a slab. -/
import Derived.Test.YtbbadkgmnfjfaaaTake
namespace Go.Proofs.Ytbbadkgmnfjfaaa.Si
open Go.RowKit Go.Shelf Go.Proofs.Ytbbadkgmnfjfaaa
set_option maxRecDepth 100000
set_option maxHeartbeats 4000000

/-- What Take leaves. -/
def TookS (W W' : World) (p a g : Nat) (s : Sb) (lo : Nat) (v : Value) (e : Ending) : Prop :=
  match (takeSb s lo v).2 with
  | none => e = .returned (.tuple #[refV 0 0, .int .i64 14]) ∧ Turned [a, g] W W' ∧ At W' p a g s
  | some (i, u) => e = .returned (.tuple #[refV i u, .int .i64 0]) ∧ Turned [a, g] W W' ∧ At W' p a g (takeSb s lo v).1

theorem take_any {w : World} {p a g : Nat} {s : Sb} (hA : At w p a g s) (y : Int) (lo : Nat) (hlo : lo ≤ s.l.length) (hlow : s.low = lo) (hM : s.l.length ≤ 5000) (hU : ∀ t ∈ s.l, 0 ≤ t.u) (hln : -10000 ≤ s.len ∧ s.len ≤ 10000) (hlf : -10000 ≤ s.left ∧ s.left ≤ 10000) :
    Calls Try.prog 34 #[.pointer (some ⟨a, 0, none⟩), .int .i64 y] w fun e W' => Took w W' p a g s lo (.int .i64 y) e :=
  callsIn_wide.1 (take_in 3 (by omega) hA y lo hlo hlow hM hU hln hlf)

theorem Take_any {w : World} {p a g : Nat} {s : Sb} (hA : At w p a g s) (y : Int) (lo : Nat) (hlo : lo ≤ s.l.length) (hlow : s.low = lo) (hM : s.l.length ≤ 5000) (hU : ∀ t ∈ s.l, 0 ≤ t.u) (hln : -10000 ≤ s.len ∧ s.len ≤ 10000) (hlf : -10000 ≤ s.left ∧ s.left ≤ 10000) :
    Calls Try.prog 12 #[.pointer (some ⟨p, 0, none⟩), .int .i64 y] w fun e W' => TookS w W' p a g s lo (.int .i64 y) e := by
  obtain ⟨W1, hW1⟩ : ∃ W1, W1 = w.alloc (.cells #[.int .i64 0, .int .u32 0] 36) := ⟨_, rfl⟩
  have HW := Lib.hid hW1
  have B1 : Below w.heap.size w W1 := by rw [hW1]; exact Below.new (Below.refl _ _) _
  have A1 : At W1 p a g s := hA.below B1
  have f4 : Fresh W1 w.heap.size #[.int .i64 0, .int .u32 0] 36 := by rw [hW1]; exact Fresh.new _ _ _ _ rfl
  have sz1 : W1.heap.size = w.heap.size + 1 := by rw [hW1]; simp
  have HI := Lib.hid (isNil_any A1)
  have HT := Lib.hid (take_any A1 y lo hlo hlow hM hU hln hlf)
  have hal := hA.ha.lt
  have hgl := hA.hg.lt
  have hpl := hA.hp.lt
  have na : w.heap.size ≠ a := by omega
  have ng : w.heap.size ≠ g := by omega
  have np : w.heap.size ≠ p := by omega
  obtain ⟨c, c0, c1, c2, c3⟩ := A1.cells
  have HF := Lib.hid (And.intro f4 (And.intro B1 A1))
  clear hA hU hlo hlow hM hln hlf hW1 B1 A1 f4 c0 c1 c2 c3
  have hcase : (takeSb s lo (.int .i64 y)).2 = none ∨ ∃ i u, (takeSb s lo (.int .i64 y)).2 = some (i, u) := by
    cases (takeSb s lo (.int .i64 y)).2 with
    | none => exact .inl rfl
    | some x => exact .inr ⟨x.1, x.2, rfl⟩
  have T0 : ∀ W' : World, Turned [a, g] W1 W' → Turned [a, g] w W' := fun W' h => (Turned.of_below HF.out.2.1).trans h
  rcases hcase with hn | ⟨i, u, hn⟩
  · have HT2 : Hid (Calls Try.prog 34 #[.pointer (some ⟨a, 0, none⟩), .int .i64 y] W1 fun e W' => e = .returned (.tuple #[refV 0 0, .bool false]) ∧ Turned [a, g] W1 W' ∧ At W' p a g s) := by
      refine HT.out.mono ?_
      intro e W' h
      unfold Took at h
      rw [hn] at h
      exact h
    have HE : Hid (∀ e W', (e = .returned (.tuple #[refV 0 0, .int .i64 14]) ∧ Turned [a, g] w W' ∧ At W' p a g s) → TookS w W' p a g s lo (.int .i64 y) e) := by
      intro e W' h
      unfold TookS
      rw [hn]
      exact h
    have HT0 := Lib.hid T0
    clear hn T0 HT
    go_enter Try.func12, Try.ntmps12
    go_upto_region 1 with fail
    rw [← HW.out]
    go_wp2_with fail
    refine HI.out.mono ?_
    rintro e w1 ⟨rfl, hw1⟩
    obtain rfl := hw1
    go_wp2_with fail
    refine HT2.out.mono ?_
    rintro e w2 ⟨rfl, ht2, ha2⟩
    have g4 := (ht2.other HF.out.1 (by simp; exact ⟨na, ng⟩))
    have HX := Lib.hid (And.intro ht2 (And.intro ha2 g4))
    have sz2 := ht2.size
    have y0 := g4.cell 0
    have y1 := g4.cell 1
    have y0' := g4.thawed 0
    have y1' := g4.thawed 1
    have hlt : w.heap.size < w2.heap.size := by omega
    clear ht2 ha2 g4 sz2
    go_wp2_with fail
    obtain ⟨ht2, ha2, g4⟩ := HX.out
    have k4 : Fresh (((w2.setCell ⟨w.heap.size, 0, none⟩ (.int .i64 0)).setCell ⟨w.heap.size, 1, none⟩ (.int .u32 0)).alloc (.cells #[.int .i64 0, .int .u32 0] 36)) w.heap.size #[.int .i64 0, .int .u32 0] 36 := by
      have := ((g4.set 0 (.int .i64 0)).set 1 (.int .u32 0)).alloc (.cells #[.int .i64 0, .int .u32 0] 36)
      simpa using this
    have u0 := k4.cell 0
    have u1 := k4.cell 1
    simp only [List.getElem?_toArray, List.getElem?_cons_succ, List.getElem?_cons_zero] at u0 u1
    refine bodyPost_ret (v := .tuple #[refV 0 0, .int .i64 14]) (by simp [results, Try.f12, go_sem, u0, u1]) rfl ?_
    refine HE.out _ _ ⟨rfl, ((((HT0.out _ ht2).setCell (.inr (Nat.le_refl _)) _ _).setCell (.inr (Nat.le_refl _)) _ _).alloc _), ?_⟩
    have := ((ha2.off np.symm na.symm ng.symm 0 (.int .i64 0)).off np.symm na.symm ng.symm 1 (.int .u32 0)).below (Below.new (Below.refl _ _) (.cells #[.int .i64 0, .int .u32 0] 36))
    exact this
  · have HT2 : Hid (Calls Try.prog 34 #[.pointer (some ⟨a, 0, none⟩), .int .i64 y] W1 fun e W' => e = .returned (.tuple #[refV i u, .bool true]) ∧ Turned [a, g] W1 W' ∧ At W' p a g (takeSb s lo (.int .i64 y)).1) := by
      refine HT.out.mono ?_
      intro e W' h
      unfold Took at h
      rw [hn] at h
      exact h
    have HE : Hid (∀ e W', (e = .returned (.tuple #[refV i u, .int .i64 0]) ∧ Turned [a, g] w W' ∧ At W' p a g (takeSb s lo (.int .i64 y)).1) → TookS w W' p a g s lo (.int .i64 y) e) := by
      intro e W' h
      unfold TookS
      rw [hn]
      exact h
    have HT0 := Lib.hid T0
    obtain ⟨s', hs'⟩ : ∃ s', (takeSb s lo (.int .i64 y)).1 = s' := ⟨_, rfl⟩
    rw [hs'] at HT2 HE
    clear hn T0 HT hs'
    go_enter Try.func12, Try.ntmps12
    go_upto_region 1 with fail
    rw [← HW.out]
    go_wp2_with fail
    refine HI.out.mono ?_
    rintro e w1 ⟨rfl, hw1⟩
    obtain rfl := hw1
    go_wp2_with fail
    refine HT2.out.mono ?_
    rintro e w2 ⟨rfl, ht2, ha2⟩
    have g4 := (ht2.other HF.out.1 (by simp; exact ⟨na, ng⟩))
    have HX := Lib.hid (And.intro ht2 (And.intro ha2 g4))
    have sz2 := ht2.size
    have y0 := g4.cell 0
    have y1 := g4.cell 1
    have y0' := g4.thawed 0
    have y1' := g4.thawed 1
    have hlt : w.heap.size < w2.heap.size := by omega
    clear ht2 ha2 g4 sz2
    go_wp2_with fail
    obtain ⟨ht2, ha2, g4⟩ := HX.out
    have k4 : Fresh (((w2.setCell ⟨w.heap.size, 0, none⟩ (.int .i64 i)).setCell ⟨w.heap.size, 1, none⟩ (.int .u32 u)).alloc (.cells #[.int .i64 i, .int .u32 u] 36)) w.heap.size #[.int .i64 i, .int .u32 u] 36 := by
      have := ((g4.set 0 (.int .i64 i)).set 1 (.int .u32 u)).alloc (.cells #[.int .i64 i, .int .u32 u] 36)
      simpa using this
    have u0 := k4.cell 0
    have u1 := k4.cell 1
    simp only [List.getElem?_toArray, List.getElem?_cons_succ, List.getElem?_cons_zero] at u0 u1
    refine bodyPost_ret (v := .tuple #[refV i u, .int .i64 0]) (by simp [results, Try.f12, go_sem, u0, u1]) rfl ?_
    refine HE.out _ _ ⟨rfl, ((((HT0.out _ ht2).setCell (.inr (Nat.le_refl _)) _ _).setCell (.inr (Nat.le_refl _)) _ _).alloc _), ?_⟩
    have := ((ha2.off np.symm na.symm ng.symm 0 (.int .i64 i)).off np.symm na.symm ng.symm 1 (.int .u32 u)).below (Below.new (Below.refl _ _) (.cells #[.int .i64 i, .int .u32 u] 36))
    exact this
theorem Take_ok {w : World} {p a g : Nat} {s s' : Sb} {i : Nat} {u : Int} (hA : At w p a g s) (y : Int) (lo : Nat) (hlo : lo ≤ s.l.length) (hlow : s.low = lo) (hM : s.l.length ≤ 5000) (hU : ∀ t ∈ s.l, 0 ≤ t.u) (hln : -10000 ≤ s.len ∧ s.len ≤ 10000) (hlf : -10000 ≤ s.left ∧ s.left ≤ 10000) (ht : takeSb s lo (.int .i64 y) = (s', some (i, u))) :
    Calls Try.prog 12 #[.pointer (some ⟨p, 0, none⟩), .int .i64 y] w fun e W' => e = .returned (.tuple #[refV i u, .int .i64 0]) ∧ Turned [a, g] w W' ∧ At W' p a g s' := by
  refine (Take_any hA y lo hlo hlow hM hU hln hlf).mono ?_
  intro e W' h
  unfold TookS at h
  rw [ht] at h
  exact h
theorem Take_no {w : World} {p a g : Nat} {s : Sb} (hA : At w p a g s) (y : Int) (lo : Nat) (hlo : lo ≤ s.l.length) (hlow : s.low = lo) (hM : s.l.length ≤ 5000) (hU : ∀ t ∈ s.l, 0 ≤ t.u) (hln : -10000 ≤ s.len ∧ s.len ≤ 10000) (hlf : -10000 ≤ s.left ∧ s.left ≤ 10000) (ht : takeSb s lo (.int .i64 y) = (s, none)) :
    Calls Try.prog 12 #[.pointer (some ⟨p, 0, none⟩), .int .i64 y] w fun e W' => e = .returned (.tuple #[refV 0 0, .int .i64 14]) ∧ Turned [a, g] w W' ∧ At W' p a g s := by
  refine (Take_any hA y lo hlo hlow hM hU hln hlf).mono ?_
  intro e W' h
  unfold TookS at h
  rw [ht] at h
  exact h
end Go.Proofs.Ytbbadkgmnfjfaaa.Si
