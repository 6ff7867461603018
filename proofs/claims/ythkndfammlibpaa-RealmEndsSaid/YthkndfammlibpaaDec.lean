/- The walk of Decode. -/
import Derived.Test.YthkndfammlibpaaRall
import Derived.Tactics
import Derived.Tactics2
import Derived.Defers
import Derived.Recover
import Derived.Laws.Pointers
namespace Go.Proofs.Ythkndfammlibpaa
open Go.RowKit Go.Shelf
set_option maxRecDepth 100000
set_option maxHeartbeats 2000000

theorem catch_panicking (a b : Nat) (x y : Value) (s t : TypeId) (w : World) (ha : Fresh w a #[x] s) (hb : Fresh w b #[y] t) (hab : a ≠ b) :
    CallsD Try.prog 43 #[.pointer (some ⟨a, 0, none⟩), .pointer (some ⟨b, 0, none⟩)] (.panicking brk) w fun e u' w' =>
      e = .returned (.tuple #[]) ∧ (∃ pv, u' = .panicking [{ v := .iface 76 pv, recovered := true }]) ∧ w' = (w.setCell ⟨a, 0, none⟩ (.string ⟨#[]⟩)).setCell ⟨b, 0, none⟩ (.int .i64 4) := by
  have c1 : w.cell? ⟨a, 0, none⟩ = some x := (ha.cell 0).trans rfl
  have c2 := ha.thawed 0
  have hb' := hb.other (q := a) (Ne.symm hab) 0 (.string ⟨#[]⟩)
  have c3 : (w.setCell ⟨a, 0, none⟩ (.string ⟨#[]⟩)).cell? ⟨b, 0, none⟩ = some y := (hb'.cell 0).trans rfl
  have c4 := hb'.thawed 0
  refine callsD_of_wpS Try.func43 rfl fun c₀ cs hu => ?_
  apply wpS_seq
  apply wpS_region
  simp [wpOpsS, go_sem, recoverD, hu, Try.ntmps43, Exit.thenS, brk]
  refine wpS_cond (t := true) (by simp [Act.eval, Array.replicate]) ?_
  simp only [if_true]
  apply wpS_region
  simp [wpOpsS, go_sem, c1, c2, c3, c4, bodyPostS, results, Try.results43]

theorem catch_idle (a b : Nat) (w : World) :
    CallsD Try.prog 43 #[.pointer (some ⟨a, 0, none⟩), .pointer (some ⟨b, 0, none⟩)] .returning w fun e u' w' => e = .returned (.tuple #[]) ∧ u' = .returning ∧ w' = w := by
  refine callsD_of_wpS Try.func43 rfl fun c₀ cs hu => ?_
  apply wpS_seq
  apply wpS_region
  simp [wpOpsS, go_sem, recoverD, hu, Try.ntmps43, Exit.thenS]
  refine wpS_cond (t := false) (by simp [Act.eval, Array.replicate]) ?_
  simp only [Bool.false_eq_true, if_false]
  refine wpS_of_wp (wp_skip ?_)
  cases c₀
  simp_all [bodyPostS, results, Try.results43]

def decOf (l : List UInt8) : Value := match keyL l with
  | some xs => .tuple #[.string (bz xs), .int .i64 0]
  | none => .tuple #[.string ⟨#[]⟩, .int .i64 4]

theorem decode_in (l : List UInt8) (hl : l.length ≤ 1000000) (w : World) :
    Calls Try.prog 37 #[.string (bz l)] w fun e w' => e = .returned (decOf l) ∧ Below w.heap.size w w' := by
  have hmf := @makeFunc_run Try.prog
  go_enter_defers Try.func37, Try.ntmps37
  go_wp2_with fail
  obtain ⟨W3, hW3⟩ : ∃ W3, W3 = ((w.alloc (.cells #[.string ⟨#[]⟩] 9)).alloc (.cells #[.int .i64 0] 26)).alloc (.cells #[.string (bz l)] 71) := ⟨_, rfl⟩
  rw [← hW3]
  have hR : Rest W3 (w.heap.size + 1 + 1) (bz l) := by rw [hW3]; exact Fresh.new _ _ _ _ (by simp)
  have hA : Fresh W3 w.heap.size #[.string ⟨#[]⟩] 9 := by rw [hW3]; exact ((Fresh.new _ _ _ _ rfl).alloc _).alloc _
  have hB : Fresh W3 (w.heap.size + 1) #[.int .i64 0] 26 := by rw [hW3]; exact (Fresh.new _ _ _ _ (by simp)).alloc _
  have hL : Below w.heap.size w W3 := by rw [hW3]; exact (((Below.refl _ w).alloc (Nat.le_refl _) _).alloc (by simp) _).alloc (by simp; omega) _
  have hs : W3.heap.size = w.heap.size + 3 := by rw [hW3]; simp
  clear hW3
  refine (calls_of_exi (all_in 6 (by omega) _ l hl W3 hR)).mono ?_
  rintro e w4 ⟨he, ht⟩
  have hA4 := ht.other hA (by simp; omega)
  have hB4 := ht.other hB (by simp)
  have hL4 : Below w.heap.size w w4 := ht.below hL (by simp; omega) (by omega)
  clear ht hA hB hL hR hs
  cases hk : keyL l with
  | some xs =>
    obtain rfl : e = .returned (.string (bz xs)) := by rw [he, outOf, hk]
    have hd : decOf l = .tuple #[.string (bz xs), .int .i64 0] := by rw [decOf, hk]
    have HD := Lib.hid hd
    clear he hk hd
    have c1 : w4.cell? ⟨w.heap.size, 0, none⟩ = some (.string ⟨#[]⟩) := (hA4.cell 0).trans rfl
    have c2 := hA4.thawed 0
    have hb5 := hB4.other (q := w.heap.size) (by omega) 0 (.string (bz xs))
    have c3 : (w4.setCell ⟨w.heap.size, 0, none⟩ (.string (bz xs))).cell? ⟨w.heap.size + 1, 0, none⟩ = some (.int .i64 0) := (hb5.cell 0).trans rfl
    have c4 := hb5.thawed 0
    have HA := Lib.hid hA4
    have HB := Lib.hid hB4
    have HL := Lib.hid hL4
    clear hA4 hB4 hL4 hb5
    go_wp2
    refine leaves_cons (f := 43) (args := #[.pointer (some ⟨w.heap.size, 0, none⟩), .pointer (some ⟨w.heap.size + 1, 0, none⟩)]) (by simp) (by simp [go_sem]) ?_
    refine (catch_idle w.heap.size (w.heap.size + 1) _).mono ?_
    rintro e u' w'' ⟨rfl, rfl, rfl⟩
    have e1 : Fresh ((w4.setCell ⟨w.heap.size, 0, none⟩ (.string (bz xs))).setCell ⟨w.heap.size + 1, 0, none⟩ (.int .i64 0)) w.heap.size #[.string (bz xs)] 9 := (HA.out.set 0 _).other (by omega) 0 _
    have e2 : Fresh ((w4.setCell ⟨w.heap.size, 0, none⟩ (.string (bz xs))).setCell ⟨w.heap.size + 1, 0, none⟩ (.int .i64 0)) (w.heap.size + 1) #[.int .i64 0] 26 := (HB.out.other (by omega) 0 _).set 0 _
    have e3 : Below w.heap.size w ((w4.setCell ⟨w.heap.size, 0, none⟩ (.string (bz xs))).setCell ⟨w.heap.size + 1, 0, none⟩ (.int .i64 0)) := (HL.out.setCell (p := ⟨w.heap.size, 0, none⟩) (Nat.le_refl _) _).setCell (p := ⟨w.heap.size + 1, 0, none⟩) (by simp) _
    obtain ⟨W5, hW5⟩ : ∃ W5, (w4.setCell ⟨w.heap.size, 0, none⟩ (.string (bz xs))).setCell ⟨w.heap.size + 1, 0, none⟩ (.int .i64 0) = W5 := ⟨_, rfl⟩
    rw [hW5] at e1 e2 e3 ⊢
    have f1 : W5.cell? ⟨w.heap.size, 0, none⟩ = some (.string (bz xs)) := (e1.cell 0).trans rfl
    have f2 : W5.cell? ⟨w.heap.size + 1, 0, none⟩ = some (.int .i64 0) := (e2.cell 0).trans rfl
    refine ⟨.tuple #[.string (bz xs), .int .i64 0], ?_, ?_, e3⟩
    · simp [results, Try.results37, go_sem, f1, f2]
    · rw [HD.out]
  | none =>
    obtain rfl : e = .panicked brk := by rw [he, outOf, hk]
    have hd : decOf l = .tuple #[.string ⟨#[]⟩, .int .i64 4] := by rw [decOf, hk]
    have HD := Lib.hid hd
    clear he hk hd
    go_wp2
    refine leaves_cons (f := 43) (args := #[.pointer (some ⟨w.heap.size, 0, none⟩), .pointer (some ⟨w.heap.size + 1, 0, none⟩)]) (by simp) (by simp [go_sem]) ?_
    refine (catch_panicking w.heap.size (w.heap.size + 1) _ _ _ _ _ hA4 hB4 (by omega)).mono ?_
    rintro e u' w'' ⟨rfl, ⟨pv, rfl⟩, rfl⟩
    have e1 : Fresh ((w4.setCell ⟨w.heap.size, 0, none⟩ (.string ⟨#[]⟩)).setCell ⟨w.heap.size + 1, 0, none⟩ (.int .i64 4)) w.heap.size #[.string ⟨#[]⟩] 9 := (hA4.set 0 _).other (by omega) 0 _
    have e2 : Fresh ((w4.setCell ⟨w.heap.size, 0, none⟩ (.string ⟨#[]⟩)).setCell ⟨w.heap.size + 1, 0, none⟩ (.int .i64 4)) (w.heap.size + 1) #[.int .i64 4] 26 := (hB4.other (by omega) 0 _).set 0 _
    have e3 : Below w.heap.size w ((w4.setCell ⟨w.heap.size, 0, none⟩ (.string ⟨#[]⟩)).setCell ⟨w.heap.size + 1, 0, none⟩ (.int .i64 4)) := (hL4.setCell (p := ⟨w.heap.size, 0, none⟩) (Nat.le_refl _) _).setCell (p := ⟨w.heap.size + 1, 0, none⟩) (by simp) _
    obtain ⟨W5, hW5⟩ : ∃ W5, (w4.setCell ⟨w.heap.size, 0, none⟩ (.string ⟨#[]⟩)).setCell ⟨w.heap.size + 1, 0, none⟩ (.int .i64 4) = W5 := ⟨_, rfl⟩
    rw [hW5] at e1 e2 e3 ⊢
    have f1 : W5.cell? ⟨w.heap.size, 0, none⟩ = some (.string ⟨#[]⟩) := (e1.cell 0).trans rfl
    have f2 : W5.cell? ⟨w.heap.size + 1, 0, none⟩ = some (.int .i64 4) := (e2.cell 0).trans rfl
    refine ⟨.tuple #[.string ⟨#[]⟩, .int .i64 4], ?_, ?_, e3⟩
    · simp [results, Try.results37, go_sem, f1, f2]
    · rw [HD.out]
end Go.Proofs.Ythkndfammlibpaa
