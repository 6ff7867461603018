/- handle.Asks: a look into a map literal. -/
import Derived.Test.YtcfkaginjcgmhaaDoorMath
import Derived.Maps.Own
import Derived.Maps.OwnOps
namespace Go.Proofs.YtcfkaginjcgmhaaDoor
open Go.RowKit Go.Maps
set_option maxRecDepth 100000

/-- P16.1: the right that a deed asks for; 0: none. -/
def asksN (d : Int) : Nat := if d = 1 ∨ d = 6 then 1 else if d = 2 ∨ d = 3 ∨ d = 4 then 2 else if d = 5 then 4 else 0

theorem set_new (w : World) (o o' : Obj) : { w.alloc o with heap := (w.alloc o).heap.setIfInBounds w.heap.size o' } = w.alloc o' := by
  have e : (w.heap.push o).setIfInBounds w.heap.size o' = w.heap.push o' := by
    apply Array.ext_getElem?
    intro i
    rw [Array.getElem?_setIfInBounds, Array.getElem?_push, Array.getElem?_push]
    by_cases h : w.heap.size = i
    · subst h; simp
    · rw [if_neg h, if_neg (fun e => h e.symm), if_neg (fun e => h e.symm)]
  show World.mk _ _ _ _ _ = World.mk _ _ _ _ _
  rw [show (w.alloc o).heap = w.heap.push o from rfl, e]
  rfl

def ent (k v : Int) (b : Nat) : MapEntry := { key := .int .i64 k, val := .int .u8 v, born := b }

theorem ins_int (es : Array MapEntry) (c : Nat) (k v : Int) (hf : Instr.findNow (.int .i64) (.int .i64 k) es.toList 0 = some none) (w : World) :
    (Instr.mapUpdate 55 (.map (some w.heap.size)) (.int .i64 k) (.int .u8 v)).run Tryd.prog (w.alloc (.map es c)) = .ok () (w.alloc (.map (es.push (ent k v c)) (c + 1))) := by
  have hb : (w.alloc (.map es c)).heap[w.heap.size]? = some (.map es c) := heap_alloc_new w _
  have hk : Tryd.prog.underlying 26 = some (.int .i64) := Tryd.underlying26
  have hc : (Instr.checkKey false 10000 26 (.int .i64 k)).run Tryd.prog (w.alloc (.map es c)) = .ok () (w.alloc (.map es c)) := MapKept.run_checkKey hk (show MapKept.IsKey (.int .i64) (.int .i64 k) from rfl) false 9999
  have h := set_new w (.map es c) (.map (es.push (ent k v c)) (c + 1))
  simp [Instr.mapUpdate, run_underlying Tryd.underlying55, MapKept.run_getObj_map hb, hc, MapKept.run_findKey hk hf, MapKept.run_setObj_map _ hb, Result.andThen]
  exact h

theorem look_yes (es : Array MapEntry) (c : Nat) (k v : Int) (i : Nat) (hf : Instr.findNow (.int .i64) (.int .i64 k) es.toList 0 = some (some (i, .int .u8 v))) (w W : World) (hb : W.heap[w.heap.size]? = some (.map es c)) :
    (Instr.lookup 55 (.map (some w.heap.size)) (.int .i64 k) true).run Tryd.prog W = .ok (.tuple #[.int .u8 v, .bool true]) W := by
  have hk : Tryd.prog.underlying 26 = some (.int .i64) := Tryd.underlying26
  have hc : (Instr.checkKey es.isEmpty 10000 26 (.int .i64 k)).run Tryd.prog W = .ok () W := MapKept.run_checkKey hk (show MapKept.IsKey (.int .i64) (.int .i64 k) from rfl) _ 9999
  simp [Instr.lookup, run_underlying Tryd.underlying55, MapKept.run_getObj_map hb, hc, MapKept.run_findKey hk hf, Result.andThen]

theorem look_no (es : Array MapEntry) (c : Nat) (k : Int) (hf : Instr.findNow (.int .i64) (.int .i64 k) es.toList 0 = some none) (w W : World) (hb : W.heap[w.heap.size]? = some (.map es c)) :
    (Instr.lookup 55 (.map (some w.heap.size)) (.int .i64 k) true).run Tryd.prog W = .ok (.tuple #[.int .u8 0, .bool false]) W := by
  have hk : Tryd.prog.underlying 26 = some (.int .i64) := Tryd.underlying26
  have hc : (Instr.checkKey es.isEmpty 10000 26 (.int .i64 k)).run Tryd.prog W = .ok () W := MapKept.run_checkKey hk (show MapKept.IsKey (.int .i64) (.int .i64 k) from rfl) _ 9999
  have hz : (zeroValue 23).run Tryd.prog W = .ok (.int .u8 0) W := by kernel_rfl
  simp [Instr.lookup, run_underlying Tryd.underlying55, MapKept.run_getObj_map hb, hc, MapKept.run_findKey hk hf, Result.andThen, hz]

def asksE : Array MapEntry := #[ent 1 1 0, ent 6 1 1, ent 2 2 2, ent 3 2 3, ent 4 2 4, ent 5 4 5]
theorem find_no (d : Int) (h : asksN d = 0) : Instr.findNow (.int .i64) (.int .i64 d) asksE.toList 0 = some none := by
  rcases MapKept.findNow_spec (d := .int .i64) (k := .int .i64 d) rfl asksE.toList 0 (by simp [asksE, ent, MapKept.IsKey]) with ⟨h1, _⟩ | ⟨j, e, _, h2, h3⟩
  · exact h1
  · have hm := List.mem_of_getElem? h2
    unfold asksN at h
    simp only [asksE, List.mem_cons, List.not_mem_nil, or_false] at hm
    rcases hm with rfl | rfl | rfl | rfl | rfl | rfl <;> (simp [ent] at h3; subst h3; simp at h)
theorem look_asks (d : Int) (w : World) :
    (Instr.lookup 55 (.map (some w.heap.size)) (.int .i64 d) true).run Tryd.prog (w.alloc (.map asksE 6)) = .ok (.tuple #[.int .u8 (asksN d), .bool (decide (asksN d ≠ 0))]) (w.alloc (.map asksE 6)) := by
  by_cases h : asksN d = 0
  · have := look_no asksE 6 d (find_no d h) w _ (heap_alloc_new w _)
    rw [h]; exact this
  · have hd : d = 1 ∨ d = 6 ∨ d = 2 ∨ d = 3 ∨ d = 4 ∨ d = 5 := by unfold asksN at h; split at h <;> (try split at h) <;> (try split at h) <;> omega
    rcases hd with rfl | rfl | rfl | rfl | rfl | rfl
    · exact look_yes asksE 6 1 1 0 rfl w _ (heap_alloc_new w _)
    · exact look_yes asksE 6 6 1 1 rfl w _ (heap_alloc_new w _)
    · exact look_yes asksE 6 2 2 2 rfl w _ (heap_alloc_new w _)
    · exact look_yes asksE 6 3 2 3 rfl w _ (heap_alloc_new w _)
    · exact look_yes asksE 6 4 2 4 rfl w _ (heap_alloc_new w _)
    · exact look_yes asksE 6 5 4 5 rfl w _ (heap_alloc_new w _)

set_option maxHeartbeats 4000000 in
theorem asks_any (d : Int) (w : World) :
    Calls Tryd.prog 18 #[.int .i64 d] w fun e w' => e = .returned (.tuple #[.int .u8 (asksN d), .bool (decide (asksN d ≠ 0))]) ∧ Below w.heap.size w w' := by
  have HL := Lib.hid (look_asks d)
  have i1 : ∀ w : World, (Instr.mapUpdate 55 (.map (some w.heap.size)) (.int .i64 1) (.int .u8 1)).run Tryd.prog (w.alloc (.map #[] 0)) = .ok () (w.alloc (.map #[ent 1 1 0] 1)) := fun w => ins_int #[] 0 1 1 rfl w
  have i2 : ∀ w : World, (Instr.mapUpdate 55 (.map (some w.heap.size)) (.int .i64 6) (.int .u8 1)).run Tryd.prog (w.alloc (.map #[ent 1 1 0] 1)) = .ok () (w.alloc (.map #[ent 1 1 0, ent 6 1 1] 2)) := fun w => ins_int #[ent 1 1 0] 1 6 1 rfl w
  have i3 : ∀ w : World, (Instr.mapUpdate 55 (.map (some w.heap.size)) (.int .i64 2) (.int .u8 2)).run Tryd.prog (w.alloc (.map #[ent 1 1 0, ent 6 1 1] 2)) = .ok () (w.alloc (.map #[ent 1 1 0, ent 6 1 1, ent 2 2 2] 3)) := fun w => ins_int #[ent 1 1 0, ent 6 1 1] 2 2 2 rfl w
  have i4 : ∀ w : World, (Instr.mapUpdate 55 (.map (some w.heap.size)) (.int .i64 3) (.int .u8 2)).run Tryd.prog (w.alloc (.map #[ent 1 1 0, ent 6 1 1, ent 2 2 2] 3)) = .ok () (w.alloc (.map #[ent 1 1 0, ent 6 1 1, ent 2 2 2, ent 3 2 3] 4)) := fun w => ins_int #[ent 1 1 0, ent 6 1 1, ent 2 2 2] 3 3 2 rfl w
  have i5 : ∀ w : World, (Instr.mapUpdate 55 (.map (some w.heap.size)) (.int .i64 4) (.int .u8 2)).run Tryd.prog (w.alloc (.map #[ent 1 1 0, ent 6 1 1, ent 2 2 2, ent 3 2 3] 4)) = .ok () (w.alloc (.map #[ent 1 1 0, ent 6 1 1, ent 2 2 2, ent 3 2 3, ent 4 2 4] 5)) := fun w => ins_int #[ent 1 1 0, ent 6 1 1, ent 2 2 2, ent 3 2 3] 4 4 2 rfl w
  have i6 : ∀ w : World, (Instr.mapUpdate 55 (.map (some w.heap.size)) (.int .i64 5) (.int .u8 4)).run Tryd.prog (w.alloc (.map #[ent 1 1 0, ent 6 1 1, ent 2 2 2, ent 3 2 3, ent 4 2 4] 5)) = .ok () (w.alloc (.map asksE 6)) := fun w => ins_int #[ent 1 1 0, ent 6 1 1, ent 2 2 2, ent 3 2 3, ent 4 2 4] 5 5 4 rfl w
  have hmm := @run_makeMap Tryd.prog
  have hl := HL.out w
  obtain ⟨n, hn⟩ : ∃ n : Nat, asksN d = n := ⟨_, rfl⟩
  obtain ⟨b, hb⟩ : ∃ b : Bool, decide (asksN d ≠ 0) = b := ⟨_, rfl⟩
  rw [hb, hn] at hl
  have H1 := Lib.hid hn
  have H2 := Lib.hid hb
  clear hn hb
  go_enter Tryd.func18, Tryd.ntmps18
  go_wp2_with fail
  go_ret2
  exact ⟨by rw [H2.out, H1.out]; rfl, (Below.refl _ _).alloc (Nat.le_refl _) _⟩

end Go.Proofs.YtcfkaginjcgmhaaDoor
