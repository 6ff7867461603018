/- live.Way, and the reference's. -/
import Derived.Test.YtjlfgmjcmicoaaaRefIs
import Derived.Maps.Own
import Derived.Maps.OwnOps
namespace Go.Proofs.Ytjlfgmjcmicoaaa
open Go.RowKit Go.Maps
set_option maxRecDepth 100000

/-- P29.1: the steps of a way down. -/
def innerN (r : Req) : Nat := if r.d = 5 then 34 else (codeL r.key).length
def furtherN (d : Int) : Nat := if d = 2 then 6 else if d = 4 then 6 else if d = 3 then 9 else 3
def wayN (r : Req) : Nat := if isB r then 4 * innerN r + furtherN r.d else 0

theorem set_new (w : World) (o o' : Obj) : { w.alloc o with heap := (w.alloc o).heap.setIfInBounds w.heap.size o' } = w.alloc o' := by
  have e : (w.heap.push o).setIfInBounds w.heap.size o' = w.heap.push o' := by
    apply Array.ext_getElem?
    intro i
    rw [Array.getElem?_setIfInBounds, Array.getElem?_push, Array.getElem?_push]
    by_cases h : w.heap.size = i
    · subst h; simp
    · rw [if_neg h, if_neg (fun e => h e.symm), if_neg (fun e => h e.symm)]
  show World.mk _ _ _ _ _ = World.mk _ _ _ _ _
  rw [show (w.alloc o).heap = w.heap.push o from rfl, e]
  rfl

theorem ins_int (es : Array MapEntry) (c : Nat) (k v : Int) (hf : Instr.findNow (.int .i64) (.int .i64 k) es.toList 0 = some none) (w : World) :
    (Instr.mapUpdate 54 (.map (some w.heap.size)) (.int .i64 k) (.int .i64 v)).run Try.prog (w.alloc (.map es c)) = .ok () (w.alloc (.map (es.push { key := .int .i64 k, val := .int .i64 v, born := c }) (c + 1))) := by
  have hb : (w.alloc (.map es c)).heap[w.heap.size]? = some (.map es c) := heap_alloc_new w _
  have hk : Try.prog.underlying 22 = some (.int .i64) := Try.underlying22
  have hc : (Instr.checkKey false 10000 22 (.int .i64 k)).run Try.prog (w.alloc (.map es c)) = .ok () (w.alloc (.map es c)) := MapKept.run_checkKey hk (show MapKept.IsKey (.int .i64) (.int .i64 k) from rfl) false 9999
  have h := set_new w (.map es c) (.map (es.push { key := .int .i64 k, val := .int .i64 v, born := c }) (c + 1))
  simp [Instr.mapUpdate, run_underlying Try.underlying54, MapKept.run_getObj_map hb, hc, MapKept.run_findKey hk hf, MapKept.run_setObj_map _ hb, Result.andThen]
  exact h

theorem look_int (es : Array MapEntry) (c : Nat) (k v : Int) (i : Nat) (hf : Instr.findNow (.int .i64) (.int .i64 k) es.toList 0 = some (some (i, .int .i64 v))) (w W : World) (hb : W.heap[w.heap.size]? = some (.map es c)) :
    (Instr.lookup 54 (.map (some w.heap.size)) (.int .i64 k) false).run Try.prog W = .ok (.int .i64 v) W := by
  have hk : Try.prog.underlying 22 = some (.int .i64) := Try.underlying22
  have hc : (Instr.checkKey es.isEmpty 10000 22 (.int .i64 k)).run Try.prog W = .ok () W := MapKept.run_checkKey hk (show MapKept.IsKey (.int .i64) (.int .i64 k) from rfl) _ 9999
  simp [Instr.lookup, run_underlying Try.underlying54, MapKept.run_getObj_map hb, hc, MapKept.run_findKey hk hf, Result.andThen]

def ent (k v : Int) (b : Nat) : MapEntry := { key := .int .i64 k, val := .int .i64 v, born := b }
def furtherE : Array MapEntry := #[ent 1 3 0, ent 2 6 1, ent 4 6 2, ent 3 9 3, ent 5 3 4]
theorem look_further (d : Int) (hd : d = 1 ∨ d = 2 ∨ d = 3 ∨ d = 4 ∨ d = 5) (w : World) :
    (Instr.lookup 54 (.map (some w.heap.size)) (.int .i64 d) false).run Try.prog (w.alloc (.map furtherE 5)) = .ok (.int .i64 (furtherN d)) (w.alloc (.map furtherE 5)) := by
  rcases hd with rfl | rfl | rfl | rfl | rfl
  · exact look_int furtherE 5 1 3 0 rfl w _ (heap_alloc_new w _)
  · exact look_int furtherE 5 2 6 1 rfl w _ (heap_alloc_new w _)
  · exact look_int furtherE 5 3 9 3 rfl w _ (heap_alloc_new w _)
  · exact look_int furtherE 5 4 6 2 rfl w _ (heap_alloc_new w _)
  · exact look_int furtherE 5 5 3 4 rfl w _ (heap_alloc_new w _)

theorem codeL_le (s : ByteArray) (h : s.size ≤ 16) : (codeL s).length ≤ 34 := by
  have := encB_le s.data.toList
  rw [length_list] at this
  simp [codeL]
  omega

set_option maxHeartbeats 4000000 in
theorem way_any (r : Req) (w : World) (h : r.Ok) : Calls Try.prog 13 #[reqV r] w fun e w' => e = .returned (.int .i64 (wayN r)) ∧ Below w.heap.size w w' := by
  have HO := Lib.hid h
  obtain ⟨b, hb⟩ : ∃ b, isB r = b := ⟨_, rfl⟩
  have HB := Lib.hid hb
  cases b with
  | false =>
    have HW : Hid (wayN r = 0) := by show _ = _; unfold wayN; rw [HB.out]; rfl
    obtain ⟨d, ht, hg, hr, key, val, old, lim, ten, qk, qb, rts⟩ := r
    clear h hb
    go_enter Try.func13, Try.ntmps13
    go_wp2_with fail
    refine (is_any _ _ HO.out).mono ?_
    rw [HB.out]
    rintro e w1 ⟨rfl, hb1⟩
    go_wp2_with fail
    go_ret
    exact ⟨ret_int (by rw [HW.out]; rfl), Below.step ((Below.refl _ _).alloc (Nat.le_refl _) _) hb1⟩
  | true =>
    have hall := (isB_of r).1 hb
    have HK : Hid (r.key.size ≤ 16) := hall.2.2.1
    have hcl := codeL_le r.key HK.out
    have hd : r.d = 1 ∨ r.d = 2 ∨ r.d = 3 ∨ r.d = 4 ∨ r.d = 5 := by omega
    have HW : Hid (wayN r = 4 * innerN r + furtherN r.d) := by show _ = _; unfold wayN; rw [HB.out]; rfl
    have HL := Lib.hid (look_further r.d hd)
    have HI : Hid (innerN r = if r.d = 5 then 34 else (codeL r.key).length) := rfl
    obtain ⟨d, ht, hg, hr, key, val, old, lim, ten, qk, qb, rts⟩ := r
    dsimp only at hd HK hcl HW HL HI
    clear h hb hall
    have i1 : ∀ w : World, (Instr.mapUpdate 54 (.map (some w.heap.size)) (.int .i64 1) (.int .i64 3)).run Try.prog (w.alloc (.map #[] 0)) = .ok () (w.alloc (.map #[ent 1 3 0] 1)) := fun w => ins_int #[] 0 1 3 rfl w
    have i2 : ∀ w : World, (Instr.mapUpdate 54 (.map (some w.heap.size)) (.int .i64 2) (.int .i64 6)).run Try.prog (w.alloc (.map #[ent 1 3 0] 1)) = .ok () (w.alloc (.map #[ent 1 3 0, ent 2 6 1] 2)) := fun w => ins_int #[ent 1 3 0] 1 2 6 rfl w
    have i3 : ∀ w : World, (Instr.mapUpdate 54 (.map (some w.heap.size)) (.int .i64 4) (.int .i64 6)).run Try.prog (w.alloc (.map #[ent 1 3 0, ent 2 6 1] 2)) = .ok () (w.alloc (.map #[ent 1 3 0, ent 2 6 1, ent 4 6 2] 3)) := fun w => ins_int #[ent 1 3 0, ent 2 6 1] 2 4 6 rfl w
    have i4 : ∀ w : World, (Instr.mapUpdate 54 (.map (some w.heap.size)) (.int .i64 3) (.int .i64 9)).run Try.prog (w.alloc (.map #[ent 1 3 0, ent 2 6 1, ent 4 6 2] 3)) = .ok () (w.alloc (.map #[ent 1 3 0, ent 2 6 1, ent 4 6 2, ent 3 9 3] 4)) := fun w => ins_int #[ent 1 3 0, ent 2 6 1, ent 4 6 2] 3 3 9 rfl w
    have i5 : ∀ w : World, (Instr.mapUpdate 54 (.map (some w.heap.size)) (.int .i64 5) (.int .i64 3)).run Try.prog (w.alloc (.map #[ent 1 3 0, ent 2 6 1, ent 4 6 2, ent 3 9 3] 4)) = .ok () (w.alloc (.map furtherE 5)) := fun w => ins_int #[ent 1 3 0, ent 2 6 1, ent 4 6 2, ent 3 9 3] 4 5 3 rfl w
    have hmm := @run_makeMap Try.prog
    have hsz : (codeOf key).size = (codeL key).length := by simp [codeOf, ByteArray.size]
    have HS := Lib.hid hsz
    clear hsz
    rcases (show (d = 5) ∨ ((1 ≤ d ∧ d ≤ 4)) from by omega) with rfl | ⟨d1, d2⟩
    · have hf : furtherN 5 = 3 := rfl
      have HF := Lib.hid hf
      clear hf
      go_enter Try.func13, Try.ntmps13
      go_wp2_with fail
      refine (is_any _ _ HO.out).mono ?_
      rw [HB.out]
      rintro e w1 ⟨rfl, hb1⟩
      have c2 : w1.cell? ⟨w.heap.size, 4, none⟩ = some (.string key) := by rw [hb1.cell (p := ⟨w.heap.size, 4, none⟩) (by simp)]; simp
      have c0 : w1.cell? ⟨w.heap.size, 0, none⟩ = some (.int .i64 5) := by rw [hb1.cell (p := ⟨w.heap.size, 0, none⟩) (by simp)]; simp
      have s1 : w.heap.size < w1.heap.size := by have := hb1.size; simp at this; omega
      have hB1 := Lib.hid hb1
      clear hb1
      go_wp2_with fail
      refine (encode_any _ _ HK.out).mono ?_
      rintro e w2 ⟨rfl, hb2⟩
      have c0' : w2.cell? ⟨w.heap.size, 0, none⟩ = some (.int .i64 5) := by rw [hb2.cell (p := ⟨w.heap.size, 0, none⟩) s1]; exact c0
      have hB2 := Lib.hid hb2
      have s2 : w.heap.size < w2.heap.size := Nat.lt_of_lt_of_le s1 hb2.size
      clear c0 c2 hb2
      have hsz := HS.out
      have hl := HL.out w2
      rw [HF.out] at hl
      go_wp2_with fail
      go_ret
      exact ⟨ret_int (by rw [HW.out, HI.out, HF.out]; simp), Below.new (Below.step (Below.step ((Below.refl _ _).alloc (Nat.le_refl _) _) hB1.out) hB2.out) _⟩
    · have q5 : ((d : Int) == 5) = false := by simp; omega
      have hf : furtherN d ≤ 9 := by unfold furtherN; split <;> (try split) <;> (try split) <;> omega
      go_enter Try.func13, Try.ntmps13
      go_wp2_with fail
      refine (is_any _ _ HO.out).mono ?_
      rw [HB.out]
      rintro e w1 ⟨rfl, hb1⟩
      have c2 : w1.cell? ⟨w.heap.size, 4, none⟩ = some (.string key) := by rw [hb1.cell (p := ⟨w.heap.size, 4, none⟩) (by simp)]; simp
      have c0 : w1.cell? ⟨w.heap.size, 0, none⟩ = some (.int .i64 d) := by rw [hb1.cell (p := ⟨w.heap.size, 0, none⟩) (by simp)]; simp
      have s1 : w.heap.size < w1.heap.size := by have := hb1.size; simp at this; omega
      have hB1 := Lib.hid hb1
      clear hb1
      go_wp2_with fail
      refine (encode_any _ _ HK.out).mono ?_
      rintro e w2 ⟨rfl, hb2⟩
      have c0' : w2.cell? ⟨w.heap.size, 0, none⟩ = some (.int .i64 d) := by rw [hb2.cell (p := ⟨w.heap.size, 0, none⟩) s1]; exact c0
      have hB2 := Lib.hid hb2
      have s2 : w.heap.size < w2.heap.size := Nat.lt_of_lt_of_le s1 hb2.size
      clear c0 c2 hb2
      have hsz := HS.out
      have hl := HL.out w2
      go_wp2_with fail
      go_ret
      exact ⟨ret_int (by rw [HW.out, HI.out, if_neg (by omega)]; simp), Below.new (Below.step (Below.step ((Below.refl _ _).alloc (Nat.le_refl _) _) hB1.out) hB2.out) _⟩

end Go.Proofs.Ytjlfgmjcmicoaaa
