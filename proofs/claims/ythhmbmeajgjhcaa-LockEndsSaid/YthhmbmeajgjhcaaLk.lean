/- A table of locks: its state, and what its methods tell. -/
import Derived.Test.YthhmbmeajgjhcaaMap
import Derived.Deep.RegionHeld3
import Derived.BigRegion
import Derived.Deep.DeepCutAuto
namespace Go.Proofs.Ythhmbmeajgjhcaa
open Go.RowKit
set_option maxRecDepth 100000
set_option maxHeartbeats 4000000

def MapAt (W : World) (m : Nat) (l : List Wd) : Prop := ∃ es c, W.heap[m]? = some (.map es c) ∧ MapIs l es
theorem MapAt.lt {W : World} {m : Nat} {l : List Wd} (h : MapAt W m l) : m < W.heap.size := by
  obtain ⟨_, _, hb, _⟩ := h
  exact (Array.getElem?_eq_some_iff.1 hb).1
theorem MapAt.turned {S : List Nat} {W W' : World} {m : Nat} {l : List Wd} (h : MapAt W m l) (ht : Turned S W W') (hn : m ∉ S) : MapAt W' m l := by
  obtain ⟨es, c, hb, hi⟩ := h
  exact ⟨es, c, (ht.block m (Array.getElem?_eq_some_iff.1 hb).1 hn).trans hb, hi⟩
structure Lk where
  held : Int
  taken : Int
  l : List Wd
structure At (W : World) (p a m : Nat) (s : Lk) : Prop where
  hp : Fresh W p #[.pointer (some ⟨a, 0, none⟩)] 46
  ha : Fresh W a #[.map (some m), .int .i64 s.held, .int .i64 s.taken] 61
  hm : MapAt W m s.l
  uniq : Uniq s.l
theorem At.below {W W' : World} {p a m : Nat} {s : Lk} (h : At W p a m s) (hb : Below W.heap.size W W') : At W' p a m s :=
  ⟨h.hp.below hb, h.ha.below hb, h.hm.turned (S := []) (.of_below hb) (by simp), h.uniq⟩
theorem At.cells {W : World} {p a m : Nat} {s : Lk} (h : At W p a m s) : W.cell? ⟨p, 0, none⟩ = some (.pointer (some ⟨a, 0, none⟩)) ∧ W.cell? ⟨a, 0, none⟩ = some (.map (some m)) ∧ W.cell? ⟨a, 1, none⟩ = some (.int .i64 s.held) ∧ W.cell? ⟨a, 2, none⟩ = some (.int .i64 s.taken) :=
  ⟨h.hp.cell 0, h.ha.cell 0, h.ha.cell 1, h.ha.cell 2⟩

theorem isNil_any {W : World} {p a m : Nat} {s : Lk} (h : At W p a m s) :
    Calls Try.prog 33 #[.pointer (some ⟨p, 0, none⟩)] W fun e w' => e = .returned (.bool false) ∧ w' = W := by
  obtain ⟨c, c0, c1, c2⟩ := h.cells
  clear h
  go_enter Try.func33, Try.ntmps33
  go_wp2_with fail
  go_ret
  exact ⟨rfl, rfl⟩
theorem held_any {W : World} {p a m : Nat} {s : Lk} (h : At W p a m s) :
    Calls Try.prog 20 #[.pointer (some ⟨p, 0, none⟩)] W fun e w' => e = .returned (.int .i64 s.held) ∧ w' = W := by
  have HI := Lib.hid (isNil_any h)
  obtain ⟨c, c0, c1, c2⟩ := h.cells
  clear h
  go_enter Try.func20, Try.ntmps20
  go_wp2_with fail
  refine HI.out.mono ?_
  rintro e w1 ⟨rfl, rfl⟩
  go_wp2_with fail
  go_ret
  exact ⟨rfl, rfl⟩
theorem taken_any {W : World} {p a m : Nat} {s : Lk} (h : At W p a m s) :
    Calls Try.prog 21 #[.pointer (some ⟨p, 0, none⟩)] W fun e w' => e = .returned (.int .i64 s.taken) ∧ w' = W := by
  have HI := Lib.hid (isNil_any h)
  obtain ⟨c, c0, c1, c2⟩ := h.cells
  clear h
  go_enter Try.func21, Try.ntmps21
  go_wp2_with fail
  refine HI.out.mono ?_
  rintro e w1 ⟨rfl, rfl⟩
  go_wp2_with fail
  go_ret
  exact ⟨rfl, rfl⟩
theorem At.look {W : World} {p a m : Nat} {s : Lk} (h : At W p a m s) (x g : Int) (hr : RefOk x g) :
    (Instr.lookup 59 (.map (some m)) (refV x g) true).run Try.prog W = .ok (.tuple #[.int .u64 (zeroW (getW s.l x g)), .bool (getW s.l x g).isSome]) W := by
  obtain ⟨es, c, hb, hi⟩ := h.hm
  exact run_look hi h.uniq hb x g hr true
theorem check_any {W : World} {p a m : Nat} {s : Lk} (h : At W p a m s) (x g w : Int) (hr : RefOk x g) :
    Calls Try.prog 15 #[.pointer (some ⟨p, 0, none⟩), refV x g, .int .u64 w] W fun e w' => e = .returned (.bool ((getW s.l x g).isSome && (zeroW (getW s.l x g) == w))) ∧ Below W.heap.size W w' := by
  have B1 := Below.new (Below.refl W.heap.size W) (.cells #[.int .i64 x, .int .u32 g] 33)
  have F1 := Fresh.new W W.heap.size #[.int .i64 x, .int .u32 g] 33 rfl
  have A1 := h.below B1
  obtain ⟨W1, hW1⟩ : ∃ W1, W1 = W.alloc (.cells #[.int .i64 x, .int .u32 g] 33) := ⟨_, rfl⟩
  rw [← hW1] at B1 F1 A1
  have HI := Lib.hid (isNil_any A1)
  have A1d : At W1.drew p a m s := ⟨A1.hp.drew, A1.ha.drew, by obtain ⟨es, c, hb, hi⟩ := A1.hm; exact ⟨es, c, hb, hi⟩, A1.uniq⟩
  have hl := A1d.look x g hr
  have hl0 := A1.look x g hr
  obtain ⟨c, c0, c1, c2⟩ := A1.cells
  have r0 := F1.cell 0
  have r1 := F1.cell 1
  simp only [List.getElem?_toArray, List.getElem?_cons_zero, List.getElem?_cons_succ] at r0 r1
  have HB := Lib.hid B1
  have HW := Lib.hid hW1
  obtain ⟨o, ho⟩ : ∃ o, o = getW s.l x g := ⟨_, rfl⟩
  rw [← ho] at hl hl0 ⊢
  clear h B1 F1 A1 A1d hW1 ho
  cases ho : o.isSome
  all_goals
    rw [ho] at hl hl0
    obtain ⟨z, hz⟩ : ∃ z, zeroW o = z := ⟨_, rfl⟩
    rw [hz] at hl hl0 ⊢
    clear ho hz
    go_enter Try.func15, Try.ntmps15
    go_upto_region 1 with fail
    rw [← HW.out]
    go_wp2_with fail
    refine HI.out.mono ?_
    rintro e w1 ⟨rfl, rfl⟩
    go_wp2_with fail
    go_region
    go_wp2_with fail
    go_ret
    exact ⟨by simp, HB.out.drew⟩
end Go.Proofs.Ythhmbmeajgjhcaa
