/- A purse: Copy. -/
import Derived.Test.YtpnddccanelcnaaPurse
import Derived.Laws.Externs
import Derived.MapKept
import Derived.Deep.RegionHeld3
namespace Go.Proofs.Ytpnddccanelcnaa
open Go.RowKit
set_option maxRecDepth 100000
set_option maxHeartbeats 4000000

theorem run_clone {W : World} {r : Nat} {es : Array MapEntry} {c : Nat} (t : TypeId) (hb : W.heap[r]? = some (.map es c)) :
    (callFunc 44 #[.iface t (.map (some r))]).run Try.prog W = .ok (.value (.iface t (.map (some W.heap.size)))) (W.alloc (.map es c)) := by
  rw [run_callFunc_extern Try.func44 (by kernel_rfl) (by kernel_rfl) (by kernel_rfl) (e := Extern.MapsClone.clone) (by kernel_rfl)]
  have e : Extern.MapsClone.clone #[.iface t (.map (some r))] = (getObj r >>= fun o => match o with
      | .map entries clock => (newObj (.map entries clock) >>= fun n => pure (.iface t (.map (some n))))
      | _ => stuck "maps.clone: a map expected") := rfl
  rw [e]
  simp [MapKept.run_getObj_map hb, Result.andThen]

theorem run_mnil (W : World) (m : Nat) : (binOp .eql 58 (.map (some m)) (.map none)).run Try.prog W = .ok (.bool false) W := by kernel_rfl
theorem run_mas (W : World) (m : Nat) : (Instr.typeAssert (.iface 58 (.map (some m))) 20 58 false).run Try.prog W = .ok (.map (some m)) W := by kernel_rfl
theorem clone_any {W : World} {m : Nat} {l : List Tk} (h : MapAt W m l) :
    Calls Try.prog 34 #[.map (some m)] W fun e w' => e = .returned (.map (some W.heap.size)) ∧ Below W.heap.size W w' ∧ MapAt w' W.heap.size l := by
  obtain ⟨es, c, hb, hi⟩ := h
  have hm := run_mnil W m
  have ha := run_mas
  have hc := run_clone 58 hb
  go_enter Try.func34, Try.ntmps34
  go_wp2_with fail
  go_ret
  exact ⟨rfl, Below.new (Below.refl _ _) _, es, c, heap_alloc_new W _, hi⟩

theorem copy_any {W : World} {p a m : Nat} {s : Pu} (h : At W p a m s) :
    Calls Try.prog 13 #[.pointer (some ⟨p, 0, none⟩)] W fun e w' => ∃ p' a' m', W.heap.size ≤ p' ∧ W.heap.size ≤ a' ∧ W.heap.size ≤ m' ∧ e = .returned (.pointer (some ⟨p', 0, none⟩)) ∧ Below W.heap.size W w' ∧ At w' p' a' m' s := by
  have HI := Lib.hid (isNil_any h)
  have HC := Lib.hid (clone_any (W := W.drew) (m := m) (l := s.tk) h.hm)
  have HA := Lib.hid h
  have BD : Hid (Below W.heap.size W W.drew) := (Below.refl _ _).drew
  have c := h.cells
  obtain ⟨c0, c1, c2, c3, c4, c5, c6, c7⟩ := acc_cells h.ha
  have KS : Hid (∀ W', Below W.heap.size W W' → W'.cell? ⟨p, 0, none⟩ = some (.pointer (some ⟨a, 0, none⟩)) ∧ W'.cell? ⟨a, 0, none⟩ = some (.int .u64 s.lk) ∧ W'.cell? ⟨a, 1, none⟩ = some (.int .u64 s.lb) ∧ W'.cell? ⟨a, 2, none⟩ = some (.int .u64 s.hk) ∧ W'.cell? ⟨a, 3, none⟩ = some (.int .u64 s.hb) ∧ W'.cell? ⟨a, 4, none⟩ = some (.int .u64 s.bk) ∧ W'.cell? ⟨a, 5, none⟩ = some (.int .u64 s.bb) ∧ W'.cell? ⟨a, 6, none⟩ = some (.map (some m)) ∧ W'.cell? ⟨a, 7, none⟩ = some (.int .i64 s.last)) := fun W' hb => ⟨(HA.out.below hb).cells, acc_cells (HA.out.below hb).ha⟩
  clear h
  go_enter Try.func13, Try.ntmps13
  go_wp2_with fail
  refine HI.out.mono ?_
  rintro e w1 ⟨rfl, hw1⟩
  obtain rfl := hw1
  go_wp2_with fail
  go_region_held3 (fun W' => W'.cell? ⟨p, 0, none⟩ = some (.pointer (some ⟨a, 0, none⟩)) ∧ W'.cell? ⟨a, 0, none⟩ = some (.int .u64 s.lk) ∧ W'.cell? ⟨a, 1, none⟩ = some (.int .u64 s.lb) ∧ W'.cell? ⟨a, 2, none⟩ = some (.int .u64 s.hk) ∧ W'.cell? ⟨a, 3, none⟩ = some (.int .u64 s.hb) ∧ W'.cell? ⟨a, 4, none⟩ = some (.int .u64 s.bk) ∧ W'.cell? ⟨a, 5, none⟩ = some (.int .u64 s.bb) ∧ W'.cell? ⟨a, 6, none⟩ = some (.map (some m)) ∧ W'.cell? ⟨a, 7, none⟩ = some (.int .i64 s.last))
    (first | go_keep | exact KS.out _ hq2)
    (first
      | (go_at_call 34
         refine HC.out.mono ?_
         rintro e w2 ⟨rfl, hb2, hm2⟩
         have hq2 := Below.step BD.out hb2))
  all_goals
    have hs := hq2.size
    have hlm : w1.heap.size < w2.heap.size := hm2.lt
    have BE : Hid (Below w1.heap.size w1 w2 ∧ MapAt w2 w1.heap.size s.tk) := ⟨hq2, hm2⟩
    clear hb2 hm2 c c0 c1 c2 c3 c4 c5 c6 c7
    go_wp2_with fail
    go_ret
    refine ⟨w2.heap.size + 1, w2.heap.size, w1.heap.size, by omega, by omega, by omega, rfl, Below.new (Below.new BE.out.1 _) _, ?_, ?_, ?_⟩
    · exact Fresh.new _ _ _ _ (by simp)
    · exact (Fresh.new _ _ _ _ rfl).alloc _
    · exact BE.out.2.turned (S := []) (.of_below (Below.new (Below.new (Below.refl _ _) _) _)) (by simp)
end Go.Proofs.Ytpnddccanelcnaa
