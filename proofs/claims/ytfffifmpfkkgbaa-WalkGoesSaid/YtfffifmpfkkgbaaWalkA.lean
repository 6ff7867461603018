/- A walk along an art: least, along, from. -/
import Derived.Test.YtfffifmpfkkgbaaFromA
import Derived.Test.YtfffifmpfkkgbaaSeqSt
namespace Go.Proofs.Ytfffifmpfkkgbaa
open Go.RowKit
set_option maxRecDepth 1000000
set_option maxHeartbeats 4000000

def leastV (o : Option Pr) : Value := match o with | some z => .tuple #[.agg #[.string z.1, .string z.2], .bool true] | none => .tuple #[.agg #[.string ⟨#[]⟩, .string ⟨#[]⟩], .bool false]
theorem least_any {W : World} {p q e m : Nat} {l : List Pr} (h : ArtAt W p q e m l) (hn : l.length < 100000) (x : ByteArray) :
    Calls Try.prog 51 #[.agg #[.pointer (some ⟨p, 0, none⟩)], .string x] W fun e' w' => e' = .returned (leastV (nextP x l)) ∧ Below W.heap.size W w' := by
  obtain ⟨W1, hW1⟩ : ∃ W1, W1 = (W.alloc (.cells #[.pointer (some ⟨p, 0, none⟩)] 72)).alloc (.cells #[.string ⟨#[]⟩, .string ⟨#[]⟩] 34) := ⟨_, rfl⟩
  have b1 : Below W.heap.size W W1 := by rw [hW1]; exact Below.new (Below.new (Below.refl _ _) _) _
  have f1 : Fresh W1 W.heap.size #[.pointer (some ⟨p, 0, none⟩)] 72 := by rw [hW1]; exact (Fresh.new _ _ _ _ rfl).alloc _
  have f2 : Fresh W1 (W.heap.size + 1) #[.string ⟨#[]⟩, .string ⟨#[]⟩] 34 := by rw [hW1]; exact Fresh.new _ _ _ _ (by simp)
  have HF := Lib.hid (from_art (h.below b1) hn x)
  have HW1 := Lib.hid hW1
  have HB := Lib.hid b1
  have HF2 := Lib.hid f2
  have c0 := f1.cell 0
  simp only [List.getElem?_toArray, List.getElem?_cons_zero] at c0
  clear h hn b1 f1 f2 hW1
  have fin : ∀ (k y : ByteArray) (r : Bool) (w : World), Below W1.heap.size W1 w → (∃ W', W' = (w.setCell ⟨W.heap.size + 1, 0, none⟩ (.string k)).setCell ⟨W.heap.size + 1, 1, none⟩ (.string y)) → Below W.heap.size W ((w.setCell ⟨W.heap.size + 1, 0, none⟩ (.string k)).setCell ⟨W.heap.size + 1, 1, none⟩ (.string y)) := by
    intro k y r w hb _
    exact Turned.below (S := [W.heap.size + 1]) (Below.step HB.out hb) (((Turned.refl _ _).setCell (.inl (by simp)) _ _).setCell (.inl (by simp)) _ _) (by simp) (Nat.le_trans HB.out.size hb.size)
  have FIN := Lib.hid fin
  clear fin
  obtain ⟨k, y, r, e1, e2⟩ : ∃ k y r, fromV (nextP x l) = .tuple #[.string k, .string y, .bool r] ∧ leastV (nextP x l) = .tuple #[.agg #[.string k, .string y], .bool r] := by
    cases nextP x l with
    | none => exact ⟨_, _, _, rfl, rfl⟩
    | some z => exact ⟨_, _, _, rfl, rfl⟩
  rw [e1] at HF
  rw [e2]
  clear e1 e2
  go_enter Try.func51, Try.ntmps51
  go_upto_region 1 with fail
  rw [← HW1.out]
  go_upto_region 2 with (go_at_call 65; refine HF.out.mono ?_; rintro e1 w1 ⟨rfl, hb1⟩; have F1 := HF2.out.below hb1; have HB1 := Lib.hid hb1; have t0 := F1.thawed 0; have t1 := F1.thawed 1; have d0 := F1.cell 0; have d1 := F1.cell 1; simp only [List.getElem?_toArray, List.getElem?_cons_zero, List.getElem?_cons_succ] at d0 d1; have HFF := Lib.hid F1; clear hb1 F1)
  go_wp2_with fail
  have q := ((HFF.out.set 0 (.string k)).set 1 (.string y))
  have q0 := q.cell 0
  have q1 := q.cell 1
  simp at q0 q1
  refine bodyPost_ret (v := .tuple #[.agg #[.string k, .string y], .bool r]) (by simp [results, Try.results51, go_sem, q0, q1]) rfl ?_
  exact ⟨rfl, FIN.out k y r w1 HB1.out ⟨_, rfl⟩⟩
def walkV (p : Nat) : Value := .agg #[.pointer (some ⟨p, 0, none⟩)]
theorem along_any (p : Nat) (W : World) : Calls Try.prog 30 #[.pointer (some ⟨p, 0, none⟩)] W fun e w' => e = .returned (walkV p) ∧ Below W.heap.size W w' := by
  go_enter Try.func30, Try.ntmps30
  go_wp2_with fail
  have c0 := World.cell?_alloc_new W #[.pointer (some ⟨p, 0, none⟩)] 74 0
  refine bodyPost_ret (v := walkV p) (by simp [results, Try.results30, go_sem, walkV]) rfl ?_
  exact ⟨rfl, Below.new (Below.refl _ _) _⟩
theorem after_any (x : ByteArray) (hs : x.size ≤ 1000000) (W : World) : Calls Try.prog 21 #[.string x] W fun e w' => e = .returned (.string (zup x)) ∧ w' = W := by
  go_enter Try.func21, Try.ntmps21
  go_wp2_with fail
  go_ret
  exact ⟨rfl, rfl⟩
theorem wfrom_any (p : Nat) (x : ByteArray) (W : World) : Calls Try.prog 31 #[walkV p, .string x] W fun e w' => e = .returned (.func (.func 50) #[] #[.pointer (some ⟨W.heap.size, 0, none⟩), .pointer (some ⟨W.heap.size + 1, 0, none⟩)]) ∧ w' = (W.alloc (.cells #[.pointer (some ⟨p, 0, none⟩)] 74)).alloc (.cells #[.string x] 9) := by
  have hmf := @makeFunc_run Try.prog
  unfold walkV
  go_enter Try.func31, Try.ntmps31
  go_wp2_with fail
  go_ret
  exact ⟨rfl, rfl⟩
end Go.Proofs.Ytfffifmpfkkgbaa
