/- From, Between, Begin, Goes. -/
import Derived.Test.YtfffifmpfkkgbaaCollect3
import Derived.Laws.Cover1
namespace Go.Proofs.Ytfffifmpfkkgbaa
open Go.RowKit Go.Shelf
set_option maxRecDepth 1000000
set_option maxHeartbeats 4000000

/-! ### within -/
theorem withinP_eq (t : ByteArray) (z : Pr) : withinP t z = (t.toList.isEmpty || kl z.1 t) := by
  unfold withinP
  congr 1
  rw [ByteArray.toList_eq, Bool.eq_iff_iff]
  simp only [decide_eq_true_eq, List.isEmpty_iff]
  constructor
  · intro h; exact List.length_eq_zero_iff.1 (by rw [length_list]; exact h)
  · intro h; rw [← length_list, h]; rfl
theorem within1_any (tb : Nat) (t : ByteArray) (z : Pr) (A : World) (h : Fresh A tb #[.string t] 9) :
    Calls Try.prog 54 #[pairV z, .pointer (some ⟨tb, 0, none⟩)] A fun e B => e = .returned (.bool (withinP t z)) ∧ Below A.heap.size A B := by
  obtain ⟨zk, zv⟩ := z
  obtain ⟨W1, hW1⟩ : ∃ W1, W1 = A.alloc (.cells #[.string zk, .string zv] 34) := ⟨_, rfl⟩
  have b1 : Below A.heap.size A W1 := by rw [hW1]; exact Below.new (Below.refl _ _) _
  have fz : Fresh W1 A.heap.size #[.string zk, .string zv] 34 := by rw [hW1]; exact Fresh.new _ _ _ _ rfl
  have c0 := (h.below b1).cell 0
  have z0 := fz.cell 0
  simp only [List.getElem?_toArray, List.getElem?_cons_zero] at c0 z0
  have HW1 := Lib.hid hW1
  have HB := Lib.hid b1
  have hkl := kl_eq zk t
  clear h hW1 b1 fz
  rw [withinP_eq]
  unfold pairV
  dsimp only
  obtain ⟨em, hem⟩ : ∃ em, t.toList.isEmpty = em := ⟨_, rfl⟩
  rw [hem]
  cases em
  all_goals
    go_enter Try.func54, Try.ntmps54
    go_upto_region 1 with fail
    rw [← HW1.out]
    go_wp2_with fail
    try any_goals go_ret
    all_goals first | exact ⟨rfl, HB.out⟩ | exact ⟨by simp [hem, hkl], HB.out⟩
theorem within_any (t : ByteArray) (W : World) : Calls Try.prog 34 #[.string t] W fun e w' => e = .returned (.func (.func 54) #[] #[.pointer (some ⟨W.heap.size, 0, none⟩)]) ∧ w' = W.alloc (.cells #[.string t] 9) := by
  have hmf := @makeFunc_run Try.prog
  go_enter Try.func34, Try.ntmps34
  go_wp2_with fail
  go_ret
  exact ⟨rfl, rfl⟩
theorem takeI_const (f : Pr → Bool) : ∀ (k : Nat) (L : List Pr), takeI (fun _ z => f z) k L = L.takeWhile f
  | _, [] => rfl
  | k, z :: L => by
    rw [takeI, List.takeWhile_cons]
    rw [takeI_const f (k + 1) L]
theorem between_any {W : World} {p q e m : Nat} {l : List Pr} (hA : ArtAt W p q e m l) (hlen : l.length < 100000) (s t : ByteArray) :
    Calls Try.prog 13 #[.pointer (some ⟨p, 0, none⟩), .string s, .string t] W fun e B => ∃ v, e = .returned v ∧ Below W.heap.size W B ∧ B.ownsRow W.heap.size 34 2 v (betP s t l).length (flatP (betP s t l)) := by
  have HH := Lib.hid (And.intro hA hlen)
  have HC : Hid (∀ W1 b, Below W.heap.size W W1 → W.heap.size ≤ b → Fresh W1 b #[.string t] 9 → Calls Try.prog 33 #[walkV p, .string s, .func (.func 54) #[] #[.pointer (some ⟨b, 0, none⟩)]] W1 fun e B => ∃ v, e = .returned v ∧ Below W.heap.size W B ∧ B.ownsRow W.heap.size 34 2 v (betP s t l).length (flatP (betP s t l))) := by
    intro W1 b hb hbW hf
    have hlt := HH.out.1.lt
    refine (collect_any (HH.out.1.below hb) HH.out.2 s 54 #[.pointer (some ⟨b, 0, none⟩)] (enters_of Try.func54 (by kernel_rfl) rfl) (fun _ z => withinP t z) (fun _ A => Fresh A b #[.string t] 9) [b] (by simpa using hf.lt) (by simp; omega) hf
      (fun k z A _ _ hi => ?_) (fun k X Y h hi => (h b (by simp)).trans hi)).mono ?_
    · refine (within1_any b t z A hi).mono ?_
      rintro e B ⟨rfl, hb2⟩
      exact ⟨rfl, Turned.of_below hb2, hi.below hb2⟩
    · rintro e B ⟨v, rfl, hT, ho, kz, hkz⟩
      rw [takeI_const] at ho
      exact ⟨v, rfl, Turned.below (S := [b]) hb hT (by simpa using hbW) hb.size, row_low ho hb.size⟩
  clear hA hlen
  go_enter Try.func13, Try.ntmps13
  go_wp2_with (first
    | (go_at_call 30; refine (along_any p _).mono ?_; rintro e1 w1 ⟨rfl, hb1⟩; have HB1 := Lib.hid hb1; clear hb1; unfold walkV)
    | (go_at_call 34; refine (within_any t _).mono ?_; rintro e2 w2 ⟨rfl, hw2⟩; have H2 := Lib.hid (And.intro (show Below w1.heap.size w1 w2 by rw [hw2]; exact Below.new (Below.refl _ _) _) (show Fresh w2 w1.heap.size #[.string t] 9 by rw [hw2]; exact Fresh.new _ _ _ _ rfl)); clear hw2)
    | (go_at_call 33; refine (HC.out w2 w1.heap.size (Below.step HB1.out H2.out.1) HB1.out.size H2.out.2).mono ?_; rintro e3 w3 ⟨v3, rfl, hb3, ho3⟩; obtain ⟨a3, k3, rfl⟩ := row_form ho3; have H3 := Lib.hid (And.intro hb3 ho3); clear hb3 ho3))
  go_ret
  exact ⟨_, rfl, H3.out.1, H3.out.2⟩
end Go.Proofs.Ytfffifmpfkkgbaa
