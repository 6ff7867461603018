/- Count. -/
import Derived.Test.YtfffifmpfkkgbaaQuery2
namespace Go.Proofs.Ytfffifmpfkkgbaa
open Go.RowKit Go.Shelf
set_option maxRecDepth 1000000
set_option maxHeartbeats 4000000

theorem count1_any {A : World} {ib tb nb : Nat} {t : ByteArray} {j : Nat} (hj : j < 1000000) (h1 : Fresh A ib #[.func (.func 54) #[] #[.pointer (some ⟨tb, 0, none⟩)]] 80) (h2 : Fresh A tb #[.string t] 9) (h3 : Fresh A nb #[.int .i64 (j : Int)] 3) (z : Pr) :
    Calls Try.prog 38 #[pairV z, .pointer (some ⟨ib, 0, none⟩), .pointer (some ⟨nb, 0, none⟩)] A fun e B => e = .returned (.bool (withinP t z)) ∧ Turned [nb] A B ∧ Fresh B nb #[.int .i64 (if withinP t z = true then ((j + 1 : Nat) : Int) else (j : Int))] 3 := by
  obtain ⟨zk, zv⟩ := z
  obtain ⟨W1, hW1⟩ : ∃ W1, W1 = A.alloc (.cells #[.string zk, .string zv] 34) := ⟨_, rfl⟩
  have b1 : Below A.heap.size A W1 := by rw [hW1]; exact Below.new (Below.refl _ _) _
  have fz : Fresh W1 A.heap.size #[.string zk, .string zv] 34 := by rw [hW1]; exact Fresh.new _ _ _ _ rfl
  have c0 := (h1.below b1).cell 0
  have z0 := fz.cell 0
  have z1 := fz.cell 1
  simp only [List.getElem?_toArray, List.getElem?_cons_zero, List.getElem?_cons_succ] at c0 z0 z1
  have HW1 := Lib.hid hW1
  have HI := Lib.hid (within1_any tb t (zk, zv) W1 (h2.below b1))
  have H := Lib.hid (And.intro b1 (h3.below b1))
  have HJ : IntKind.i64.wrap ((j : Int) + 1) = (j : Int) + 1 := by rw [IntKind.wrap_i64]; omega
  obtain ⟨r, hr⟩ : ∃ r, withinP t (zk, zv) = r := ⟨_, rfl⟩
  rw [hr] at HI ⊢
  clear h1 h2 h3 hW1 b1 fz hr hj
  unfold pairV at HI ⊢
  dsimp only at HI ⊢
  have arm : Hid (∀ w2, Below W1.heap.size W1 w2 → Below A.heap.size A w2 ∧ Fresh w2 nb #[.int .i64 (j : Int)] 3) := fun w2 hb => ⟨Below.step H.out.1 hb, H.out.2.below hb⟩
  cases r
  · go_enter Try.func38, Try.ntmps38
    go_upto_region 1 with fail
    rw [← HW1.out]
    go_wp2_with (go_at_call 54; refine HI.out.mono ?_; rintro e2 w2 ⟨rfl, hb2⟩; have H2 := Lib.hid (arm.out w2 hb2); clear hb2)
    go_ret
    exact ⟨rfl, Turned.of_below H2.out.1, by simpa using H2.out.2⟩
  · go_enter Try.func38, Try.ntmps38
    go_upto_region 1 with fail
    rw [← HW1.out]
    go_wp2_with (go_at_call 54; refine HI.out.mono ?_; rintro e2 w2 ⟨rfl, hb2⟩; obtain ⟨y1, y2⟩ := arm.out w2 hb2; have x0 := y2.cell 0; have x1 := y2.thawed 0; simp only [List.getElem?_toArray, List.getElem?_cons_zero] at x0; have H2 := Lib.hid (And.intro y1 y2); clear hb2 y1 y2)
    go_ret
    exact ⟨rfl, (Turned.of_below H2.out.1).trans ((Turned.refl _ _).setCell (.inl (by simp)) _ _), by simpa using H2.out.2.set 0 (.int .i64 ((j : Int) + 1))⟩
structure NRel (W : World) (b0 t : ByteArray) (l : List Pr) (ib tb nb : Nat) (j : Nat) (pre : List Pr) (A : World) : Prop where
  le : j ≤ (fromP b0 l).length
  ini : pre = (fromP b0 l).take j
  all : (betP b0 t l).length = j + (((fromP b0 l).drop j).takeWhile (withinP t)).length
  fib : Fresh A ib #[.func (.func 54) #[] #[.pointer (some ⟨tb, 0, none⟩)]] 80
  ftb : Fresh A tb #[.string t] 9
  fnb : Fresh A nb #[.int .i64 (j : Int)] 3
  turned : Turned [nb] W A
theorem NRel.round {W A : World} {b0 t : ByteArray} {l : List Pr} {ib tb nb j : Nat} {pre : List Pr} (h : NRel W b0 t l ib tb nb j pre A) (hs : SrtP l) (hlen : l.length < 100000) (hne : ib ≠ nb ∧ tb ≠ nb) {z : Pr} (hz : nextP (bdOf b0 pre) l = some z) :
    Calls Try.prog 38 #[pairV z, .pointer (some ⟨ib, 0, none⟩), .pointer (some ⟨nb, 0, none⟩)] A fun e B => Turned [nb] A B ∧ ((e = .returned (.bool true) ∧ ∃ j', NRel W b0 t l ib tb nb j' (pre ++ [z]) B) ∨ (e = .returned (.bool false) ∧ Fresh B nb #[.int .i64 ((betP b0 t l).length : Int)] 3 ∧ Turned [nb] W B)) := by
  have hz2 := hz
  rw [h.ini, next_pre hs b0 h.le] at hz2
  have hjl := (List.getElem?_eq_some_iff.1 hz2).1
  have hfl : (fromP b0 l).length ≤ l.length := by unfold fromP; simp
  have hdr : (fromP b0 l).drop j = z :: (fromP b0 l).drop (j + 1) := by
    rw [List.drop_eq_getElem_cons hjl]
    obtain ⟨_, e⟩ := List.getElem?_eq_some_iff.1 hz2
    rw [e]
  have htk : (fromP b0 l).take (j + 1) = pre ++ [z] := by
    rw [List.take_succ_eq_append_getElem hjl, h.ini]
    obtain ⟨_, e⟩ := List.getElem?_eq_some_iff.1 hz2
    rw [e]
  refine (count1_any (by omega) h.fib h.ftb h.fnb z).mono ?_
  rintro e B ⟨rfl, hT, hf⟩
  have hall := h.all
  rw [hdr, List.takeWhile_cons] at hall
  cases hp : withinP t z
  · rw [hp] at hall hf
    rw [if_neg (by simp)] at hall hf
    refine ⟨hT, .inr ⟨rfl, ?_, h.turned.trans hT⟩⟩
    rw [hall]
    simpa using hf
  · rw [hp] at hall hf
    rw [if_pos rfl] at hall hf
    refine ⟨hT, .inl ⟨rfl, j + 1, hjl, htk.symm, ?_, hT.other h.fib (by simpa using hne.1), hT.other h.ftb (by simpa using hne.2), hf, h.turned.trans hT⟩⟩
    rw [hall, List.length_cons]
    omega
theorem count_q {W : World} {p q e m : Nat} {l : List Pr} (hA : ArtAt W p q e m l) (hlen : l.length < 100000) (s t : ByteArray) :
    Calls Try.prog 17 #[.pointer (some ⟨p, 0, none⟩), .string s, .string t] W fun e B => e = .returned (.int .i64 ((betP s t l).length : Int)) ∧ Below W.heap.size W B := by
  have HH := Lib.hid (And.intro hA hlen)
  have HV : Hid (∀ W1 ib tb, Below W.heap.size W W1 → W.heap.size < ib → W.heap.size < tb → NRel W1 s t l ib tb W.heap.size 0 [] W1 → Calls Try.prog 37 #[walkV p, .string s, .func (.func 38) #[] #[.pointer (some ⟨ib, 0, none⟩), .pointer (some ⟨W.heap.size, 0, none⟩)]] W1 fun e B => (∃ u, e = .returned u) ∧ Fresh B W.heap.size #[.int .i64 ((betP s t l).length : Int)] 3 ∧ Below W.heap.size W B) := by
    intro W1 ib tb hb hi ht hr
    have hlt := HH.out.1.lt
    have hfl : (fromP s l).length ≤ l.length := by unfold fromP; simp
    have hs := HH.out.1.good.1
    refine (visit_any (HH.out.1.below hb) HH.out.2 s 38 #[.pointer (some ⟨ib, 0, none⟩), .pointer (some ⟨W.heap.size, 0, none⟩)] (enters_of Try.func38 (by kernel_rfl) rfl) [W.heap.size] none (by simpa using hr.fnb.lt) (by simp; omega) (fun c hc => by cases hc)
      (fun pre A => ∃ j, NRel W1 s t l ib tb W.heap.size j pre A) (fun _ A => Fresh A W.heap.size #[.int .i64 ((betP s t l).length : Int)] 3 ∧ Turned [W.heap.size] W1 A)
      (fun pre X Y row ⟨j, h⟩ hg hr => ⟨j, h.le, h.ini, h.all, h.fib.kept hg (fun r e => (hr r e).2), h.ftb.kept hg (fun r e => (hr r e).2), h.fnb.kept hg (fun r e => (hr r e).2), h.turned.kept hg (fun r e => (hr r e).1)⟩)
      (fun pre X Y row h hg hr => ⟨h.1.kept hg (fun r e => (hr r e).2), h.2.kept hg (fun r e => (hr r e).1)⟩)
      ⟨0, hr⟩ (fun pre A c v g hc => by cases hc) (fun pre z A hz _ ⟨j, h⟩ => ?_)).mono ?_
    · refine (h.round hs HH.out.2 ⟨by omega, by omega⟩ hz).mono ?_
      rintro e B ⟨hT, h2⟩
      exact ⟨KR.of_turned0 hT, h2⟩
    · rintro e B ⟨hu, h2⟩
      refine ⟨hu, ?_⟩
      rcases h2 with ⟨xs, hn, j, h3⟩ | ⟨xs, h3, h4⟩
      · have h5 := h3.all
        rw [h3.ini, next_pre hs s h3.le] at hn
        have h6 : (fromP s l).length ≤ j := List.getElem?_eq_none_iff.1 hn
        rw [List.drop_eq_nil_of_le h6] at h5
        simp at h5
        rw [h5]
        exact ⟨h3.fnb, Turned.below (S := [W.heap.size]) hb h3.turned (by simp) hb.size⟩
      · exact ⟨h3, Turned.below (S := [W.heap.size]) hb h4 (by simp) hb.size⟩
  clear hA hlen
  have hmf := @makeFunc_run Try.prog
  go_enter Try.func17, Try.ntmps17
  go_upto_region 2 with fail
  obtain ⟨W1, hW1⟩ : ∃ W1, W1 = W.alloc (.cells #[.int .i64 0] 3) := ⟨_, rfl⟩
  rw [← hW1]
  have b1 : Below W.heap.size W W1 := by rw [hW1]; exact Below.new (Below.refl _ _) _
  have f1 : Fresh W1 W.heap.size #[.int .i64 0] 3 := by rw [hW1]; exact Fresh.new _ _ _ _ rfl
  have H1 := Lib.hid (And.intro b1 f1)
  clear hW1 b1 f1
  go_upto_region 3 with (go_at_call 34; refine (within_any t _).mono ?_; rintro e2 w2 ⟨rfl, hw2⟩; have H2 := Lib.hid (And.intro (show Below W1.heap.size W1 w2 by rw [hw2]; exact Below.new (Below.refl _ _) _) (show Fresh w2 W1.heap.size #[.string t] 9 by rw [hw2]; exact Fresh.new _ _ _ _ rfl)); clear hw2)
  obtain ⟨W3, hW3⟩ : ∃ W3, W3 = w2.alloc (.cells #[.func (.func 54) #[] #[.pointer (some ⟨W1.heap.size, 0, none⟩)]] 80) := ⟨_, rfl⟩
  rw [← hW3]
  have b3 : Below w2.heap.size w2 W3 := by rw [hW3]; exact Below.new (Below.refl _ _) _
  have f3 : Fresh W3 w2.heap.size #[.func (.func 54) #[] #[.pointer (some ⟨W1.heap.size, 0, none⟩)]] 80 := by rw [hW3]; exact Fresh.new _ _ _ _ rfl
  have HNR : Hid (∀ w4, Below W3.heap.size W3 w4 → Below W.heap.size W w4 ∧ W.heap.size < w2.heap.size ∧ W.heap.size < W1.heap.size ∧ NRel w4 s t l w2.heap.size W1.heap.size W.heap.size 0 [] w4) := by
    intro w4 hb
    have h1 := H1.out.2.lt
    have h2 := H2.out.2.lt
    refine ⟨Below.step H1.out.1 (Below.step H2.out.1 (Below.step b3 hb)), by omega, h1, Nat.zero_le _, rfl, by simp [betP], f3.below hb, (H2.out.2.below b3).below hb, ((H1.out.2.below H2.out.1).below b3).below hb, Turned.refl _ _⟩
  clear hW3 b3 f3
  go_wp2_with (first
    | (go_at_call 30; refine (along_any p _).mono ?_; rintro e4 w4 ⟨rfl, hb4⟩; have H4 := Lib.hid (HNR.out w4 hb4); clear hb4; unfold walkV)
    | (go_at_call 37; refine (HV.out w4 _ _ H4.out.1 H4.out.2.1 H4.out.2.2.1 H4.out.2.2.2).mono ?_; rintro e5 w5 ⟨⟨u5, rfl⟩, hf5, hb5⟩; have x5 := hf5.cell 0; simp only [List.getElem?_toArray, List.getElem?_cons_zero] at x5; have H5 := Lib.hid hb5; clear hf5 hb5))
  go_ret
  exact ⟨rfl, H5.out⟩
end Go.Proofs.Ytfffifmpfkkgbaa
