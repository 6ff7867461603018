/- From, Begin, Goes. -/
import Derived.Test.YtfffifmpfkkgbaaQuery
namespace Go.Proofs.Ytfffifmpfkkgbaa
open Go.RowKit Go.Shelf
set_option maxRecDepth 1000000
set_option maxHeartbeats 4000000

theorem goes_any (p : Nat) (x : ByteArray) (W : World) : Calls Try.prog 10 #[.pointer (some ⟨p, 0, none⟩), .string x] W fun e w' => ∃ w1, Below W.heap.size W w1 ∧ e = .returned (.func (.func 50) #[] #[.pointer (some ⟨w1.heap.size, 0, none⟩), .pointer (some ⟨w1.heap.size + 1, 0, none⟩)]) ∧ w' = (w1.alloc (.cells #[.pointer (some ⟨p, 0, none⟩)] 74)).alloc (.cells #[.string x] 9) := by
  go_enter Try.func10, Try.ntmps10
  go_wp2_with (first
    | (go_at_call 30; refine (along_any p _).mono ?_; rintro e1 w1 ⟨rfl, hb1⟩; have HB1 := Lib.hid hb1; clear hb1; unfold walkV)
    | (go_at_call 31; refine (wfrom_any p x _).mono ?_; rintro e2 w2 ⟨rfl, hw2⟩; have HW2 := Lib.hid hw2; clear hw2))
  go_ret
  exact ⟨w1, HB1.out, rfl, HW2.out⟩
/-! ### Prefixes -/
theorem isPrefix_iff : ∀ p s : List UInt8, p.isPrefixOf s = (decide (p.length ≤ s.length) && (s.take p.length == p))
  | [], s => by simp
  | _ :: _, [] => rfl
  | a :: p, b :: s => by
    simp only [List.isPrefixOf, isPrefix_iff p s, List.length_cons, List.take_succ_cons, Nat.add_le_add_iff_right]
    cases h : decide (p.length ≤ s.length)
    · simp
    · have e : (a == b) = (b == a) := by rw [Bool.eq_iff_iff, beq_iff_eq, beq_iff_eq]; exact eq_comm
      rw [e]
      simp only [Bool.true_and]
      rfl
theorem beg_bytes (s p : ByteArray) : begB p s = (decide (p.size ≤ s.size) && ((s.extract 0 p.size).data.toList == p.data.toList)) := by
  unfold begB
  rw [isPrefix_iff, extract_list, length_list, length_list]; simp
theorem hasPrefix_any (s p : ByteArray) (w : World) (hs : s.size ≤ maxLen) (hp : p.size ≤ maxLen) :
    Calls Try.prog 58 #[.string s, .string p] w fun e w' => e = .returned (.bool (begB p s)) ∧ w' = w := by
  have HP := Lib.hid (beg_bytes s p)
  unfold maxLen at hs hp
  by_cases h : p.size ≤ s.size
  all_goals
    go_enter Try.func58, Try.ntmps58
    go_wp2
    go_ret
    refine ⟨ret_bool ?_, rfl⟩
    rw [HP.out]
    first
      | (rw [ByteArray.toList_eq, ByteArray.toList_eq]; simp [h]; done)
      | (simp [h]; done)
theorem hasPrefix2_any (s p : ByteArray) (w : World) (hs : s.size ≤ maxLen) (hp : p.size ≤ maxLen) :
    Calls Try.prog 41 #[.string s, .string p] w fun e w' => e = .returned (.bool (begB p s)) ∧ w' = w := by
  have HA := Lib.hid (And.intro hs hp)
  clear hs hp
  go_enter Try.func41, Try.ntmps41
  go_wp2_with (go_at_call 58; refine (hasPrefix_any s p _ HA.out.1 HA.out.2).mono ?_; rintro e w1 ⟨rfl, rfl⟩)
  go_ret
  exact ⟨rfl, rfl⟩
theorem begin1_any (tb : Nat) (t : ByteArray) (ht : t.size ≤ maxLen) (z : Pr) (hz : z.1.size ≤ maxLen) (A : World) (h : Fresh A tb #[.string t] 9) :
    Calls Try.prog 40 #[pairV z, .pointer (some ⟨tb, 0, none⟩)] A fun e B => e = .returned (.bool (begB t z.1)) ∧ Below A.heap.size A B := by
  obtain ⟨zk, zv⟩ := z
  obtain ⟨W1, hW1⟩ : ∃ W1, W1 = A.alloc (.cells #[.string zk, .string zv] 34) := ⟨_, rfl⟩
  have b1 : Below A.heap.size A W1 := by rw [hW1]; exact Below.new (Below.refl _ _) _
  have fz : Fresh W1 A.heap.size #[.string zk, .string zv] 34 := by rw [hW1]; exact Fresh.new _ _ _ _ rfl
  have c0 := (h.below b1).cell 0
  have z0 := fz.cell 0
  simp only [List.getElem?_toArray, List.getElem?_cons_zero] at c0 z0
  have HW1 := Lib.hid hW1
  have HB := Lib.hid b1
  have HT := Lib.hid (And.intro hz ht)
  clear h hW1 b1 fz hz ht
  unfold pairV
  dsimp only at HT ⊢
  go_enter Try.func40, Try.ntmps40
  go_upto_region 1 with fail
  rw [← HW1.out]
  go_wp2_with (go_at_call 41; refine (hasPrefix2_any zk t _ HT.out.1 HT.out.2).mono ?_; rintro e w1 ⟨rfl, h1⟩; replace h1 := h1.symm; subst h1)
  go_ret
  exact ⟨rfl, HB.out⟩
/-! ### From -/
def pickI (n : Int) : Nat → Pr → Bool := fun k _ => decide (0 ≤ IntKind.i64.wrap (n - ((k : Int) + 1)))
theorem wrap_less (x : Int) : IntKind.i64.wrap (IntKind.i64.wrap x - 1) = IntKind.i64.wrap (x - 1) := by
  rw [IntKind.wrap_i64, IntKind.wrap_i64, IntKind.wrap_i64]; omega
theorem from1_any (lb : Nat) (n : Int) (k : Nat) (z : Pr) (A : World) (h : Fresh A lb #[.int .i64 (IntKind.i64.wrap (n - (k : Int)))] 3) :
    Calls Try.prog 39 #[pairV z, .pointer (some ⟨lb, 0, none⟩)] A fun e B => e = .returned (.bool (pickI n k z)) ∧ Turned [lb] A B ∧ Fresh B lb #[.int .i64 (IntKind.i64.wrap (n - ((k + 1 : Nat) : Int)))] 3 := by
  obtain ⟨zk, zv⟩ := z
  obtain ⟨W1, hW1⟩ : ∃ W1, W1 = A.alloc (.cells #[.string zk, .string zv] 34) := ⟨_, rfl⟩
  have b1 : Below A.heap.size A W1 := by rw [hW1]; exact Below.new (Below.refl _ _) _
  have f1 := h.below b1
  obtain ⟨a, ha⟩ : ∃ a, IntKind.i64.wrap (n - (k : Int)) = a := ⟨_, rfl⟩
  obtain ⟨b, hb⟩ : ∃ b, IntKind.i64.wrap (n - ((k : Int) + 1)) = b := ⟨_, rfl⟩
  have hab : IntKind.i64.wrap (a - 1) = b := by rw [← ha, wrap_less, ← hb]; congr 1; omega
  have hb2 : IntKind.i64.wrap (n - ((k + 1 : Nat) : Int)) = b := by rw [← hb]; congr 1
  unfold pickI
  rw [hb, hb2]
  rw [ha] at f1
  have c0 := f1.cell 0
  have c1 := f1.thawed 0
  simp only [List.getElem?_toArray, List.getElem?_cons_zero] at c0
  have HW1 := Lib.hid hW1
  have HB := Lib.hid (And.intro b1 f1)
  clear h hW1 b1 f1 ha hb hb2
  unfold pairV
  dsimp only
  go_enter Try.func39, Try.ntmps39
  go_upto_region 1 with fail
  rw [← HW1.out]
  go_wp2_with fail
  go_ret
  exact ⟨rfl, (Turned.of_below HB.out.1).trans ((Turned.refl _ _).setCell (.inl (by simp)) _ _), HB.out.2.set 0 _⟩
theorem takeI_pick (n : Int) (h0 : 0 ≤ n) (hn : n ≤ 9223372036854775807) : ∀ (k : Nat) (L : List Pr), k + L.length ≤ 1000000 → takeI (pickI n) k L = L.take (n - (k : Int)).toNat
  | _, [], _ => by simp [takeI]
  | k, z :: L, h => by
    rw [List.length_cons] at h
    have hw : IntKind.i64.wrap (n - ((k : Int) + 1)) = n - ((k : Int) + 1) := by rw [IntKind.wrap_i64]; omega
    rw [takeI]
    unfold pickI
    rw [hw]
    by_cases hk : (0 : Int) ≤ n - ((k : Int) + 1)
    · rw [if_pos (decide_eq_true hk)]
      have ih := takeI_pick n h0 hn (k + 1) L (by omega)
      unfold pickI at ih
      rw [ih, show (n - (k : Int)).toNat = (n - ((k + 1 : Nat) : Int)).toNat + 1 from by omega, List.take_succ_cons]
    · rw [if_neg (by simpa using hk), show (n - (k : Int)).toNat = 0 from by omega]
      rfl
def frmP (s : ByteArray) (n : Int) (l : List Pr) : List Pr := (fromP s l).take (max n 0).toNat
theorem wfrom_q {W : World} {p q e m : Nat} {l : List Pr} (hA : ArtAt W p q e m l) (hlen : l.length < 100000) (s : ByteArray) (n : Int) (hn : n ≤ 9223372036854775807) :
    Calls Try.prog 20 #[.pointer (some ⟨p, 0, none⟩), .string s, .int .i64 n] W fun e B => ∃ v, e = .returned v ∧ Below W.heap.size W B ∧ B.ownsRow W.heap.size 34 2 v (frmP s n l).length (flatP (frmP s n l)) := by
  obtain ⟨W1, hW1⟩ : ∃ W1, W1 = W.alloc (.cells #[.int .i64 (max n 0)] 3) := ⟨_, rfl⟩
  have b1 : Below W.heap.size W W1 := by rw [hW1]; exact Below.new (Below.refl _ _) _
  have f1 : Fresh W1 W.heap.size #[.int .i64 (max n 0)] 3 := by rw [hW1]; exact Fresh.new _ _ _ _ rfl
  obtain ⟨a, ha⟩ : ∃ a, max n 0 = a := ⟨_, rfl⟩
  have h0 : 0 ≤ a := by omega
  have ha2 : a ≤ 9223372036854775807 := by omega
  have hw : IntKind.i64.wrap (a - ((0 : Nat) : Int)) = a := by rw [IntKind.wrap_i64]; omega
  have HH := Lib.hid (And.intro hA hlen)
  have hfr : takeI (pickI a) 0 (fromP s l) = frmP s n l := by
    rw [takeI_pick a h0 ha2 0 _ (by unfold fromP; simp; omega)]
    unfold frmP
    rw [ha]
    simp
  rw [ha] at f1 hW1
  have HC : Hid (∀ w1, Below W1.heap.size W1 w1 → Calls Try.prog 33 #[walkV p, .string s, .func (.func 39) #[] #[.pointer (some ⟨W.heap.size, 0, none⟩)]] w1 fun e B => ∃ v, e = .returned v ∧ Below W.heap.size W B ∧ B.ownsRow W.heap.size 34 2 v (frmP s n l).length (flatP (frmP s n l))) := by
    intro w1 hb
    have hlt := HH.out.1.lt
    have hf := f1.below hb
    have hB := Below.step b1 hb
    refine (collect_any (HH.out.1.below hB) HH.out.2 s 39 #[.pointer (some ⟨W.heap.size, 0, none⟩)] (enters_of Try.func39 (by kernel_rfl) rfl) (pickI a) (fun k A => Fresh A W.heap.size #[.int .i64 (IntKind.i64.wrap (a - (k : Int)))] 3) [W.heap.size] (by simpa using hf.lt) (by simp; omega) (by rw [hw]; exact hf)
      (fun k z A _ _ hi => (from1_any W.heap.size a k z A hi)) (fun k X Y h hi => (h W.heap.size (by simp)).trans hi)).mono ?_
    rintro e B ⟨v, rfl, hT, ho, kz, hkz⟩
    rw [hfr] at ho
    exact ⟨v, rfl, Turned.below (S := [W.heap.size]) hB hT (by simp) hB.size, row_low ho hB.size⟩
  have HW1 := Lib.hid hW1
  have HMX := Lib.hid ha
  clear hA hlen hfr b1 f1 hW1
  go_enter Try.func20, Try.ntmps20
  go_upto_region 2 with fail
  rw [← HW1.out]
  have hmf := @makeFunc_run Try.prog
  go_wp2_with (first
    | (go_at_call 30; refine (along_any p _).mono ?_; rintro e1 w1 ⟨rfl, hb1⟩; have HB1 := Lib.hid hb1; clear hb1; unfold walkV)
    | (go_at_call 33; refine (HC.out w1 HB1.out).mono ?_; rintro e3 w3 ⟨v3, rfl, hb3, ho3⟩; obtain ⟨a3, k3, rfl⟩ := row_form ho3; have H3 := Lib.hid (And.intro hb3 ho3); clear hb3 ho3))
  go_ret
  exact ⟨_, rfl, H3.out.1, H3.out.2⟩
theorem begin_q {W : World} {p q e m : Nat} {l : List Pr} (hA : ArtAt W p q e m l) (hlen : l.length < 100000) (s : ByteArray) (hs : s.size ≤ maxLen) :
    Calls Try.prog 23 #[.pointer (some ⟨p, 0, none⟩), .string s] W fun e B => ∃ v, e = .returned v ∧ Below W.heap.size W B ∧ B.ownsRow W.heap.size 34 2 v (begP s l).length (flatP (begP s l)) := by
  obtain ⟨W1, hW1⟩ : ∃ W1, W1 = W.alloc (.cells #[.string s] 9) := ⟨_, rfl⟩
  have b1 : Below W.heap.size W W1 := by rw [hW1]; exact Below.new (Below.refl _ _) _
  have f1 : Fresh W1 W.heap.size #[.string s] 9 := by rw [hW1]; exact Fresh.new _ _ _ _ rfl
  have HH := Lib.hid (And.intro hA hlen)
  have hks : ∀ z ∈ l, z.1.size ≤ maxLen := fun z hz => by
    have := CodeP.size (hA.good.2 z hz).1
    unfold maxLen
    omega
  have HC : Hid (∀ w1, Below W1.heap.size W1 w1 → Calls Try.prog 33 #[walkV p, .string s, .func (.func 40) #[] #[.pointer (some ⟨W.heap.size, 0, none⟩)]] w1 fun e B => ∃ v, e = .returned v ∧ Below W.heap.size W B ∧ B.ownsRow W.heap.size 34 2 v (begP s l).length (flatP (begP s l)) ∧ B.cell? ⟨W.heap.size, 0, none⟩ = some (.string s)) := by
    intro w1 hb
    have hlt := HH.out.1.lt
    have hf := f1.below hb
    have hB := Below.step b1 hb
    refine (collect_any (HH.out.1.below hB) HH.out.2 s 40 #[.pointer (some ⟨W.heap.size, 0, none⟩)] (enters_of Try.func40 (by kernel_rfl) rfl) (fun _ z => begB s z.1) (fun _ A => Fresh A W.heap.size #[.string s] 9) [W.heap.size] (by simpa using hf.lt) (by simp; omega) hf
      (fun k z A hz _ hi => ?_) (fun k X Y h hi => (h W.heap.size (by simp)).trans hi)).mono ?_
    · refine (begin1_any W.heap.size s hs z (hks z hz) A hi).mono ?_
      rintro e B ⟨rfl, hb2⟩
      exact ⟨rfl, Turned.of_below hb2, hi.below hb2⟩
    · rintro e B ⟨v, rfl, hT, ho, kz, hkz⟩
      rw [takeI_const] at ho
      exact ⟨v, rfl, Turned.below (S := [W.heap.size]) hB hT (by simp) hB.size, row_low ho hB.size, by have := Fresh.cell hkz 0; simpa using this⟩
  have c1 := f1.cell 0
  simp only [List.getElem?_toArray, List.getElem?_cons_zero] at c1
  have KS : Hid (∀ w, Below W1.heap.size W1 w → w.cell? ⟨W.heap.size, 0, none⟩ = some (.string s)) := fun w hb => (hb.cell (cell_lt' c1)).trans c1
  have HW1 := Lib.hid hW1
  have hmf := @makeFunc_run Try.prog
  clear hA hlen hs b1 f1 hks hW1
  go_enter Try.func23, Try.ntmps23
  go_upto_region 1 with fail
  rw [← HW1.out]
  have BD : Hid (Below W1.heap.size W1 W1.drew) := (Below.refl _ _).drew
  go_region_held3 (fun w => w.cell? ⟨W.heap.size, 0, none⟩ = some (.string s)) (first | go_keep | exact KS.out _ HB1.out | exact H3.out.2.2)
    (first
      | (go_at_call 30; refine (along_any p _).mono ?_; rintro e1 w1 ⟨rfl, hb1⟩; have HB1 := Lib.hid (Below.step BD.out hb1); clear hb1; unfold walkV)
      | (go_at_call 33; refine (HC.out _ HB1.out).mono ?_; rintro e3 w3 ⟨v3, rfl, hb3, ho3, hc3⟩; obtain ⟨a3, k3, rfl⟩ := row_form ho3; have H3 := Lib.hid (And.intro hb3 (And.intro ho3 hc3)); clear hb3 ho3 hc3))
  all_goals
    go_wp2_with fail
    go_ret
    exact ⟨_, rfl, H3.out.1, H3.out.2.1⟩
end Go.Proofs.Ytfffifmpfkkgbaa
