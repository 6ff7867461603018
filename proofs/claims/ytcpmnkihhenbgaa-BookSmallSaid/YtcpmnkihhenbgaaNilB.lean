/- Books that do not exist: what every method answers. -/
import Derived.Test.YtcpmnkihhenbgaaAwakeB
import Derived.Test.YtcpmnkihhenbgaaSameP
namespace Go.Proofs.Ytcpmnkihhenbgaa
open Go.RowKit
set_option maxRecDepth 1000000
set_option maxHeartbeats 4000000

/-- A book that does not exist, or one without a store. -/
def NilB (W : World) (x : Option Addr) : Prop := x = none ∨ ∃ p, x = some ⟨p, 0, none⟩ ∧ Fresh W p #[.pointer none] 74
theorem NilB.below {W W' : World} {x : Option Addr} (h : NilB W x) (hb : Below W.heap.size W W') : NilB W' x := by
  rcases h with h | ⟨p, h1, h2⟩
  · exact .inl h
  · exact .inr ⟨p, h1, h2.below hb⟩
theorem cell_ltb {W : World} {p : Addr} {v : Value} (h : W.cell? p = some v) : p.block < W.heap.size := by
  rcases Nat.lt_or_ge p.block W.heap.size with h1 | h1
  · exact h1
  · simp [World.cell?, Array.getElem?_eq_none h1] at h
theorem nilb_none (W : World) : NilB W none := .inl rfl
theorem nilb_is {W : World} {x : Option Addr} (h : NilB W x) :
    Calls Try.prog 44 #[.pointer x] W fun e w => e = .returned (.bool true) ∧ w = W := by
  rcases h with rfl | ⟨p, rfl, hp⟩
  · go_enter Try.func44, Try.ntmps44
    go_wp2_with fail
    go_ret
    exact ⟨rfl, rfl⟩
  · have c0 := hp.cell 0
    simp only [List.getElem?_toArray, List.getElem?_cons_zero] at c0
    clear hp
    go_enter Try.func44, Try.ntmps44
    go_wp2_with fail
    go_ret
    exact ⟨rfl, rfl⟩
theorem nilb_keys {W : World} {x : Option Addr} (h : NilB W x) :
    Calls Try.prog 24 #[.pointer x] W fun e w => e = .returned (.int .u64 0) ∧ w = W := by
  have HI := Lib.hid (nilb_is h)
  clear h
  go_enter Try.func24, Try.ntmps24
  go_wp2_with (go_at_call 44; refine HI.out.mono ?_; rintro e1 w1 ⟨rfl, hw1⟩; replace hw1 := hw1.symm; subst hw1)
  go_ret
  exact ⟨rfl, rfl⟩
theorem nilb_bytes {W : World} {x : Option Addr} (h : NilB W x) :
    Calls Try.prog 25 #[.pointer x] W fun e w => e = .returned (.int .u64 0) ∧ w = W := by
  have HI := Lib.hid (nilb_is h)
  clear h
  go_enter Try.func25, Try.ntmps25
  go_wp2_with (go_at_call 44; refine HI.out.mono ?_; rintro e1 w1 ⟨rfl, hw1⟩; replace hw1 := hw1.symm; subst hw1)
  go_ret
  exact ⟨rfl, rfl⟩
theorem nilb_copy {W : World} {x : Option Addr} (h : NilB W x) :
    Calls Try.prog 18 #[.pointer x] W fun e w => e = .returned (.pointer none) ∧ w = W := by
  have HI := Lib.hid (nilb_is h)
  clear h
  go_enter Try.func18, Try.ntmps18
  go_wp2_with (go_at_call 44; refine HI.out.mono ?_; rintro e1 w1 ⟨rfl, hw1⟩; replace hw1 := hw1.symm; subst hw1)
  go_ret
  exact ⟨rfl, rfl⟩
theorem nilb_errno {W : World} {x : Option Addr} (h : NilB W x) (k : ByteArray) (a : Option Addr) (n c : Nat) :
    Calls Try.prog 38 #[.pointer x, .string k, .slice a n c] W fun e w => e = .returned (.int .i64 1) ∧ w = W := by
  have HI := Lib.hid (nilb_is h)
  clear h
  go_enter Try.func38, Try.ntmps38
  go_wp2_with (go_at_call 44; refine HI.out.mono ?_; rintro e1 w1 ⟨rfl, hw1⟩; replace hw1 := hw1.symm; subst hw1)
  go_ret
  exact ⟨rfl, rfl⟩
theorem nilb_get {W : World} {x : Option Addr} (h : NilB W x) (k : ByteArray) :
    Calls Try.prog 28 #[.pointer x, .string k] W fun e w => e = .returned (.tuple #[.string ⟨#[]⟩, .int .i64 1]) ∧ Below W.heap.size W w := by
  have HE : Hid (∀ W', Below W.heap.size W W' → ∀ a n c, Calls Try.prog 38 #[.pointer x, .string k, .slice a n c] W' fun e w => e = .returned (.int .i64 1) ∧ w = W') := fun W' hb a n c => nilb_errno (h.below hb) k a n c
  clear h
  go_enter Try.func28, Try.ntmps28
  go_wp2_with (go_at_call 38; refine (HE.out _ (Below.refl _ _) _ _ _).mono ?_; rintro e1 w1 ⟨rfl, hw1⟩; replace hw1 := hw1.symm; subst hw1)
  go_ret2
  exact ⟨rfl, Below.refl _ _⟩
theorem nilb_delete {W : World} {x : Option Addr} (h : NilB W x) (k : ByteArray) :
    Calls Try.prog 29 #[.pointer x, .string k] W fun e w => e = .returned (.int .i64 1) ∧ Below W.heap.size W w := by
  have HG := Lib.hid (nilb_get h k)
  clear h
  go_enter Try.func29, Try.ntmps29
  go_wp2_with (go_at_call 28; refine HG.out.mono ?_; rintro e1 w1 ⟨rfl, hb1⟩; have H1 := Lib.hid hb1; clear hb1)
  go_ret
  exact ⟨rfl, H1.out⟩
theorem nilb_put {W : World} {x : Option Addr} (h : NilB W x) (k v : ByteArray) :
    Calls Try.prog 31 #[.pointer x, .string k, .string v] W fun e w => e = .returned (.int .i64 1) ∧ Below W.heap.size W w := by
  have HE : Hid (∀ W', Below W.heap.size W W' → ∀ a n c, Calls Try.prog 38 #[.pointer x, .string k, .slice a n c] W' fun e w => e = .returned (.int .i64 1) ∧ w = W') := fun W' hb a n c => nilb_errno (h.below hb) k a n c
  clear h
  go_enter Try.func31, Try.ntmps31
  go_wp2_with (go_at_call 38; refine (HE.out _ (Below.new (Below.refl _ _) _) _ _ _).mono ?_; rintro e1 w1 ⟨rfl, hw1⟩; replace hw1 := hw1.symm; subst hw1)
  go_ret
  exact ⟨rfl, Below.new (Below.refl _ _) _⟩
theorem nilb_swap {W : World} {x : Option Addr} (h : NilB W x) (k o v : ByteArray) :
    Calls Try.prog 30 #[.pointer x, .string k, .string o, .string v] W fun e w => e = .returned (.int .i64 1) ∧ Below W.heap.size W w := by
  have HE : Hid (∀ W', Below W.heap.size W W' → ∀ a n c, Calls Try.prog 38 #[.pointer x, .string k, .slice a n c] W' fun e w => e = .returned (.int .i64 1) ∧ w = W') := fun W' hb a n c => nilb_errno (h.below hb) k a n c
  clear h
  go_enter Try.func30, Try.ntmps30
  go_wp2_with (go_at_call 38; refine (HE.out _ (Below.new (Below.refl _ _) _) _ _ _).mono ?_; rintro e1 w1 ⟨rfl, hw1⟩; replace hw1 := hw1.symm; subst hw1)
  go_ret
  exact ⟨rfl, Below.new (Below.refl _ _) _⟩
theorem nilb_scan {W : World} {x : Option Addr} (h : NilB W x) (k : ByteArray) (n : Int) :
    Calls Try.prog 14 #[.pointer x, .string k, .int .i64 n] W fun e w => e = .returned (.tuple #[.slice none 0 0, .int .i64 1]) ∧ Below W.heap.size W w := by
  have HE : Hid (∀ W', Below W.heap.size W W' → ∀ a n c, Calls Try.prog 38 #[.pointer x, .string k, .slice a n c] W' fun e w => e = .returned (.int .i64 1) ∧ w = W') := fun W' hb a n c => nilb_errno (h.below hb) k a n c
  obtain ⟨W1, hW1⟩ : ∃ W1, W1 = W.alloc (.cells #[.pointer x] 27) := ⟨_, rfl⟩
  have B1 : Below W.heap.size W W1 := by rw [hW1]; exact Below.new (Below.refl _ _) _
  have f1 : Fresh W1 W.heap.size #[.pointer x] 27 := by rw [hW1]; exact Fresh.new _ _ _ _ rfl
  have c1 := f1.cell 0
  simp only [List.getElem?_toArray, List.getElem?_cons_zero] at c1
  have HW1 := Lib.hid hW1
  have HB1 := Lib.hid B1
  clear h hW1 B1 f1
  refine (callsIn_wide (n := 10)).1 ?_
  refine callsIn_of_wp_marks Try.func14 rfl trivial ?_ rfl
  simp only [Try.ntmps14, List.size_toArray, List.length_cons, List.length_nil, Nat.reduceAdd, Nat.reduceSub, Array.replicate_succ, Array.replicate_zero, List.push_toArray, List.append_toArray, List.nil_append, List.cons_append]
  refine wpIn_wide.2 ?_
  refine wp_mono (Q := calmQ _) ?_ calmQ_out
  go_upto_region 1 with fail
  rw [← HW1.out]
  go_wp2_with (go_at_call 38; refine (HE.out _ HB1.out _ _ _).mono ?_; rintro e1 w1 ⟨rfl, hw1⟩; replace hw1 := hw1.symm; subst hw1)
  refine calm_ret (v := .tuple #[.slice none 0 0, .int .i64 1]) rfl ?_ ⟨rfl, HB1.out⟩
  simp [results, Try.results14, go_sem]
theorem nilb_all (x : Option Addr) (w : World) : Calls Try.prog 19 #[.pointer x] w fun e w' => e = .returned (.func (.func 46) #[] #[.pointer (some ⟨w.heap.size, 0, none⟩)]) ∧ w' = w.alloc (.cells #[.pointer x] 27) := by
  have hmf := @makeFunc_run Try.prog
  go_enter Try.func19, Try.ntmps19
  go_wp2
  go_ret
  exact ⟨rfl, rfl⟩
theorem nilb_own (n : Nat) (hn : 3 ≤ n) (b : Nat) (w : World) (x : Option Addr) (h : NilB w x) (hb : w.cell? ⟨b, 0, none⟩ = some (.pointer x)) (encs : Unit → Array Value) :
    SeqOwn Fence.wide n Try.prog 46 #[.pointer (some ⟨b, 0, none⟩)] encs (fun _ _ => True) (fun ys => ys = []) (fun _ => False) (fun _ => False) w := by
  intro l J Jx W hW hsz hJ hJx hY h0
  have hbl := cell_ltb hb
  have hN := h.below hW
  have hbW : W.cell? ⟨b, 0, none⟩ = some (.pointer x) := (hW.cell (p := ⟨b, 0, none⟩) hbl).trans hb
  have hbW' : b < W.heap.size := by
    have : b < w.heap.size := hbl
    have := hW.size
    omega
  have HI : Hid (∀ W', Below W.heap.size W W' → Calls Try.prog 44 #[.pointer x] W' fun e w' => e = .returned (.bool true) ∧ w' = W') := fun W' hb => nilb_is (hN.below hb)
  have HJ : Hid (∀ o, J [] (W.alloc o)) := fun o => hJ.alloc o h0
  clear hW h hb hbl hsz hN hJ hJx hY h0
  refine callsIn_of_wp_marks Try.func46 rfl trivial ?_ rfl
  simp only [Try.ntmps46, List.size_toArray, List.length_cons, List.length_nil, Nat.reduceAdd, Nat.reduceSub, Array.replicate_succ, Array.replicate_zero, List.push_toArray, List.append_toArray, List.nil_append, List.cons_append]
  gi_wp2_with (refine ⟨trivial, fun _ => by omega, ?_⟩; gi_at_call 44; refine (callsIn_wide.2 (HI.out _ (Below.new (Below.refl _ _) _))).mono ?_; rintro e w2 ⟨rfl, hw2⟩; replace hw2 := hw2.symm; subst hw2)
  refine ⟨_, results_none rfl _ _ _, ⟨_, rfl⟩, .inl ⟨[], rfl, HJ.out _⟩⟩
theorem nilb_pairs {W : World} {x : Option Addr} (h : NilB W x) :
    Calls Try.prog 21 #[.pointer x] W fun e w => e = .returned (.slice none 0 0) ∧ Below W.heap.size W w := by
  have HH := Lib.hid h
  clear h
  refine (callsIn_wide (n := 10)).1 ?_
  refine callsIn_of_wp_marks Try.func21 rfl trivial ?_ rfl
  simp only [Try.ntmps21, List.size_toArray, List.length_cons, List.length_nil, Nat.reduceAdd, Nat.reduceSub, Array.replicate_succ, Array.replicate_zero, List.push_toArray, List.append_toArray, List.nil_append, List.cons_append]
  refine wpIn_wide.2 ?_
  refine wp_mono (Q := calmQ _) ?_ calmQ_out
  go_upto_region 2 with fail
  obtain ⟨W1, hW1⟩ : ∃ W1, W1 = W.alloc (.cells #[.slice none 0 0] 29) := ⟨_, rfl⟩
  rw [← hW1]
  have B1 : Below W.heap.size W W1 := by rw [hW1]; exact Below.new (Below.refl _ _) _
  have fx1 : Fresh W1 W.heap.size #[.slice none 0 0] 29 := by rw [hW1]; exact Fresh.new _ _ _ _ rfl
  have H1 := Lib.hid (And.intro B1 fx1)
  clear hW1 B1 fx1
  go_wp2_with (go_at_call 19; refine (nilb_all _ _).mono ?_; rintro e WL ⟨rfl, hWL⟩; have HWL := Lib.hid hWL; clear hWL)
  have BL : Below W1.heap.size W1 WL := by rw [HWL.out]; exact Below.new (Below.refl _ _) _
  have fs : Fresh WL W1.heap.size #[.pointer x] 27 := by rw [HWL.out]; exact Fresh.new _ _ _ _ rfl
  have BVL := Below.step H1.out.1 BL
  refine (wpIn_wide (n := 10)).1 ?_
  refine range_box rfl (by omega) (gf := 46) (lb := #[.pointer (some ⟨W1.heap.size, 0, none⟩)]) rfl trivial (enters_of Try.func46 (by kernel_rfl) rfl)
    (nilb_own 9 (by omega) W1.heap.size WL x (HH.out.below BVL) (fs.cell 0) (fun _ => #[undef, undef]))
    (fun _ _ => trivial) (fun _ _ _ => trivial) (Below.refl _ _) (fun _ => rfl)
    (fun _ Wc => Below WL.heap.size WL Wc) (fun _ _ _ => False) (ownFrom_below (Nat.le_refl _) (Nat.le_refl _)) (fun _ _ _ _ _ h _ _ => h) (Below.refl _ _)
    (fun _ _ _ => False) (fun _ _ _ _ _ _ h _ _ => h) (fun _ _ _ _ _ hG => hG.elim) (fun _ _ _ _ _ hG => hG.elim) ?_ (fun _ _ _ _ _ h => h.elim)
  rintro D0 xs V5 hD0 _ hB5 hD5
  have HB5 := Lib.hid (Below.step BVL hB5)
  have HD0 := Lib.hid (And.intro hD0 hD5)
  have f5 := H1.out.2.below (Below.step BL hB5)
  have d1 := f5.cell 0
  simp only [List.getElem?_toArray, List.getElem?_cons_zero] at d1
  have HLW : Hid (W.heap.size ≤ WL.heap.size) := BVL.size
  clear BL fs BVL hD0 hB5 hD5 f5 HWL H1
  go_wp2
  refine calm_ret1 (v := .slice none 0 0) rfl HD0.out.2 ?_ ⟨rfl, ?_⟩
  · simp [results, Try.results21, go_sem]
  · exact Turned.below (S := [D0]) HB5.out (Turned.put (by simp) _) (by simp; have := HD0.out.1; have := HLW.out; omega) HB5.out.size
end Go.Proofs.Ytcpmnkihhenbgaa
