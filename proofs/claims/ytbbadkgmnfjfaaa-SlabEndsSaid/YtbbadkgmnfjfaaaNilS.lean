/- A slab that does not exist. -/
import Derived.Test.YtbbadkgmnfjfaaaDoes
namespace Go.Proofs.Ytbbadkgmnfjfaaa
open Go.RowKit
set_option maxRecDepth 100000
set_option maxHeartbeats 4000000

def NilS (W : World) (x : Option Addr) : Prop := x = none ∨ ∃ z, x = some ⟨z, 0, none⟩ ∧ Fresh W z #[.pointer none] 67
theorem NilS.below {W W' : World} {x : Option Addr} (h : NilS W x) (hb : Below W.heap.size W W') : NilS W' x := by
  rcases h with h | ⟨z, h1, h2⟩
  · exact .inl h
  · exact .inr ⟨z, h1, h2.below hb⟩
theorem nil_is {W : World} {x : Option Addr} (h : NilS W x) :
    Calls Try.prog 33 #[.pointer x] W fun e w' => e = .returned (.bool true) ∧ w' = W := by
  rcases h with rfl | ⟨z, rfl, h2⟩
  · go_enter Try.func33, Try.ntmps33
    go_wp2_with fail
    go_ret
    exact ⟨rfl, rfl⟩
  · have c : W.cell? ⟨z, 0, none⟩ = some (.pointer none) := h2.cell 0
    clear h2
    go_enter Try.func33, Try.ntmps33
    go_wp2_with fail
    go_ret
    exact ⟨rfl, rfl⟩
theorem nil_len {W : World} {x : Option Addr} (h : NilS W x) :
    Calls Try.prog 15 #[.pointer x] W fun e w' => e = .returned (.int .i64 0) ∧ Below W.heap.size W w' := by
  have HI : Hid (∀ W', Below W.heap.size W W' → Calls Try.prog 33 #[.pointer x] W' fun e w' => e = .returned (.bool true) ∧ w' = W') := fun W' hb => nil_is (h.below hb)
  clear h
  go_enter Try.func15, Try.ntmps15
  go_wp2_with fail
  refine (HI.out _ (by first | exact Below.refl _ _ | exact Below.new (Below.refl _ _) _ | exact Below.new (Below.new (Below.refl _ _) _) _)).mono ?_
  rintro e w1 ⟨rfl, hw1⟩
  replace hw1 := hw1.symm
  subst hw1
  go_wp2_with fail
  go_ret
  exact ⟨rfl, by first | exact Below.refl _ _ | exact Below.new (Below.refl _ _) _ | exact Below.new (Below.new (Below.refl _ _) _) _⟩
theorem nil_left {W : World} {x : Option Addr} (h : NilS W x) :
    Calls Try.prog 21 #[.pointer x] W fun e w' => e = .returned (.int .i64 0) ∧ Below W.heap.size W w' := by
  have HI : Hid (∀ W', Below W.heap.size W W' → Calls Try.prog 33 #[.pointer x] W' fun e w' => e = .returned (.bool true) ∧ w' = W') := fun W' hb => nil_is (h.below hb)
  clear h
  go_enter Try.func21, Try.ntmps21
  go_wp2_with fail
  refine (HI.out _ (by first | exact Below.refl _ _ | exact Below.new (Below.refl _ _) _ | exact Below.new (Below.new (Below.refl _ _) _) _)).mono ?_
  rintro e w1 ⟨rfl, hw1⟩
  replace hw1 := hw1.symm
  subst hw1
  go_wp2_with fail
  go_ret
  exact ⟨rfl, by first | exact Below.refl _ _ | exact Below.new (Below.refl _ _) _ | exact Below.new (Below.new (Below.refl _ _) _) _⟩
theorem nil_copy {W : World} {x : Option Addr} (h : NilS W x) :
    Calls Try.prog 29 #[.pointer x] W fun e w' => e = .returned (.pointer none) ∧ Below W.heap.size W w' := by
  have HI : Hid (∀ W', Below W.heap.size W W' → Calls Try.prog 33 #[.pointer x] W' fun e w' => e = .returned (.bool true) ∧ w' = W') := fun W' hb => nil_is (h.below hb)
  clear h
  go_enter Try.func29, Try.ntmps29
  go_wp2_with fail
  refine (HI.out _ (by first | exact Below.refl _ _ | exact Below.new (Below.refl _ _) _ | exact Below.new (Below.new (Below.refl _ _) _) _)).mono ?_
  rintro e w1 ⟨rfl, hw1⟩
  replace hw1 := hw1.symm
  subst hw1
  go_wp2_with fail
  go_ret
  exact ⟨rfl, by first | exact Below.refl _ _ | exact Below.new (Below.refl _ _) _ | exact Below.new (Below.new (Below.refl _ _) _) _⟩
theorem nil_free (s g : Int) {W : World} {x : Option Addr} (h : NilS W x) :
    Calls Try.prog 14 #[.pointer x, refV s g] W fun e w' => e = .returned (.int .i64 1) ∧ Below W.heap.size W w' := by
  have HI : Hid (∀ W', Below W.heap.size W W' → Calls Try.prog 33 #[.pointer x] W' fun e w' => e = .returned (.bool true) ∧ w' = W') := fun W' hb => nil_is (h.below hb)
  clear h
  go_enter Try.func14, Try.ntmps14
  go_wp2_with fail
  refine (HI.out _ (by first | exact Below.refl _ _ | exact Below.new (Below.refl _ _) _ | exact Below.new (Below.new (Below.refl _ _) _) _)).mono ?_
  rintro e w1 ⟨rfl, hw1⟩
  replace hw1 := hw1.symm
  subst hw1
  go_wp2_with fail
  go_ret
  exact ⟨rfl, by first | exact Below.refl _ _ | exact Below.new (Below.refl _ _) _ | exact Below.new (Below.new (Below.refl _ _) _) _⟩
theorem nil_set (s g y : Int) {W : World} {x : Option Addr} (h : NilS W x) :
    Calls Try.prog 19 #[.pointer x, refV s g, .int .i64 y] W fun e w' => e = .returned (.int .i64 1) ∧ Below W.heap.size W w' := by
  have HI : Hid (∀ W', Below W.heap.size W W' → Calls Try.prog 33 #[.pointer x] W' fun e w' => e = .returned (.bool true) ∧ w' = W') := fun W' hb => nil_is (h.below hb)
  clear h
  go_enter Try.func19, Try.ntmps19
  go_wp2_with fail
  refine (HI.out _ (by first | exact Below.refl _ _ | exact Below.new (Below.refl _ _) _ | exact Below.new (Below.new (Below.refl _ _) _) _)).mono ?_
  rintro e w1 ⟨rfl, hw1⟩
  replace hw1 := hw1.symm
  subst hw1
  go_wp2_with fail
  go_ret
  exact ⟨rfl, by first | exact Below.refl _ _ | exact Below.new (Below.refl _ _) _ | exact Below.new (Below.new (Below.refl _ _) _) _⟩
theorem nil_get (s g : Int) {W : World} {x : Option Addr} (h : NilS W x) :
    Calls Try.prog 20 #[.pointer x, refV s g] W fun e w' => e = .returned (.tuple #[.int .i64 0, .bool false]) ∧ Below W.heap.size W w' := by
  have HI : Hid (∀ W', Below W.heap.size W W' → Calls Try.prog 33 #[.pointer x] W' fun e w' => e = .returned (.bool true) ∧ w' = W') := fun W' hb => nil_is (h.below hb)
  clear h
  go_enter Try.func20, Try.ntmps20
  go_wp2_with fail
  refine (HI.out _ (by first | exact Below.refl _ _ | exact Below.new (Below.refl _ _) _ | exact Below.new (Below.new (Below.refl _ _) _) _)).mono ?_
  rintro e w1 ⟨rfl, hw1⟩
  replace hw1 := hw1.symm
  subst hw1
  go_wp2_with fail
  go_ret2
  exact ⟨rfl, by first | exact Below.refl _ _ | exact Below.new (Below.refl _ _) _ | exact Below.new (Below.new (Below.refl _ _) _) _⟩
theorem nil_take (y : Int) {W : World} {x : Option Addr} (h : NilS W x) :
    Calls Try.prog 12 #[.pointer x, .int .i64 y] W fun e w' => e = .returned (.tuple #[refV 0 0, .int .i64 1]) ∧ Below W.heap.size W w' := by
  have HI : Hid (∀ W', Below W.heap.size W W' → Calls Try.prog 33 #[.pointer x] W' fun e w' => e = .returned (.bool true) ∧ w' = W') := fun W' hb => nil_is (h.below hb)
  clear h
  go_enter Try.func12, Try.ntmps12
  go_wp2_with fail
  refine (HI.out _ (by first | exact Below.refl _ _ | exact Below.new (Below.refl _ _) _ | exact Below.new (Below.new (Below.refl _ _) _) _)).mono ?_
  rintro e w1 ⟨rfl, hw1⟩
  replace hw1 := hw1.symm
  subst hw1
  go_wp2_with fail
  refine bodyPost_ret (v := .tuple #[refV 0 0, .int .i64 1]) (by simp [results, Try.f12, go_sem]) rfl ⟨rfl, ?_⟩
  first | exact Below.refl _ _ | exact Below.new (Below.refl _ _) _ | exact Below.new (Below.new (Below.refl _ _) _) _
theorem all_ptr (x : Option Addr) (w : World) :
    Calls Try.prog 13 #[.pointer x] w fun e w' => e = .returned (.func (.func 35) #[] #[.pointer (some ⟨w.heap.size, 0, none⟩)]) ∧ w' = w.alloc (.cells #[.pointer x] 24) := by
  go_enter Try.func13, Try.ntmps13
  go_wp2_with fail
  go_ret
  exact ⟨rfl, rfl⟩
/-- Nothing is yielded. -/
theorem nil_own (n : Nat) (hn : 3 ≤ n) (b : Nat) (w : World) (x : Option Addr) (h : NilS w x) (hb : w.cell? ⟨b, 0, none⟩ = some (.pointer x)) (hbl : b < w.heap.size) (encs : Unit → Array Value) :
    SeqOwn Fence.wide n Try.prog 35 #[.pointer (some ⟨b, 0, none⟩)] encs (fun _ _ => True) (fun ys => ys = []) (fun _ => False) (fun _ => False) w := by
  intro l J Jx W hW hsz hJ hJx hY h0
  have hN := h.below hW
  have hbW : W.cell? ⟨b, 0, none⟩ = some (.pointer x) := (hW.cell (p := ⟨b, 0, none⟩) hbl).trans hb
  have hbW' : b < W.heap.size := by omega
  have HI : Hid (∀ W', Below W.heap.size W W' → Calls Try.prog 33 #[.pointer x] W' fun e w' => e = .returned (.bool true) ∧ w' = W') := fun W' hb => nil_is (hN.below hb)
  have HJ : Hid (∀ o, J [] (W.alloc o)) := fun o => hJ.alloc o h0
  clear hW h hb hbl hsz hN hJ hJx hY h0
  refine callsIn_of_wp_marks Try.func35 rfl trivial ?_ rfl
  simp only [Try.ntmps35, List.size_toArray, List.length_cons, List.length_nil, Nat.reduceAdd, Nat.reduceSub, Array.replicate_succ, Array.replicate_zero, List.push_toArray, List.append_toArray, List.nil_append, List.cons_append]
  gi_wp2_with (refine ⟨trivial, fun _ => by omega, ?_⟩; gi_at_call 33; refine (callsIn_wide.2 (HI.out _ (Below.new (Below.refl _ _) _))).mono ?_; rintro e w2 ⟨rfl, hw2⟩; replace hw2 := hw2.symm; subst hw2)
  refine ⟨_, results_none rfl _ _ _, ⟨_, rfl⟩, .inl ⟨[], rfl, HJ.out _⟩⟩
end Go.Proofs.Ytbbadkgmnfjfaaa
