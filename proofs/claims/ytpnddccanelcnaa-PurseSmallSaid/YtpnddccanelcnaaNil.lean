/- A purse that does not exist. -/
import Derived.Test.YtpnddccanelcnaaTells
namespace Go.Proofs.Ytpnddccanelcnaa
open Go.RowKit
set_option maxRecDepth 100000
set_option maxHeartbeats 4000000

def NilP (W : World) (x : Option Addr) : Prop := x = none ∨ ∃ z, x = some ⟨z, 0, none⟩ ∧ Fresh W z #[.pointer none] 44
theorem NilP.below {W W' : World} {x : Option Addr} (h : NilP W x) (hb : Below W.heap.size W W') : NilP W' x := by
  rcases h with h | ⟨z, h1, h2⟩
  · exact .inl h
  · exact .inr ⟨z, h1, h2.below hb⟩
theorem nil_is {W : World} {x : Option Addr} (h : NilP W x) :
    Calls Try.prog 33 #[.pointer x] W fun e w' => e = .returned (.bool true) ∧ w' = W := by
  rcases h with rfl | ⟨z, rfl, h2⟩
  · go_enter Try.func33, Try.ntmps33
    go_wp2_with fail
    go_ret
    exact ⟨rfl, rfl⟩
  · have c : W.cell? ⟨z, 0, none⟩ = some (.pointer none) := h2.cell 0
    clear h2
    go_enter Try.func33, Try.ntmps33
    go_wp2_with fail
    go_ret
    exact ⟨rfl, rfl⟩
theorem nil_res {W : World} {x : Option Addr} (k b : Int) (h : NilP W x) :
    Calls Try.prog 14 #[.pointer x, .int .u64 k, .int .u64 b] W fun e w' => e = .returned (.tuple #[.int .i64 0, .int .i64 1]) ∧ Below W.heap.size W w' := by
  have HI := Lib.hid (nil_is h)
  have HB := Lib.hid (Below.refl W.heap.size W)
  clear h
  go_enter Try.func14, Try.ntmps14
  go_wp2_with fail
  refine HI.out.mono ?_
  rintro e w1 ⟨rfl, hw1⟩
  obtain rfl := hw1
  go_wp2_with fail
  go_ret2
  exact ⟨rfl, HB.out⟩
theorem nil_pay {W : World} {x : Option Addr} (k b : Int) (h : NilP W x) :
    Calls Try.prog 18 #[.pointer x, .int .u64 k, .int .u64 b] W fun e w' => e = .returned (.int .i64 1) ∧ Below W.heap.size W w' := by
  have HI := Lib.hid (nil_is h)
  have HB := Lib.hid (Below.refl W.heap.size W)
  clear h
  go_enter Try.func18, Try.ntmps18
  go_wp2_with fail
  refine HI.out.mono ?_
  rintro e w1 ⟨rfl, hw1⟩
  obtain rfl := hw1
  go_wp2_with fail
  go_ret
  exact ⟨rfl, HB.out⟩
theorem nil_take {W : World} {x : Option Addr} (k b : Int) (h : NilP W x) :
    Calls Try.prog 17 #[.pointer x, .int .u64 k, .int .u64 b] W fun e w' => e = .returned (.int .i64 1) ∧ Below W.heap.size W w' := by
  have HI := Lib.hid (nil_is h)
  have HB := Lib.hid (Below.refl W.heap.size W)
  clear h
  go_enter Try.func17, Try.ntmps17
  go_wp2_with fail
  refine HI.out.mono ?_
  rintro e w1 ⟨rfl, hw1⟩
  obtain rfl := hw1
  go_wp2_with fail
  go_ret
  exact ⟨rfl, HB.out⟩
theorem nil_end {W : World} {x : Option Addr} (n : Int) (f : Value) (h : NilP W x) :
    Calls Try.prog 36 #[.pointer x, .int .i64 n, f] W fun e w' => e = .returned (.int .i64 1) ∧ Below W.heap.size W w' := by
  have HI := Lib.hid (nil_is h)
  have HB := Lib.hid (Below.refl W.heap.size W)
  clear h
  go_enter Try.func36, Try.ntmps36
  go_wp2_with fail
  refine HI.out.mono ?_
  rintro e w1 ⟨rfl, hw1⟩
  obtain rfl := hw1
  go_wp2_with fail
  go_ret
  exact ⟨rfl, HB.out⟩
theorem nil_open {W : World} {x : Option Addr} (h : NilP W x) :
    Calls Try.prog 22 #[.pointer x] W fun e w' => e = .returned (.int .i64 0) ∧ Below W.heap.size W w' := by
  have HI := Lib.hid (nil_is h)
  have HB := Lib.hid (Below.refl W.heap.size W)
  clear h
  go_enter Try.func22, Try.ntmps22
  go_wp2_with fail
  refine HI.out.mono ?_
  rintro e w1 ⟨rfl, hw1⟩
  obtain rfl := hw1
  go_wp2_with fail
  go_ret
  exact ⟨rfl, HB.out⟩
theorem nil_copy {W : World} {x : Option Addr} (h : NilP W x) :
    Calls Try.prog 13 #[.pointer x] W fun e w' => e = .returned (.pointer none) ∧ Below W.heap.size W w' := by
  have HI := Lib.hid (nil_is h)
  have HB := Lib.hid (Below.refl W.heap.size W)
  clear h
  go_enter Try.func13, Try.ntmps13
  go_wp2_with fail
  refine HI.out.mono ?_
  rintro e w1 ⟨rfl, hw1⟩
  obtain rfl := hw1
  go_wp2_with fail
  go_ret
  exact ⟨rfl, HB.out⟩
theorem nil_commit {W : World} {x : Option Addr} (n : Int) (h : NilP W x) :
    Calls Try.prog 15 #[.pointer x, .int .i64 n] W fun e w' => e = .returned (.int .i64 1) ∧ Below W.heap.size W w' := by
  have HC := Lib.hid (nil_end n (.func (.methodOf 42 "burgage/purse.use") #[] #[]) h)
  have hmf := @makeFunc_run Try.prog
  clear h
  go_enter Try.func15, Try.ntmps15
  go_wp2_with fail
  refine HC.out.mono ?_
  rintro e w1 ⟨rfl, hb⟩
  have HB := Lib.hid hb
  clear hb
  go_wp2_with fail
  go_ret
  exact ⟨rfl, HB.out⟩
theorem nil_refund {W : World} {x : Option Addr} (n : Int) (h : NilP W x) :
    Calls Try.prog 16 #[.pointer x, .int .i64 n] W fun e w' => e = .returned (.int .i64 1) ∧ Below W.heap.size W w' := by
  have HC := Lib.hid (nil_end n (.func (.methodOf 42 "burgage/purse.free") #[] #[]) h)
  have hmf := @makeFunc_run Try.prog
  clear h
  go_enter Try.func16, Try.ntmps16
  go_wp2_with fail
  refine HC.out.mono ?_
  rintro e w1 ⟨rfl, hb⟩
  have HB := Lib.hid hb
  clear hb
  go_wp2_with fail
  go_ret
  exact ⟨rfl, HB.out⟩
theorem nil_has {W : World} {x : Option Addr} (h : NilP W x) :
    Calls Try.prog 19 #[.pointer x] W fun e w' => e = .returned (lim 0 0) ∧ Below W.heap.size W w' := by
  have B0 := (Below.refl W.heap.size W).alloc (Nat.le_refl _) (.cells #[.int .u64 0, .int .u64 0] 24)
  have HI := Lib.hid (nil_is (h.below B0))
  have HB := Lib.hid B0
  clear h B0
  go_enter Try.func19, Try.ntmps19
  go_wp2_with fail
  refine HI.out.mono ?_
  rintro e w1 ⟨rfl, hw1⟩
  subst hw1
  go_wp2_with fail
  exact bodyPost_ret (v := lim 0 0) (by simp [results, Try.results19, go_sem]) rfl ⟨rfl, HB.out⟩
theorem nil_bound {W : World} {x : Option Addr} (h : NilP W x) :
    Calls Try.prog 20 #[.pointer x] W fun e w' => e = .returned (lim 0 0) ∧ Below W.heap.size W w' := by
  have B0 := (Below.refl W.heap.size W).alloc (Nat.le_refl _) (.cells #[.int .u64 0, .int .u64 0] 24)
  have HI := Lib.hid (nil_is (h.below B0))
  have HB := Lib.hid B0
  clear h B0
  go_enter Try.func20, Try.ntmps20
  go_wp2_with fail
  refine HI.out.mono ?_
  rintro e w1 ⟨rfl, hw1⟩
  subst hw1
  go_wp2_with fail
  exact bodyPost_ret (v := lim 0 0) (by simp [results, Try.results20, go_sem]) rfl ⟨rfl, HB.out⟩
theorem nil_left {W : World} {x : Option Addr} (h : NilP W x) :
    Calls Try.prog 21 #[.pointer x] W fun e w' => e = .returned (lim 0 0) ∧ Below W.heap.size W w' := by
  have B0 := (Below.refl W.heap.size W).alloc (Nat.le_refl _) (.cells #[.int .u64 0, .int .u64 0] 24)
  have HI := Lib.hid (nil_is (h.below B0))
  have HB := Lib.hid B0
  clear h B0
  go_enter Try.func21, Try.ntmps21
  go_wp2_with fail
  refine HI.out.mono ?_
  rintro e w1 ⟨rfl, hw1⟩
  subst hw1
  go_wp2_with fail
  exact bodyPost_ret (v := lim 0 0) (by simp [results, Try.results21, go_sem]) rfl ⟨rfl, HB.out⟩
end Go.Proofs.Ytpnddccanelcnaa
