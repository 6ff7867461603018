/- A book of the call's own; the example of the chapter. -/
import Derived.Test.YtcpmnkihhenbgaaBook3
namespace Go.Proofs.Ytcpmnkihhenbgaa
open Go.RowKit
set_option maxRecDepth 1000000
set_option maxHeartbeats 4000000

/-- A book of the call's own. -/
structure Here (w W : World) (p q e m : Nat) (l : List Pr) (K B : Nat) : Prop where
  bk : BookAt W p q e m l K B
  low : Below w.heap.size w W
  hp : w.heap.size ≤ p
  hq : w.heap.size ≤ q
  he : w.heap.size ≤ e
  hm : w.heap.size ≤ m
theorem Here.went {w W W' : World} {p q e e2 m : Nat} {l l2 : List Pr} {K B : Nat} (h : Here w W p q e m l K B) (h2 : Went W W' p q e e2 m l2 K B) : Here w W' p q e2 m l2 K B := by
  have hs := h.low.size
  refine ⟨h2.bk, Turned.below h.low h2.turned ?_ hs, h.hp, h.hq, ?_, h.hm⟩
  · intro k hk
    simp at hk
    rcases hk with rfl | rfl | rfl
    · exact h.hq
    · exact h.he
    · exact h.hm
  · rcases h2.new with h3 | h3
    · rw [h3]; exact h.he
    · omega
theorem Here.below {w W W' : World} {p q e m : Nat} {l : List Pr} {K B : Nat} (h : Here w W p q e m l K B) (hb : Below W.heap.size W W') : Here w W' p q e m l K B :=
  ⟨h.bk.below hb, Below.step h.low hb, h.hp, h.hq, h.he, h.hm⟩
theorem new_here (K B : Nat) (w W : World) (hb : Below w.heap.size w W) :
    Calls Try.prog 10 #[.agg #[.int .u64 (K : Int), .int .u64 (B : Int)]] W fun e' w' => ∃ p q m, e' = .returned (.pointer (some ⟨p, 0, none⟩)) ∧ Here w w' p q q m [] K B := by
  refine (new_any K B W).mono ?_
  rintro e' w' ⟨p, q, m, h1, h2, h3, rfl, h4, h5⟩
  have := hb.size
  exact ⟨p, q, m, rfl, h5, Below.step hb h4, by omega, by omega, by omega, by omega⟩
theorem put_here {w W : World} {p q e m : Nat} {l : List Pr} {K B : Nat} (h : Here w W p q e m l K B) (hn : l.length < 100000) (x y : ByteArray) :
    Calls Try.prog 31 #[.pointer (some ⟨p, 0, none⟩), .string x, .string y] W fun e' w' => e' = .returned (.int .i64 (putB x y l K B).2) ∧ ∃ e2, Here w w' p q e2 m (putB x y l K B).1 K B ∧ Turned [q, e, m] W w' :=
  (put_any h.bk hn x y).mono (by rintro e' w' ⟨h1, e2, h2⟩; exact ⟨h1, e2, h.went h2, h2.turned⟩)
theorem delete_here {w W : World} {p q e m : Nat} {l : List Pr} {K B : Nat} (h : Here w W p q e m l K B) (hn : l.length < 100000) (x : ByteArray) :
    Calls Try.prog 29 #[.pointer (some ⟨p, 0, none⟩), .string x] W fun e' w' => e' = .returned (.int .i64 (delB x l).2) ∧ ∃ e2, Here w w' p q e2 m (delB x l).1 K B ∧ Turned [q, e, m] W w' :=
  (delete_book h.bk hn x).mono (by rintro e' w' ⟨h1, e2, h2⟩; exact ⟨h1, e2, h.went h2, h2.turned⟩)
theorem swap_here {w W : World} {p q e m : Nat} {l : List Pr} {K B : Nat} (h : Here w W p q e m l K B) (hn : l.length < 100000) (x o y : ByteArray) :
    Calls Try.prog 30 #[.pointer (some ⟨p, 0, none⟩), .string x, .string o, .string y] W fun e' w' => e' = .returned (.int .i64 (swapB x o y l K B).2) ∧ ∃ e2, Here w w' p q e2 m (swapB x o y l K B).1 K B ∧ Turned [q, e, m] W w' :=
  (swap_any h.bk hn x o y).mono (by rintro e' w' ⟨h1, e2, h2⟩; exact ⟨h1, e2, h.went h2, h2.turned⟩)

theorem aw1 : putB ⟨#[97]⟩ ⟨#[49, 50, 51, 52]⟩ [] 2 9 = ([(⟨#[97]⟩, ⟨#[49, 50, 51, 52]⟩)], 0) := by kernel_rfl
theorem aw2 : putB ⟨#[98]⟩ ⟨#[49, 50, 51]⟩ [(⟨#[97]⟩, ⟨#[49, 50, 51, 52]⟩)] 2 9 = ([(⟨#[97]⟩, ⟨#[49, 50, 51, 52]⟩), (⟨#[98]⟩, ⟨#[49, 50, 51]⟩)], 0) := by kernel_rfl
theorem aw3 : putB ⟨#[98]⟩ ⟨#[49, 50, 51, 52]⟩ [(⟨#[97]⟩, ⟨#[49, 50, 51, 52]⟩), (⟨#[98]⟩, ⟨#[49, 50, 51]⟩)] 2 9 = ([(⟨#[97]⟩, ⟨#[49, 50, 51, 52]⟩), (⟨#[98]⟩, ⟨#[49, 50, 51]⟩)], 10) := by kernel_rfl
theorem aw4 : putB ⟨#[99]⟩ ⟨#[]⟩ [(⟨#[97]⟩, ⟨#[49, 50, 51, 52]⟩), (⟨#[98]⟩, ⟨#[49, 50, 51]⟩)] 2 9 = ([(⟨#[97]⟩, ⟨#[49, 50, 51, 52]⟩), (⟨#[98]⟩, ⟨#[49, 50, 51]⟩)], 10) := by kernel_rfl
theorem aw5 : swapB ⟨#[97]⟩ ⟨#[49, 50]⟩ ⟨#[49]⟩ [(⟨#[97]⟩, ⟨#[49, 50, 51, 52]⟩), (⟨#[98]⟩, ⟨#[49, 50, 51]⟩)] 2 9 = ([(⟨#[97]⟩, ⟨#[49, 50, 51, 52]⟩), (⟨#[98]⟩, ⟨#[49, 50, 51]⟩)], 9) := by kernel_rfl
theorem aw6 : delB ⟨#[97]⟩ [(⟨#[97]⟩, ⟨#[49, 50, 51, 52]⟩), (⟨#[98]⟩, ⟨#[49, 50, 51]⟩)] = ([(⟨#[98]⟩, ⟨#[49, 50, 51]⟩)], 0) := by kernel_rfl
theorem aw7 : putB ⟨#[99]⟩ ⟨#[49, 50]⟩ [(⟨#[98]⟩, ⟨#[49, 50, 51]⟩)] 2 9 = ([(⟨#[98]⟩, ⟨#[49, 50, 51]⟩), (⟨#[99]⟩, ⟨#[49, 50]⟩)], 0) := by kernel_rfl
theorem aw8 : lenP [(⟨#[97]⟩, ⟨#[49, 50, 51, 52]⟩), (⟨#[98]⟩, ⟨#[49, 50, 51]⟩)] = 9 := by kernel_rfl
theorem aw9 : lenP [(⟨#[98]⟩, ⟨#[49, 50, 51]⟩), (⟨#[99]⟩, ⟨#[49, 50]⟩)] = 7 := by kernel_rfl
theorem awake_any (w : World) : Calls Try.prog 9 #[] w fun e' w' => e' = .returned (.bool true) ∧ Below w.heap.size w w' := by
  go_enter Try.func9, Try.ntmps9
  go_wp2_with (first
    | (go_at_call 10; refine (new_here 2 9 w _ (Below.refl _ _)).mono ?_; rintro e1 w1 ⟨p, q, m, rfl, h1⟩; have HB := Lib.hid h1; clear h1)
    | (go_at_call 31; refine (put_here HB.out (by simp) _ _).mono ?_; (first | rw [aw1] | rw [aw2] | rw [aw3] | rw [aw4] | rw [aw7]); rintro e1 w1 ⟨rfl, g1, h1, _⟩; have HB := Lib.hid h1; clear h1)
    | (go_at_call 30; refine (swap_here HB.out (by simp) _ _ _).mono ?_; rw [aw5]; rintro e1 w1 ⟨rfl, g1, h1, _⟩; have HB := Lib.hid h1; clear h1)
    | (go_at_call 29; refine (delete_here HB.out (by simp) _).mono ?_; rw [aw6]; rintro e1 w1 ⟨rfl, g1, h1, _⟩; have HB := Lib.hid h1; clear h1)
    | (go_at_call 25; refine (bytes_any HB.out.bk).mono ?_; (first | rw [aw8] | rw [aw9]); rintro e1 w1 ⟨rfl, rfl⟩)
    | (go_at_call 24; refine (keys_any HB.out.bk (by simp)).mono ?_; rintro e1 w1 ⟨rfl, rfl⟩))
  go_ret
  exact ⟨rfl, HB.out.low⟩
end Go.Proofs.Ytcpmnkihhenbgaa
