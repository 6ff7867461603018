/- The chapter's example. -/
import Derived.Test.YtpnddccanelcnaaAct
namespace Go.Proofs.Ytpnddccanelcnaa
open Go.RowKit
set_option maxRecDepth 100000
set_option maxHeartbeats 8000000

def s0 : Pu := ⟨2, 10, 0, 0, 0, 0, 0, []⟩
def s1 : Pu := ⟨2, 10, 0, 0, 1, 6, 1, [⟨1, 1, 6⟩]⟩
def s3 : Pu := ⟨2, 10, 0, 0, 2, 10, 2, [⟨1, 1, 6⟩, ⟨2, 1, 4⟩]⟩
def s4 : Pu := ⟨2, 10, 1, 6, 2, 10, 2, [⟨2, 1, 4⟩]⟩
def s5 : Pu := ⟨2, 10, 1, 6, 1, 6, 2, []⟩
theorem ok_new (k b : Int) (hk : U k) (hb : U b) : Pu.Ok ⟨k, b, 0, 0, 0, 0, 0, []⟩ 0 :=
  ⟨hk, hb, Int.le_refl _, Int.le_refl _, hk.1, hb.1, rfl, rfl, List.nodup_nil, fun t h => (by cases h), fun t h => (by cases h), ⟨Int.le_refl _, Int.le_refl _⟩, Int.le_refl _⟩
theorem u_lit (x : Int) (h : decide (0 ≤ x ∧ x < 18446744073709551616) = true) : U x := by
  have := of_decide_eq_true h
  exact this
theorem ok0 : s0.Ok 0 := ok_new 2 10 (u_lit 2 (by decide)) (u_lit 10 (by decide))
theorem ok1 : s1.Ok 1 := ok0.res (x := 1) (y := 6) (u_lit 1 (by decide)) (u_lit 6 (by decide)) (by decide)
theorem ok3 : s3.Ok 2 := ok1.res (x := 1) (y := 4) (u_lit 1 (by decide)) (u_lit 4 (by decide)) (by decide)
theorem ok4 : s4.Ok 2 := ok3.com (n := 1) (t := ⟨1, 1, 6⟩) rfl
theorem ok5 : s5.Ok 2 := ok4.ref (n := 2) (t := ⟨2, 1, 4⟩) rfl

section
variable {W : World} {p a m : Nat}
theorem st1 (h : At W p a m s0) : Calls Try.prog 14 #[.pointer (some ⟨p, 0, none⟩), .int .u64 1, .int .u64 6] W fun e w' => e = .returned (.tuple #[.int .i64 1, .int .i64 0]) ∧ Turned [a, m] W w' ∧ At w' p a m s1 :=
  preserve_yes 1 6 h ok0.fit (u_lit 1 (by decide)) (u_lit 6 (by decide)) (by decide) ok0.uniq ok0.next (by decide) (by decide)
theorem st2 (h : At W p a m s1) : Calls Try.prog 14 #[.pointer (some ⟨p, 0, none⟩), .int .u64 1, .int .u64 5] W fun e w' => e = .returned (.tuple #[.int .i64 0, .int .i64 10]) ∧ Turned [a, m] W w' ∧ At w' p a m s1 :=
  preserve_no 1 5 h ok1.fit (u_lit 1 (by decide)) (u_lit 5 (by decide)) (by decide)
theorem st3 (h : At W p a m s1) : Calls Try.prog 14 #[.pointer (some ⟨p, 0, none⟩), .int .u64 1, .int .u64 4] W fun e w' => e = .returned (.tuple #[.int .i64 2, .int .i64 0]) ∧ Turned [a, m] W w' ∧ At w' p a m s3 :=
  preserve_yes 1 4 h ok1.fit (u_lit 1 (by decide)) (u_lit 4 (by decide)) (by decide) ok1.uniq ok1.next (by decide) (by decide)
theorem st4 (h : At W p a m s3) : Calls Try.prog 15 #[.pointer (some ⟨p, 0, none⟩), .int .i64 1] W fun e w' => e = .returned (.int .i64 0) ∧ Turned [a, m] W w' ∧ At w' p a m s4 :=
  commit_yes 1 ⟨1, 1, 6⟩ h ok3.uniq rfl (by decide) (by decide) (by decide) (by decide) (by decide) (by decide)
theorem st5 (h : At W p a m s4) : Calls Try.prog 16 #[.pointer (some ⟨p, 0, none⟩), .int .i64 2] W fun e w' => e = .returned (.int .i64 0) ∧ Turned [a, m] W w' ∧ At w' p a m s5 :=
  refund_yes 2 ⟨2, 1, 4⟩ h ok4.uniq rfl (by decide) (by decide) (by decide) (by decide) (by decide) (by decide)
theorem st6 (h : At W p a m s5) : Calls Try.prog 19 #[.pointer (some ⟨p, 0, none⟩)] W fun e w' => e = .returned (lim 1 6) ∧ Below W.heap.size W w' := has_any h
theorem st7 (h : At W p a m s5) : Calls Try.prog 21 #[.pointer (some ⟨p, 0, none⟩)] W fun e w' => e = .returned (lim 1 4) ∧ Below W.heap.size W w' := pleft_any h ok5.fit
theorem st8 (h : At W p a m s5) : Calls Try.prog 18 #[.pointer (some ⟨p, 0, none⟩), .int .u64 1, .int .u64 7] W fun e w' => e = .returned (.int .i64 10) ∧ Turned [a, m] W w' := (ppay_any 1 7 h ok5.fit (u_lit 1 (by decide)) (u_lit 7 (by decide))).mono fun e w' h => ⟨h.1, h.2.1⟩
theorem At.on {W W' : World} {s : Pu} (h : At W p a m s) (hb : Below W.heap.size W W') : At W' p a m s := h.below hb
end

theorem awake_any (w : World) : Calls Try.prog 9 #[] w fun e w' => e = .returned (.bool true) ∧ Below w.heap.size w w' := by
  go_enter Try.func9, Try.ntmps9
  go_wp2_with fail
  refine (new_any 2 10 _).mono ?_
  rintro e w1 ⟨p, a, m, hp, ha, hm, rfl, hb1, hat1⟩
  have HS : Hid (∀ k ∈ [a, m], w.heap.size ≤ k) := by intro k hk; simp at hk; rcases hk with rfl | rfl <;> assumption
  have HB1 := Lib.hid hb1
  have HA1 : Hid (At w1 p a m s0) := hat1
  clear hp ha hm hb1 hat1
  go_wp2_with fail
  refine (st1 HA1.out).mono ?_
  rintro e w2 ⟨rfl, ht, ha⟩
  have HB2 := Lib.hid (ht.below HB1.out HS.out HB1.out.size)
  have HA2 := Lib.hid ha
  clear ht ha
  go_wp2_with fail
  refine (st2 HA2.out).mono ?_
  rintro e w3 ⟨rfl, ht, ha⟩
  have HB3 := Lib.hid (ht.below HB2.out HS.out HB2.out.size)
  have HA3 := Lib.hid ha
  clear ht ha
  go_wp2_with fail
  refine (st3 HA3.out).mono ?_
  rintro e w4 ⟨rfl, ht, ha⟩
  have HB4 := Lib.hid (ht.below HB3.out HS.out HB3.out.size)
  have HA4 := Lib.hid ha
  clear ht ha
  go_wp2_with fail
  refine (st4 HA4.out).mono ?_
  rintro e w5 ⟨rfl, ht, ha⟩
  have HB5 := Lib.hid (ht.below HB4.out HS.out HB4.out.size)
  have HA5 := Lib.hid ha
  clear ht ha
  go_wp2_with fail
  refine (st5 HA5.out).mono ?_
  rintro e w6 ⟨rfl, ht, ha⟩
  have HB6 := Lib.hid (ht.below HB5.out HS.out HB5.out.size)
  have HA6 := Lib.hid ha
  clear ht ha
  go_wp2_with fail
  refine (st6 HA6.out).mono ?_
  rintro e w7 ⟨rfl, hb⟩
  have HB7 := Lib.hid (Below.step HB6.out hb)
  have HA7 := Lib.hid (HA6.out.below hb)
  clear hb
  go_wp2_with fail
  refine (st7 HA7.out).mono ?_
  rintro e w8 ⟨rfl, hb⟩
  have HB8 := Lib.hid (Below.step HB7.out hb)
  have HA8 := Lib.hid (HA7.out.below hb)
  clear hb
  go_wp2_with fail
  refine (st8 HA8.out).mono ?_
  rintro e w9 ⟨rfl, ht⟩
  have HB9 := Lib.hid (ht.below HB8.out HS.out HB8.out.size)
  clear ht
  go_wp2_with fail
  go_ret
  exact ⟨rfl, HB9.out⟩

end Go.Proofs.Ytpnddccanelcnaa
