/- The walk of ManyDoes. -/
import Derived.Test.YtiifogbdoajnoaaDoesM
import Derived.Test.YtiifogbdoajnoaaSameF
import Derived.Test.YtiifogbdoajnoaaAwakeM
import Derived.Test.YtiifogbdoajnoaaOpenD
namespace Go.Proofs.Ytiifogbdoajnoaa
open Go.RowKit
set_option maxRecDepth 100000
set_option maxHeartbeats 8000000

/-- What holds ahead of a round of ManyDoes. -/
def RoundF (w : World) (B room : Nat) (vk : Value) (wr : World) : Prop := ∃ (p q eb : Nat) (l : List En), vk = .pointer (some ⟨p, 0, none⟩) ∧ ManyAt wr p q eb l room ∧ RefAt wr B l (room : Int) ∧ Srt l ∧ l.length ≤ room ∧ w.heap.size ≤ q ∧ w.heap.size ≤ eb ∧ eb ≠ B ∧ w.heap.size ≤ B ∧ Below w.heap.size w wr
theorem manyDoes_any (r : Int) (ao : Option Addr) (len cap : Nat) (w : World) (hd : IsDeeds w ao len) :
    Calls Try.prog 3 #[.int .i64 r, .slice ao len cap] w fun e w' => e = .returned (.bool true) ∧ Below w.heap.size w w' := by
  by_cases hc : 400 < len
  · have q1 : decide ((400 : Int) < (len : Int)) = true := decide_eq_true (by omega)
    clear hc hd
    go_enter Try.func3, Try.ntmps3
    go_wp2_with (go_at_call 7; refine (awake_any _).mono ?_; rintro e w1 ⟨rfl, hb1⟩)
    go_ret
    exact ⟨rfl, hb1⟩
  have hlen : len ≤ 400 := by omega
  have q1 : decide ((400 : Int) < (len : Int)) = false := decide_eq_false (by omega)
  by_cases hr : r = 48 ∨ r = 256
  · obtain ⟨room, rfl, hroom⟩ : ∃ room : Nat, r = (room : Int) ∧ (room = 48 ∨ room = 256) := by
      rcases hr with rfl | rfl
      · exact ⟨48, rfl, .inl rfl⟩
      · exact ⟨256, rfl, .inr rfl⟩
    have HC : Hid (room ≤ 256 ∧ len ≤ 400) := ⟨by omega, hlen⟩
    have HD := Lib.hid hd
    have K1 := Lib.hid (fun W => new_yes room hroom W)
    have K2 : Hid (∀ W : World, Calls Try.prog 9 #[.int .i64 (room : Int)] W fun e w' => e = .returned (.tuple #[.pointer (some ⟨W.heap.size, 0, none⟩), .bool true]) ∧ Below W.heap.size W w' ∧ RefAt w' W.heap.size [] (room : Int)) := Lib.hid fun W => by
      have := rnew_any (room : Int) W
      rw [decide_eq_true hr] at this
      exact this
    clear hc hd hr hroom hlen
    go_enter Try.func3, Try.ntmps3
    go_upto_region 5 with (first
      | (go_at_call 8; refine (K1.out _).mono ?_; rintro e w2 ⟨rfl, hb2, hf2⟩)
      | (go_at_call 9; refine (K2.out _).mono ?_; rintro e w3 ⟨rfl, hb3, hr3⟩))
    have HS : Hid (RoundF w w2.heap.size room (.pointer (some ⟨w.heap.size + 1, 0, none⟩)) w3) :=
      ⟨w.heap.size + 1, w.heap.size, w.heap.size, [], rfl, hf2.below hb3, hr3, List.Pairwise.nil, Nat.zero_le _, Nat.le_refl _, Nat.le_refl _, by have := hf2.lt; omega, hb2.size, Below.step hb2 hb3⟩
    obtain ⟨B, hB⟩ : ∃ B, w2.heap.size = B := ⟨_, rfl⟩
    rw [hB] at HS ⊢
    clear hb2 hb3 hf2 hr3 hB K1 K2
    go_wp2_with fail
    go_loopw [5, 9] (fun vk iv wr => ∃ i : Nat, i ≤ len ∧ iv = .int .i64 i ∧ RoundF w B room vk wr) (fun _ iv _ => len - (intOf iv).toNat)
    case atStart => exact ⟨0, by omega, rfl, HS.out⟩
    case round =>
      obtain ⟨i, hi, rfl, p, q, eb, l, rfl, hF, hR, hs, hl, hq, he, hne, hB, hb⟩ := hrel
      have i0 : (0 : Int) ≤ (i : Int) := by omega
      by_cases hlt : i < len
      · have i1 : (i : Int) < (len : Int) := by omega
        have i2 : decide (i < len) = true := decide_eq_true hlt
        obtain ⟨gd, od, rfl, d, hdok, hdat⟩ := HD.out.at' i hlt
        obtain ⟨hgl, d0, d1, d2, d3, d4⟩ := hdat _ hb
        have HX := Lib.hid (does_any hF hR hs hne HC.out.1 hl d.c d.x d.s d.g d.n)
        have HB := Lib.hid (And.intro hq (And.intro he (And.intro hB hb)))
        have HBL := Lib.hid (And.intro hF.lt hR.lt)
        have kw : IntKind.i64.wrap ((i : Int) + 1) = (i : Int) + 1 := IntWalk.i64_in _ (by have := HC.out; omega)
        clear hF hR hs hl hq he hne hB hb hdok hdat
        go_upto_region 13 with (go_at_call 10; refine HX.out.mono ?_; rintro e w4 ⟨p', q', e', l', rfl, hT', hF', hR', hs', hl', hq', he', hp', hn', hn2⟩)
        have HX' := Lib.hid (same_any hF' hR' hs')
        have HS' : Hid (RoundF w B room (.pointer (some ⟨p', 0, none⟩)) w4) := by
          obtain ⟨k1, k1', k2, k3⟩ := HB.out
          have z := k3.size
          exact ⟨p', q', e', l', rfl, hF', hR', hs', hl', by rcases hq' with rfl | h; exact k1; omega, by rcases he' with rfl | h; exact k1'; omega, hn2, k2, Turned.below k3 hT' (by intro k hk; simp at hk; omega) z⟩
        clear hT' hF' hR' hs' hl' hq' he' hp' hn' hn2 d0 d1 d2 d3 d4 HX
        go_wp2_with (go_at_call 11; refine HX'.out.mono ?_; rintro e w5 ⟨rfl, hb5⟩)
        have HR : Hid (RoundF w B room (.pointer (some ⟨p', 0, none⟩)) w5) := by
          obtain ⟨p2, q2, eb2, l2, e2, k1, k2, k3, k4, k5, k5', k5'', k6, k7⟩ := HS'.out
          exact ⟨p2, q2, eb2, l2, e2, k1.below hb5, k2.below hb5, k3, k4, k5, k5', k5'', k6, Below.step k7 hb5⟩
        clear hb5
        go_roundw
        case rel => exact ⟨i + 1, by omega, by first | rfl | go_num | (rw [kw]; rfl), HR.out⟩
        case measure => first | (simp [intOf]; omega) | (rw [kw]; simp [intOf]; omega)
      · obtain rfl : i = len := by omega
        have HX' := Lib.hid (same_any hF hR hs)
        have HB := Lib.hid hb
        clear hF hR hs hl hq he hne hB hb
        go_wp2_with (first
          | (go_at_call 11; refine HX'.out.mono ?_; rintro e w5 ⟨rfl, hb5⟩)
          | (go_at_call 7; refine (awake_any _).mono ?_; rintro e w6 ⟨rfl, hb6⟩))
        go_ret
        exact ⟨rfl, Below.step (Below.step HB.out hb5) hb6⟩
  · have h4 : r ≠ 48 := fun h => hr (.inl h)
    have h16 : r ≠ 256 := fun h => hr (.inr h)
    have K1 := Lib.hid (fun W => new_no r h4 h16 W)
    have K2 : Hid (∀ W : World, Calls Try.prog 9 #[.int .i64 r] W fun e w' => e = .returned (.tuple #[.pointer (some ⟨W.heap.size, 0, none⟩), .bool false]) ∧ Below W.heap.size W w' ∧ RefAt w' W.heap.size [] r) := Lib.hid fun W => by
      have := rnew_any r W
      rw [decide_eq_false hr] at this
      exact this
    clear hc hd hr hlen h4 h16
    go_enter Try.func3, Try.ntmps3
    go_wp2_with (first
      | (go_at_call 8; refine (K1.out _).mono ?_; rintro e w2 ⟨rfl, hb2⟩; replace hb2 := hb2.symm; subst hb2)
      | (go_at_call 9; refine (K2.out _).mono ?_; rintro e w3 ⟨rfl, hb3, hr3⟩)
      | (go_at_call 7; refine (awake_any _).mono ?_; rintro e w6 ⟨rfl, hb6⟩))
    go_ret
    exact ⟨rfl, Below.step hb3 hb6⟩
theorem manyDoes_walk (r : Int) (ao : Option Addr) (len cap : Nat) (w : World) (_ : (Lit.int .i64 r).wf = true) (hd : IsDeeds w ao len) :
    Calls Try.prog 3 #[.int .i64 r, .slice ao len cap] w fun e w' => e = .returned (.bool true) ∧ Below w.heap.size w w' := manyDoes_any r ao len cap w hd
end Go.Proofs.Ytiifogbdoajnoaa
