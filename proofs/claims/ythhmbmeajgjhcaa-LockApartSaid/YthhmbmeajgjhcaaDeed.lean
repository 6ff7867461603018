/- The law's operation on a table. -/
import Derived.Test.YthhmbmeajgjhcaaAll
import Derived.Test.YthhmbmeajgjhcaaPick
namespace Go.Proofs.Ythhmbmeajgjhcaa
open Go.RowKit
set_option maxRecDepth 100000
set_option maxHeartbeats 8000000

/-- What an operation makes of a table. -/
def dS (s : Lk) (y x g v w : Int) : Lk × Bool :=
  if y = 0 then ((addS s x g).1, (addS s x g).2 == 0)
  else if y = 1 then ((goneS s x g).1, (goneS s x g).2 == 0)
  else if y = 2 then (lockS s x g v, lockB s x g v)
  else if y = 3 then (lockS s x g w, lockB s x g w)
  else if y = 4 then ((relS (fun n => n - 1) s x g).1, (relS (fun n => n - 1) s x g).2 == 0)
  else if y = 5 then ((relS doneV s x g).1, (relS doneV s x g).2 == 0)
  else ((relS killV s x g).1, (relS killV s x g).2 == 0)
theorem dS_ok {s : Lk} {N : Int} (h : s.Ok N) (y x g v w : Int) : (dS s y x g v w).1.Ok (N + 1) := by
  unfold dS
  split
  · exact add_ok h x g
  · split
    · exact (gone_ok h x g).more (by omega)
    · split
      · exact lock_ok h x g v
      · split
        · exact lock_ok h x g w
        · split
          · exact (rel_ok h _ drop_rel x g).more (by omega)
          · split
            · exact (rel_ok h _ done_rel x g).more (by omega)
            · exact (rel_ok h _ kill_rel x g).more (by omega)
/-- What it makes of one word. -/
def dO (o : Option Wd) (y x g v w : Int) : Option Wd × Bool × Int :=
  if y = 0 then (if 0 ≤ x ∧ x < 4096 ∧ 1 ≤ g then (match o with | some t => (some t, false, 0) | none => (some ⟨x, g, 0⟩, true, 0)) else (o, false, 0))
  else if y = 1 then (none, o.isSome, 0)
  else if y = 2 then (if (o.isSome && (zeroW o == v) && (v % 4 == 0)) = true then (some ⟨x, g, v + 1⟩, true, 1) else (o, false, 0))
  else if y = 3 then (if (o.isSome && (zeroW o == w) && (w % 4 == 0)) = true then (some ⟨x, g, w + 1⟩, true, 1) else (o, false, 0))
  else match o with
    | none => (none, false, 0)
    | some t => if t.w % 4 = 1 then (some ⟨x, g, if y = 4 then t.w - 1 else if y = 5 then doneV t.w else killV t.w⟩, true, 0) else (some t, false, 0)
/-- What it makes of the word of its reference, of the others, of what it tells, of what was taken. -/
structure Does (s s' : Lk) (x g : Int) (r : Bool) (d : Option Wd × Bool × Int) : Prop where
  at' : getW s'.l x g = d.1
  res : r = d.2.1
  taken : s'.taken = s.taken + d.2.2
  other : ∀ x' g', ¬ (x' = x ∧ g' = g) → getW s'.l x' g' = getW s.l x' g'
theorem does_same {s : Lk} {x g : Int} {d : Option Wd × Bool × Int} {r : Bool} (h : d = (getW s.l x g, r, 0)) : Does s s x g r d := ⟨by rw [h], by rw [h], by rw [h]; simp, fun _ _ _ => rfl⟩
theorem lock_does (s : Lk) (x g v : Int) : Does s (lockS s x g v) x g (lockB s x g v) (if ((getW s.l x g).isSome && (zeroW (getW s.l x g) == v) && (v % 4 == 0)) = true then (some ⟨x, g, v + 1⟩, true, 1) else (getW s.l x g, false, 0)) := by
  have e : ((getW s.l x g).isSome && (zeroW (getW s.l x g) == v) && (v % 4 == 0)) = lockB s x g v := rfl
  rw [e]
  unfold lockS
  cases hb : lockB s x g v with
  | true =>
    rw [if_pos rfl, if_pos rfl]
    exact ⟨by rw [get_put, if_pos ⟨rfl, rfl⟩], rfl, rfl, fun x' g' h => by rw [get_put, if_neg h]⟩
  | false =>
    rw [if_neg (by decide), if_neg (by decide)]
    exact does_same rfl
theorem rel_does (f : Int → Int) (s : Lk) (x g : Int) : Does s (relS f s x g).1 x g ((relS f s x g).2 == 0) (match getW s.l x g with | none => (none, false, 0) | some t => if t.w % 4 = 1 then (some ⟨x, g, f t.w⟩, true, 0) else (some t, false, 0)) := by
  unfold relS
  cases hg : getW s.l x g with
  | none => exact does_same (by rw [hg]; rfl)
  | some t =>
    dsimp only
    by_cases h4 : t.w % 4 = 1
    · rw [if_pos h4, if_pos h4]
      exact ⟨by rw [get_put, if_pos ⟨rfl, rfl⟩], rfl, by simp, fun x' g' h => by rw [get_put, if_neg h]⟩
    · rw [if_neg h4, if_neg h4]
      exact does_same (by rw [hg]; rfl)
theorem dS_does (s : Lk) (y x g v w : Int) (hy : 0 ≤ y ∧ y < 7) : Does s (dS s y x g v w).1 x g (dS s y x g v w).2 (dO (getW s.l x g) y x g v w) := by
  unfold dS dO
  rcases (show y = 0 ∨ y = 1 ∨ y = 2 ∨ y = 3 ∨ y = 4 ∨ y = 5 ∨ y = 6 from by omega) with rfl | rfl | rfl | rfl | rfl | rfl | rfl
  · rw [if_pos rfl, if_pos rfl]
    unfold addS
    split
    · cases hg : getW s.l x g with
      | some t => exact does_same (by rw [hg]; rfl)
      | none => exact ⟨by rw [get_put, if_pos ⟨rfl, rfl⟩], rfl, by simp, fun x' g' h => by rw [get_put, if_neg h]⟩
    · exact does_same rfl
  · show Does s (goneS s x g).1 x g ((goneS s x g).2 == 0) (none, (getW s.l x g).isSome, 0)
    unfold goneS
    cases hg : getW s.l x g with
    | none => exact does_same (by rw [hg]; rfl)
    | some t => exact ⟨by rw [get_del, if_pos ⟨rfl, rfl⟩], rfl, by simp, fun x' g' h => by rw [get_del, if_neg h]⟩
  · exact lock_does s x g v
  · exact lock_does s x g w
  · exact rel_does (fun n => n - 1) s x g
  · exact rel_does doneV s x g
  · exact rel_does killV s x g

abbrev deedV (c x g v : Int) : Value := .agg #[.int .i64 c, .int .i64 x, .int .u32 g, .int .u64 v]
theorem deed_any {W : World} {p a m : Nat} {s : Lk} {N : Int} (c x g v z : Int) (h : At W p a m s) (ho : s.Ok N) (hN : N ≤ 1000000) (hr : RefOk x g) :
    Calls Try.prog 25 #[.pointer (some ⟨p, 0, none⟩), deedV c x g v, .int .u64 z] W fun e w' => e = .returned (.bool (dS s (c % 7) x g v z).2) ∧ Turned [a, m] W w' ∧ At w' p a m (dS s (c % 7) x g v z).1 := by
  have hx0 := Int.emod_nonneg c (show (7 : Int) ≠ 0 by decide)
  have hx1 := Int.emod_lt_of_pos c (show (0 : Int) < 7 by decide)
  have HK := Lib.hid (pick_any c 7 (by decide) (by decide))
  obtain ⟨y, hy⟩ : ∃ y, c % 7 = y := ⟨_, rfl⟩
  rw [hy] at hx0 hx1 HK ⊢
  have B0 := (Below.refl W.heap.size W).alloc (Nat.le_refl _) (.cells #[.int .i64 c, .int .i64 x, .int .u32 g, .int .u64 v] 37)
  have A0 := h.below B0
  have D := Fresh.new W W.heap.size #[.int .i64 c, .int .i64 x, .int .u32 g, .int .u64 v] 37 rfl
  obtain ⟨W1, hW⟩ : ∃ W1, W1 = W.alloc (.cells #[.int .i64 c, .int .i64 x, .int .u32 g, .int .u64 v] 37) := ⟨_, rfl⟩
  rw [← hW] at B0 A0 D
  have d0 := D.cell 0
  have d1 := D.cell 1
  have d2 := D.cell 2
  have d3 := D.cell 3
  simp only [List.getElem?_toArray, List.getElem?_cons_zero, List.getElem?_cons_succ] at d0 d1 d2 d3
  have HB := Lib.hid B0
  have HW := Lib.hid hW
  have key : ∃ r : Lk × Bool, dS s y x g v z = r := ⟨_, rfl⟩
  obtain ⟨r, hr'⟩ := key
  rw [hr']
  rcases (show y = 0 ∨ y = 1 ∨ y = 2 ∨ y = 3 ∨ y = 4 ∨ y = 5 ∨ y = 6 from by omega) with rfl | rfl | rfl | rfl | rfl | rfl | rfl
  · have HC := add_any A0 x g hr
    have e : r = ((addS s x g).1, (addS s x g).2 == 0) := hr'.symm
    obtain ⟨⟨s', k⟩, hk⟩ : ∃ q, (addS s x g) = q := ⟨_, rfl⟩
    rw [hk] at HC e
    dsimp only at HC e
    rw [e]
    have HC := Lib.hid HC
    clear e hk hr' h ho hN hr A0 D B0 hW hx0 hx1 hy
    obtain ⟨b, hb⟩ : ∃ b, (k == 0) = b := ⟨_, rfl⟩
    have HE := Lib.hid hb
    show Calls _ _ _ _ fun e w' => e = .returned (.bool (k == 0)) ∧ _ ∧ _
    rw [hb]
    go_enter Try.func25, Try.ntmps25
    go_upto_region 1 with fail
    rw [← HW.out]
    go_wp2_with fail
    refine (HK.out _).mono ?_
    rintro e w2 ⟨rfl, hw2⟩
    subst hw2
    go_wp2_with fail
    refine HC.out.mono ?_
    rintro e w3 ⟨rfl, ht, ha⟩
    have H1 := Lib.hid ht
    have H2 := Lib.hid ha
    clear ht ha hb d0 d1 d2 d3
    go_wp2_with fail
    go_ret
    exact ⟨by first | exact ret_bool HE.out | rfl, (Turned.of_below HB.out).trans H1.out, H2.out⟩
  · have HC := gone_any A0 ho hN x g hr
    have e : r = ((goneS s x g).1, (goneS s x g).2 == 0) := hr'.symm
    obtain ⟨⟨s', k⟩, hk⟩ : ∃ q, (goneS s x g) = q := ⟨_, rfl⟩
    rw [hk] at HC e
    dsimp only at HC e
    rw [e]
    have HC := Lib.hid HC
    clear e hk hr' h ho hN hr A0 D B0 hW hx0 hx1 hy
    obtain ⟨b, hb⟩ : ∃ b, (k == 0) = b := ⟨_, rfl⟩
    have HE := Lib.hid hb
    show Calls _ _ _ _ fun e w' => e = .returned (.bool (k == 0)) ∧ _ ∧ _
    rw [hb]
    go_enter Try.func25, Try.ntmps25
    go_upto_region 1 with fail
    rw [← HW.out]
    go_wp2_with fail
    refine (HK.out _).mono ?_
    rintro e w2 ⟨rfl, hw2⟩
    subst hw2
    go_wp2_with fail
    refine HC.out.mono ?_
    rintro e w3 ⟨rfl, ht, ha⟩
    have H1 := Lib.hid ht
    have H2 := Lib.hid ha
    clear ht ha hb d0 d1 d2 d3
    go_wp2_with fail
    go_ret
    exact ⟨by first | exact ret_bool HE.out | rfl, (Turned.of_below HB.out).trans H1.out, H2.out⟩
  · have HC := lock_any A0 ho hN x g v hr
    have e : r = (lockS s x g v, lockB s x g v) := hr'.symm
    rw [e]
    dsimp only
    obtain ⟨b, hb⟩ : ∃ b, (lockS s x g v, lockB s x g v).2 = b := ⟨_, rfl⟩
    obtain ⟨s', hs'⟩ : ∃ b, (lockS s x g v, lockB s x g v).1 = b := ⟨_, rfl⟩
    dsimp only at hb hs'
    rw [hb, hs'] at HC
    rw [hb, hs']
    have HC := Lib.hid HC
    clear e hb hs' hr' h ho hN hr A0 D B0 hW hx0 hx1 hy
    go_enter Try.func25, Try.ntmps25
    go_upto_region 1 with fail
    rw [← HW.out]
    go_wp2_with fail
    refine (HK.out _).mono ?_
    rintro e w2 ⟨rfl, hw2⟩
    subst hw2
    go_wp2_with fail
    refine HC.out.mono ?_
    rintro e w3 ⟨rfl, ht, ha⟩
    have H1 := Lib.hid ht
    have H2 := Lib.hid ha
    clear ht ha d0 d1 d2 d3
    go_wp2_with fail
    go_ret
    exact ⟨rfl, (Turned.of_below HB.out).trans H1.out, H2.out⟩
  · have HC := lock_any A0 ho hN x g z hr
    have e : r = (lockS s x g z, lockB s x g z) := hr'.symm
    rw [e]
    dsimp only
    obtain ⟨b, hb⟩ : ∃ b, (lockS s x g z, lockB s x g z).2 = b := ⟨_, rfl⟩
    obtain ⟨s', hs'⟩ : ∃ b, (lockS s x g z, lockB s x g z).1 = b := ⟨_, rfl⟩
    dsimp only at hb hs'
    rw [hb, hs'] at HC
    rw [hb, hs']
    have HC := Lib.hid HC
    clear e hb hs' hr' h ho hN hr A0 D B0 hW hx0 hx1 hy
    go_enter Try.func25, Try.ntmps25
    go_upto_region 1 with fail
    rw [← HW.out]
    go_wp2_with fail
    refine (HK.out _).mono ?_
    rintro e w2 ⟨rfl, hw2⟩
    subst hw2
    go_wp2_with fail
    refine HC.out.mono ?_
    rintro e w3 ⟨rfl, ht, ha⟩
    have H1 := Lib.hid ht
    have H2 := Lib.hid ha
    clear ht ha d0 d1 d2 d3
    go_wp2_with fail
    go_ret
    exact ⟨rfl, (Turned.of_below HB.out).trans H1.out, H2.out⟩
  · have HC := drop_any A0 ho hN x g hr
    have e : r = ((relS (fun n => n - 1) s x g).1, (relS (fun n => n - 1) s x g).2 == 0) := hr'.symm
    obtain ⟨⟨s', k⟩, hk⟩ : ∃ q, (relS (fun n => n - 1) s x g) = q := ⟨_, rfl⟩
    rw [hk] at HC e
    dsimp only at HC e
    rw [e]
    have HC := Lib.hid HC
    clear e hk hr' h ho hN hr A0 D B0 hW hx0 hx1 hy
    obtain ⟨b, hb⟩ : ∃ b, (k == 0) = b := ⟨_, rfl⟩
    have HE := Lib.hid hb
    show Calls _ _ _ _ fun e w' => e = .returned (.bool (k == 0)) ∧ _ ∧ _
    rw [hb]
    go_enter Try.func25, Try.ntmps25
    go_upto_region 1 with fail
    rw [← HW.out]
    go_wp2_with fail
    refine (HK.out _).mono ?_
    rintro e w2 ⟨rfl, hw2⟩
    subst hw2
    go_wp2_with fail
    refine HC.out.mono ?_
    rintro e w3 ⟨rfl, ht, ha⟩
    have H1 := Lib.hid ht
    have H2 := Lib.hid ha
    clear ht ha hb d0 d1 d2 d3
    go_wp2_with fail
    go_ret
    exact ⟨by first | exact ret_bool HE.out | rfl, (Turned.of_below HB.out).trans H1.out, H2.out⟩
  · have HC := done_any A0 ho hN x g hr
    have e : r = ((relS doneV s x g).1, (relS doneV s x g).2 == 0) := hr'.symm
    obtain ⟨⟨s', k⟩, hk⟩ : ∃ q, (relS doneV s x g) = q := ⟨_, rfl⟩
    rw [hk] at HC e
    dsimp only at HC e
    rw [e]
    have HC := Lib.hid HC
    clear e hk hr' h ho hN hr A0 D B0 hW hx0 hx1 hy
    obtain ⟨b, hb⟩ : ∃ b, (k == 0) = b := ⟨_, rfl⟩
    have HE := Lib.hid hb
    show Calls _ _ _ _ fun e w' => e = .returned (.bool (k == 0)) ∧ _ ∧ _
    rw [hb]
    go_enter Try.func25, Try.ntmps25
    go_upto_region 1 with fail
    rw [← HW.out]
    go_wp2_with fail
    refine (HK.out _).mono ?_
    rintro e w2 ⟨rfl, hw2⟩
    subst hw2
    go_wp2_with fail
    refine HC.out.mono ?_
    rintro e w3 ⟨rfl, ht, ha⟩
    have H1 := Lib.hid ht
    have H2 := Lib.hid ha
    clear ht ha hb d0 d1 d2 d3
    go_wp2_with fail
    go_ret
    exact ⟨by first | exact ret_bool HE.out | rfl, (Turned.of_below HB.out).trans H1.out, H2.out⟩
  · have HC := kill_any A0 ho hN x g hr
    have e : r = ((relS killV s x g).1, (relS killV s x g).2 == 0) := hr'.symm
    obtain ⟨⟨s', k⟩, hk⟩ : ∃ q, (relS killV s x g) = q := ⟨_, rfl⟩
    rw [hk] at HC e
    dsimp only at HC e
    rw [e]
    have HC := Lib.hid HC
    clear e hk hr' h ho hN hr A0 D B0 hW hx0 hx1 hy
    obtain ⟨b, hb⟩ : ∃ b, (k == 0) = b := ⟨_, rfl⟩
    have HE := Lib.hid hb
    show Calls _ _ _ _ fun e w' => e = .returned (.bool (k == 0)) ∧ _ ∧ _
    rw [hb]
    go_enter Try.func25, Try.ntmps25
    go_upto_region 1 with fail
    rw [← HW.out]
    go_wp2_with fail
    refine (HK.out _).mono ?_
    rintro e w2 ⟨rfl, hw2⟩
    subst hw2
    go_wp2_with fail
    refine HC.out.mono ?_
    rintro e w3 ⟨rfl, ht, ha⟩
    have H1 := Lib.hid ht
    have H2 := Lib.hid ha
    clear ht ha hb d0 d1 d2 d3
    go_wp2_with fail
    go_ret
    exact ⟨by first | exact ret_bool HE.out | rfl, (Turned.of_below HB.out).trans H1.out, H2.out⟩
end Go.Proofs.Ythhmbmeajgjhcaa
