/- A purse: taking and reserving. -/
import Derived.Test.YtpnddccanelcnaaPurse
namespace Go.Proofs.Ytpnddccanelcnaa
open Go.RowKit
set_option maxRecDepth 100000
set_option maxHeartbeats 4000000

def takeIf (s : Pu) (x y : Int) : Pu := if fitB s x y = true then { s with bk := s.bk + x, bb := s.bb + y, hk := s.hk + x, hb := s.hb + y } else s
theorem Turned.ofDrew {S : List Nat} {W W' : World} (h : Turned S W.drew W') : Turned S W W' := ⟨h.os, h.tape, h.output, h.size, h.block⟩
theorem fit_le {s : Pu} {x y : Int} (h : fitB s x y = true) : x ≤ s.lk - s.bk ∧ y ≤ s.lb - s.bb := by unfold fitB at h; simpa using h
theorem tookIf_tk (s : Pu) (x y : Int) : (tookIf s x y).tk = s.tk := by unfold tookIf; split <;> rfl

theorem ptake_any {W : World} {p a m : Nat} {s : Pu} (x y : Int) (h : At W p a m s) (hs : s.Fit) (hx : U x) (hy : U y) :
    Calls Try.prog 17 #[.pointer (some ⟨p, 0, none⟩), .int .u64 x, .int .u64 y] W fun e w' => e = .returned (.int .i64 (codeOf (fitB s x y))) ∧ Turned [a, m] W w' ∧ At w' p a m (takeIf s x y) := by
  obtain ⟨f, hf⟩ : ∃ f, fitB s x y = f := ⟨_, rfl⟩
  have HFF := Lib.hid hf
  have HI := Lib.hid (isNil_any h)
  have HRv := Lib.hid (fun w h => reserve_any s a m x y w h hs hx hy)
  have HS := Lib.hid hs
  have HXY := Lib.hid (And.intro hx hy)
  have B0 := (Below.refl W.heap.size W).alloc (Nat.le_refl _) (.cells #[.int .u64 x, .int .u64 y] 24)
  have A0 := h.below B0
  have R := Fresh.new W W.heap.size #[.int .u64 x, .int .u64 y] 24 rfl
  have hpl := h.hp.lt
  obtain ⟨W1, hW⟩ : ∃ W1, W1 = W.alloc (.cells #[.int .u64 x, .int .u64 y] 24) := ⟨_, rfl⟩
  rw [← hW] at B0 A0 R
  have HA := Lib.hid A0
  have HR := Lib.hid R
  have HB := Lib.hid B0
  have HW := Lib.hid hW
  have c := A0.cells
  have r0 := R.cell 0
  have r1 := R.cell 1
  simp only [List.getElem?_toArray, List.getElem?_cons_zero, List.getElem?_cons_succ] at r0 r1
  have hrn : W.heap.size ∉ [a] := by
    have := h.ha.lt
    simp; omega
  have HN := Lib.hid hrn
  clear hf h hs hx hy B0 A0 R hW hrn hpl
  go_enter Try.func17, Try.ntmps17
  go_wp2_with fail
  refine HI.out.mono ?_
  rintro e w1 ⟨rfl, hw1⟩
  obtain rfl := hw1
  go_wp2_with fail
  rw [← HW.out]
  go_region_with
    (first
      | (go_at_call 35
         refine (HRv.out _ (HA.out.ha.drew)).mono ?_
         rw [HFF.out]
         rintro e wz ⟨rfl, htz, hfz⟩))
  all_goals
    have HT1 := Lib.hid htz.ofDrew
    have HA1 := Lib.hid (HA.out.turned htz.ofDrew hfz (tookIf_tk s x y))
    have HR1 := Lib.hid (htz.ofDrew.other HR.out HN.out)
    clear htz hfz c r0 r1
    cases f
    · go_wp2_with fail
      go_ret
      exact ⟨by rw [HFF.out]; rfl, (Turned.of_below HB.out).trans (HT1.out.more (by simp)), by have h := HA1.out; rw [tookIf_no HFF.out] at h; unfold takeIf; rw [if_neg (by rw [HFF.out]; decide)]; exact h⟩
    · have hA1 := HA1.out
      rw [tookIf_yes HFF.out] at hA1
      have HA2 := Lib.hid hA1
      have hfit := fit_le HFF.out
      have HU := Lib.hid (fun w h => use_any (took s x y) a m x y w h HS.out.hk0 HXY.out.1.1 (by show s.hk + x < _; have := HS.out.hk1; have := HS.out.lk; omega) HS.out.hb0 HXY.out.2.1 (by show s.hb + y < _; have := HS.out.hb1; have := HS.out.lb; omega))
      clear hA1 hfit
      have c := HA2.out.cells
      have r0 := HR1.out.cell 0
      have r1 := HR1.out.cell 1
      simp only [List.getElem?_toArray, List.getElem?_cons_zero, List.getElem?_cons_succ] at r0 r1
      go_wp2_with fail
      go_region_with
        (first
          | (go_at_call 37
             refine (HU.out _ (HA2.out.ha.drew)).mono ?_
             rintro e wy ⟨rfl, hty, hfy⟩))
      all_goals
        have HT2 := Lib.hid hty.ofDrew
        have HA3 := Lib.hid (HA2.out.turned hty.ofDrew hfy rfl)
        clear hty hfy c r0 r1
        go_wp2_with fail
        go_ret
        exact ⟨by rw [HFF.out]; rfl, (Turned.of_below HB.out).trans ((HT1.out.trans HT2.out).more (by simp)), by unfold takeIf; rw [if_pos HFF.out]; exact HA3.out⟩

end Go.Proofs.Ytpnddccanelcnaa
