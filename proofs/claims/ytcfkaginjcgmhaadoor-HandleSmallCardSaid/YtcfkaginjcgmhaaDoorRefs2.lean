/- The reference's Allows, Within, number, Show. -/
import Derived.Test.YtcfkaginjcgmhaaDoorRefs
namespace Go.Proofs.YtcfkaginjcgmhaaDoor
open Go.RowKit
set_option maxRecDepth 100000
set_option maxHeartbeats 2000000

theorem rallows_any (t g : Int) (r : Nat) (d : Int) (hr : r < 256) (w : World) :
    Calls Tryd.prog 22 #[hv t g r, .int .i64 d] w fun e w' => e = .returned (.bool (allowsZ t g r d)) ∧ Below w.heap.size w w' := by
  obtain ⟨x, hx⟩ : ∃ x, rightZ t g r = x := ⟨_, rfl⟩
  have HX := Lib.hid hx
  have HF0 := Lib.hid (Fresh.new w _ #[.int .i64 t, .int .u32 g, .int .u8 r] 25 rfl)
  have HB0 := Lib.hid ((Below.refl w.heap.size w).alloc (Nat.le_refl _) (.cells #[.int .i64 t, .int .u32 g, .int .u8 r] 25))
  have HR := Lib.hid hr
  by_cases h0 : asksN d = 0
  · have HZ : Hid (allowsZ t g r d = false) := by show _ = _; unfold allowsZ; simp [h0]
    have HA : Hid (asksN d = 0) := h0
    clear h0 hx
    cases x
    all_goals
      go_enter Tryd.func22, Tryd.ntmps22
      go_wp2_with fail
      refine (rasks_any d _).mono ?_
      rw [HA.out]
      rintro e w1 ⟨rfl, rfl⟩
      have c0 := HF0.out.cell 0
      have c1 := HF0.out.cell 1
      have c2 := HF0.out.cell 2
      simp only [List.getElem?_toArray, List.getElem?_cons_zero, List.getElem?_cons_succ] at c0 c1 c2
      go_wp2_with fail
      refine (rright_any t g r HR.out _).mono ?_
      rw [HX.out]
      rintro e w2 ⟨rfl, hb2⟩
      have HB2 := Lib.hid (Below.step HB0.out hb2)
      clear hb2
      go_wp2_with fail
      go_ret
      exact ⟨ret_bool (by rw [HZ.out]), HB2.out⟩
  · obtain ⟨k, hk⟩ : ∃ k, asksN d = k := ⟨_, rfl⟩
    have hk3 := asksN_cases d h0
    rw [hk] at hk3 h0
    have HZ : Hid (allowsZ t g r d = (x && decide (r / k % 2 = 1))) := by show _ = _; unfold allowsZ; rw [hx, hk]; simp [h0]
    have HA := Lib.hid hk
    obtain ⟨y, hy⟩ : ∃ y, decide (r / k % 2 = 1) = y := ⟨_, rfl⟩
    have HY := Lib.hid hy
    have hb1 : k = 1 → (((r : Int) % 2 : Int) == 1) = y := fun e => by subst e; rw [← hy, Bool.eq_iff_iff]; simp; omega
    have hb2 : k = 2 → (((r : Int) / 2 % 2 : Int) == 1) = y := fun e => by subst e; rw [← hy, Bool.eq_iff_iff]; simp; omega
    have hb4 : k = 4 → (((r : Int) / 4 % 2 : Int) == 1) = y := fun e => by subst e; rw [← hy, Bool.eq_iff_iff]; simp; omega
    have HB := Lib.hid (And.intro hb1 (And.intro hb2 hb4))
    clear h0 hx hk hy hb1 hb2 hb4
    rcases hk3 with rfl | rfl | rfl
    case' inl => have hb := HB.out.1 rfl
    case' inr.inl => have hb := HB.out.2.1 rfl
    case' inr.inr => have hb := HB.out.2.2 rfl
    all_goals cases x
    all_goals
      go_enter Tryd.func22, Tryd.ntmps22
      go_wp2_with fail
      refine (rasks_any d _).mono ?_
      rw [HA.out]
      rintro e w1 ⟨rfl, rfl⟩
      have c0 := HF0.out.cell 0
      have c1 := HF0.out.cell 1
      have c2 := HF0.out.cell 2
      simp only [List.getElem?_toArray, List.getElem?_cons_zero, List.getElem?_cons_succ] at c0 c1 c2
      go_wp2_with fail
      refine (rright_any t g r HR.out _).mono ?_
      rw [HX.out]
      rintro e w2 ⟨rfl, hb2⟩
      have HB2 := Lib.hid (Below.step HB0.out hb2)
      have HF2 := Lib.hid (HF0.out.below hb2)
      clear hb2 c0 c1 c2
      have c2 := HF2.out.cell 2
      simp only [List.getElem?_toArray, List.getElem?_cons_zero, List.getElem?_cons_succ] at c2
      go_wp2_with fail
      go_ret
      exact ⟨ret_bool (by rw [HZ.out, HY.out]; simp), HB2.out⟩

theorem rnumber_any (n : Nat) : ∀ (w : World), n < 4294967296 →
    Calls Tryd.prog 30 #[.int .i64 n] w fun e w' => e = .returned (.string ⟨(Lib.decDigits n).toArray⟩) ∧ Below w.heap.size w w' := by
  induction n using Nat.strongRecOn with
  | ind n ih =>
    intro w hn
    have hcv : ∀ W : World, (convert 65 9 (.slice (some ⟨W.heap.size, 0, none⟩) 1 1)).run Tryd.prog (W.alloc (.cells #[.int .u8 (48 + (n : Int) % 10)] 5)) = .ok (.string (one (UInt8.ofNat (48 + n % 10)))) (W.alloc (.cells #[.int .u8 (48 + (n : Int) % 10)] 5)) := fun W => by
      have hc : ((48 : Int) + (n : Int) % 10) = ((UInt8.ofNat (48 + n % 10)).toNat : Int) := by simp [UInt8.toNat_ofNat']; omega
      rw [hc]
      exact run_convert_one (P := Tryd.prog) W _ _ _ _ Tryd.underlying65 Tryd.underlying5 Tryd.underlying9
    have o1 : (one (UInt8.ofNat (48 + n % 10))).size = 1 := rfl
    by_cases h : n < 10
    · have HD : Hid (one (UInt8.ofNat (48 + n % 10)) = ⟨(Lib.decDigits n).toArray⟩) := by
        show _ = _
        apply bytes_ext
        rw [Lib.decDigits, dif_pos h, one_list, Nat.mod_eq_of_lt h]
      have IH : Hid True := trivial
      generalize one (UInt8.ofNat (48 + n % 10)) = c at *
      clear ih hn
      go_enter Tryd.func30, Tryd.ntmps30
      go_wp2_with fail
      go_ret
      exact ⟨ret_str HD.out, (Below.refl _ _).alloc (Nat.le_refl _) _⟩
    · have hsz := dec_size (n / 10) (by omega)
      have IH := Lib.hid (fun w => ih (n / 10) (by omega) w (by omega))
      obtain ⟨D, hD⟩ : ∃ D : ByteArray, (⟨(Lib.decDigits (n / 10)).toArray⟩ : ByteArray) = D := ⟨_, rfl⟩
      rw [hD] at hsz
      have HE := Lib.hid hD
      have HD : Hid (D ++ one (UInt8.ofNat (48 + n % 10)) = ⟨(Lib.decDigits n).toArray⟩) := by
        show _ = _
        apply bytes_ext
        rw [append_list, ← hD, one_list]
        conv => rhs; rw [Lib.decDigits, dif_neg h]
      have hq : ((n : Int) / 10) = ((n / 10 : Nat) : Int) := by omega
      have HQ := Lib.hid hq
      generalize one (UInt8.ofNat (48 + n % 10)) = c at *
      clear ih hD hq
      go_enter Tryd.func30, Tryd.ntmps30
      go_wp2_with fail
      rw [HQ.out]
      refine (IH.out _).mono ?_
      rw [HE.out]
      rintro e w1 ⟨rfl, hb1⟩
      go_wp2_with fail
      go_ret
      exact ⟨ret_str HD.out, Below.step ((Below.refl _ _).alloc (Nat.le_refl _) _) hb1⟩

end Go.Proofs.YtcfkaginjcgmhaaDoor
