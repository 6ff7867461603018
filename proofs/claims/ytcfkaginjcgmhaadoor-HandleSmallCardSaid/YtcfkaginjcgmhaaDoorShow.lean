/- handle.Show, Right, and the parts of handle.Read. -/
import Derived.Test.YtcfkaginjcgmhaaDoorText
namespace Go.Proofs.YtcfkaginjcgmhaaDoor
open Go.RowKit
set_option maxRecDepth 100000
set_option maxHeartbeats 2000000

theorem dec_size (u : Nat) (h : u < 18446744073709551616) : (⟨(Lib.decDigits u).toArray⟩ : ByteArray).size ≤ 20 := by
  show ((Lib.decDigits u).toArray).size ≤ 20
  rw [List.size_toArray]; exact dec_length u h
theorem letters_size (r : Nat) : (⟨(lettersL r).toArray⟩ : ByteArray).size ≤ 3 := by
  show ((lettersL r).toArray).size ≤ 3
  rw [List.size_toArray]; exact lettersL_length r

theorem text_any (t g r : Nat) (h : okN t g r) (w : World) (htab : Tab w) :
    Calls Tryd.prog 26 #[hv t g r] w fun e w' => e = .returned (.string (textB t g r)) ∧ Below w.heap.size w w' := by
  have H := Lib.hid h
  have HT := Lib.hid (Tab.on htab ((Below.refl w.heap.size w).alloc (Nat.le_refl _) (.cells #[.int .i64 t, .int .u32 g, .int .u8 r] 49)))
  obtain ⟨h1, h2, h3, h4, h5, h6⟩ := h
  have HT100 : Hid (t < 100) := by show _ < _; omega
  have HG : Hid (g < 18446744073709551616) := by show _ < _; omega
  have HR : Hid (r < 8) := by show _ < _; omega
  have s1 := dec_size t (by omega)
  have s2 := dec_size g (by omega)
  have s3 := letters_size r
  obtain ⟨D1, hD1⟩ : ∃ D : ByteArray, (⟨(Lib.decDigits t).toArray⟩ : ByteArray) = D := ⟨_, rfl⟩
  obtain ⟨D2, hD2⟩ : ∃ D : ByteArray, (⟨(Lib.decDigits g).toArray⟩ : ByteArray) = D := ⟨_, rfl⟩
  obtain ⟨D3, hD3⟩ : ∃ D : ByteArray, (⟨(lettersL r).toArray⟩ : ByteArray) = D := ⟨_, rfl⟩
  rw [hD1] at s1
  rw [hD2] at s2
  rw [hD3] at s3
  have HE : Hid (D1 ++ one 46 ++ D2 ++ one 46 ++ D3 = textB t g r) := bytes_ext (by
    rw [append_list, append_list, append_list, append_list, textB_list, ← hD1, ← hD2, ← hD3]; simp [one, textL])
  have E1 := Lib.hid hD1
  have E2 := Lib.hid hD2
  have E3 := Lib.hid hD3
  have o1 : (⟨#[46]⟩ : ByteArray).size = 1 := rfl
  have p1 : (D1 ++ (⟨#[46]⟩ : ByteArray)).size = D1.size + 1 := append_size _ _
  have p2 : (D1 ++ (⟨#[46]⟩ : ByteArray) ++ D2).size = D1.size + 1 + D2.size := by rw [append_size, p1]
  have p3 : (D1 ++ (⟨#[46]⟩ : ByteArray) ++ D2 ++ (⟨#[46]⟩ : ByteArray)).size = D1.size + 1 + D2.size + 1 := by rw [append_size, p2]; rfl
  clear hD1 hD2 hD3 htab
  obtain ⟨W, hW⟩ : ∃ W, W = w.alloc (.cells #[.int .i64 t, .int .u32 g, .int .u8 r] 49) := ⟨_, rfl⟩
  have HW := Lib.hid hW
  have HBw : Hid (Below w.heap.size w W) := by show Below _ _ _; rw [hW]; exact (Below.refl _ _).alloc (Nat.le_refl _) _
  have HTW : Hid (Tab W) := by show Tab W; rw [hW]; exact HT.out
  have c0 : W.cell? ⟨w.heap.size, 0, none⟩ = some (.int .i64 t) := by rw [hW]; simp [go_sem]
  have c1 : W.cell? ⟨w.heap.size, 1, none⟩ = some (.int .u32 g) := by rw [hW]; simp [go_sem]
  have c2 : W.cell? ⟨w.heap.size, 2, none⟩ = some (.int .u8 r) := by rw [hW]; simp [go_sem]
  clear hW
  go_enter Tryd.func26, Tryd.ntmps26
  go_wp2_with fail
  rw [← HW.out]
  have g0 := fun d os => cell_regrown c0 d os
  have g1 := fun d os => cell_regrown c1 d os
  have g2 := fun d os => cell_regrown c2 d os
  refine wp_region_quiet_below (by kernel_rfl) (by kernel_rfl) ?_
  repeat (any_goals (first | go_big_quiet_step (first
    | (go_at_call 34; exact Calls.regrown_of ((Tryd.strconv_Itoa_small t HT100.out _).mono fun e w' h => ⟨by rw [h.1, E1.out], by rw [h.2]; exact Below.refl _ _⟩))
    | (go_at_call 35; exact Calls.regrown_of ((format_any g HG.out _ (HTW.out.on (below_regrown _ _ _))).mono fun e w' h => ⟨by rw [h.1, E2.out], h.2⟩))
    | (go_at_call 36; exact Calls.regrown_of ((letters_any t g r HR.out _).mono fun e w' h => ⟨by rw [h.1, E3.out], h.2⟩))) | quiet_step (fail)))
  refine wpQuiet_nil ?_
  intro w5 hw5
  have hb5 : Below W.heap.size W w5 := by obtain ⟨p, rfl⟩ := hw5; exact below_regrown _ _ _
  clear hw5
  go_wp2_with fail
  go_ret
  exact ⟨ret_str HE.out, Below.step HBw.out hb5⟩

theorem hright_any (t g r : Int) (w : World) :
    Calls Tryd.prog 14 #[hv t g r] w fun e w' => e = .returned (.bool (rightZ t g r)) ∧ Below w.heap.size w w' := by
  go_enter Tryd.func14, Tryd.ntmps14
  go_wp2_with fail
  refine (right_any t g r _).mono ?_
  rintro e w1 ⟨rfl, hb1⟩
  go_wp2_with fail
  go_ret
  exact ⟨rfl, Below.step ((Below.refl _ _).alloc (Nat.le_refl _) _) hb1⟩

theorem rightZ_of (t g r : Nat) (hg : g < 4294967296) : rightZ t g r = decide (okN t g r) := by
  by_cases h : okN t g r
  · rw [decide_eq_true h]
    obtain ⟨h1, h2, h3, h4, h5, h6⟩ := h
    unfold rightZ
    rw [decide_eq_true (show (1 : Int) ≤ t ∧ (t : Int) ≤ 16 from by omega), decide_eq_true (show (1 : Int) ≤ g from by omega), decide_eq_true (show (1 : Int) ≤ r ∧ (r : Int) ≤ 7 from by omega)]
    rfl
  · rw [decide_eq_false h, Bool.eq_false_iff]
    intro e
    unfold rightZ at e
    simp only [Bool.and_eq_true, decide_eq_true_eq] at e
    exact h ⟨by omega, by omega, by omega, hg, by omega, by omega⟩

theorem show_yes (t g r : Nat) (h : okN t g r) (w : World) (htab : Tab w) :
    Calls Tryd.prog 13 #[hv t g r] w fun e w' => e = .returned (.tuple #[.string (textB t g r), .int .i64 0]) ∧ Below w.heap.size w w' := by
  have H := Lib.hid h
  have HT := Lib.hid htab
  have HR : Hid (rightZ t g r = true) := by show _ = _; rw [rightZ_of _ _ _ h.2.2.2.1]; simpa using h
  clear h htab
  go_enter Tryd.func13, Tryd.ntmps13
  go_wp2_with fail
  refine (right_any t g r _).mono ?_
  rw [HR.out]
  rintro e w1 ⟨rfl, hb1⟩
  have c0 : w1.cell? ⟨w.heap.size + 1, 0, none⟩ = some (.int .i64 t) := by rw [hb1.cell (p := ⟨w.heap.size + 1, 0, none⟩) (by simp)]; simp [go_sem]
  have c1 : w1.cell? ⟨w.heap.size + 1, 1, none⟩ = some (.int .u32 g) := by rw [hb1.cell (p := ⟨w.heap.size + 1, 1, none⟩) (by simp)]; simp [go_sem]
  have c2 : w1.cell? ⟨w.heap.size + 1, 2, none⟩ = some (.int .u8 r) := by rw [hb1.cell (p := ⟨w.heap.size + 1, 2, none⟩) (by simp)]; simp [go_sem]
  have HB1 := Lib.hid (Below.step (((Below.refl w.heap.size w).alloc (Nat.le_refl _) _).alloc (by simp) _) hb1)
  clear hb1
  go_wp2_with fail
  refine (text_any t g r H.out _ (HT.out.on HB1.out)).mono ?_
  rintro e w2 ⟨rfl, hb2⟩
  go_wp2_with fail
  go_ret2
  exact ⟨rfl, Below.step HB1.out hb2⟩

theorem show_no (t g r : Int) (h : rightZ t g r = false) (w : World) :
    Calls Tryd.prog 13 #[hv t g r] w fun e w' => e = .returned (.tuple #[.string ⟨#[]⟩, .int .i64 4]) ∧ Below w.heap.size w w' := by
  have HR := Lib.hid h
  clear h
  go_enter Tryd.func13, Tryd.ntmps13
  go_wp2_with fail
  refine (right_any t g r _).mono ?_
  rw [HR.out]
  rintro e w1 ⟨rfl, hb1⟩
  have HB1 := Lib.hid (Below.step (((Below.refl w.heap.size w).alloc (Nat.le_refl _) _).alloc (by simp) _) hb1)
  clear hb1
  go_wp2_with fail
  go_ret2
  exact ⟨rfl, HB1.out⟩

end Go.Proofs.YtcfkaginjcgmhaaDoor
