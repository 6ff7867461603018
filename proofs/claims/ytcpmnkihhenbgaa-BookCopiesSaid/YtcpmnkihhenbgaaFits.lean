/- A store: fits. -/
import Derived.Test.YtcpmnkihhenbgaaStoreX
namespace Go.Proofs.Ytcpmnkihhenbgaa
open Go.RowKit
set_option maxRecDepth 1000000
set_option maxHeartbeats 4000000

theorem size_one (t : ByteArray) (ht : t.size < 1000) (w : World) (b : Nat) (hf : Fresh w b #[.string t] 9) : Calls Try.prog 76 #[.slice (some ⟨b, 0, none⟩) 1 1] w fun e' w' => e' = .returned (.int .u64 (t.size : Nat)) ∧ w' = w := by
  have hr := RowS.lit (ks := [t]) hf (by simp)
  have := size_any hr (by simp) (by simp [lenS] at *; omega)
  simpa [lenS] using this
theorem fits_any {W : World} {q e m : Nat} {l : List Pr} {K B : Nat} {v : Value} (h : StAt W q e m l K B v) (hn : l.length < 100000) (x y : ByteArray) (hx : x.size ≤ 16) (hy : y.size ≤ 32) :
    Calls Try.prog 48 #[.pointer (some ⟨q, 0, none⟩), .string x, .string y] W fun e' w' => e' = .returned (.bool (decide ((putP x y l).length ≤ K ∧ lenP (putP x y l) ≤ B))) ∧ Below W.heap.size W w' := by
  obtain ⟨c0, c1, c2, c3, c4, f⟩ := h.cells
  obtain ⟨ao, cap, hv, _⟩ := h.key.row.slice
  rw [keys_len] at hv
  subst hv
  have hl := (h.below ((Below.refl _ _).drew)).look x
  have hle := lenP_le h.txt
  have hdl := drop_len x l
  have hle2 := lenP_le (drop_txt (x := x) h.txt)
  obtain ⟨hp1, hp2⟩ := lenP_ins x y (dropP x l)
  rw [show insP x y (dropP x l) = putP x y l from rfl] at hp1 hp2
  obtain ⟨T, hT⟩ : ∃ T, lenP (putP x y l) = T := ⟨_, rfl⟩
  obtain ⟨N, hN⟩ : ∃ N, (putP x y l).length = N := ⟨_, rfl⟩
  obtain ⟨b1, hb1⟩ : ∃ b1, lenP (dropP x l) + x.size = b1 := ⟨_, rfl⟩
  have hTb : T = b1 + y.size := by omega
  rw [hT, hN]
  obtain ⟨n, hnn⟩ : ∃ n, lenP l = n := ⟨_, rfl⟩
  obtain ⟨len, hlen⟩ : ∃ n, l.length = n := ⟨_, rfl⟩
  rw [hnn] at c2
  rw [hlen] at c0
  have hwy : IntKind.u64.wrap ((b1 : Int) + (y.size : Int)) = (T : Int) := by rw [IntKind.wrap_u64]; omega
  have HSY := Lib.hid (size_one y (by omega))
  have hcl : IntKind.u64.wrap (len : Int) = (len : Int) := by rw [IntKind.wrap_u64]; omega
  have HH := Lib.hid h
  have hql := h.lt.1
  have hqn : q ≠ W.heap.size := Nat.ne_of_lt hql
  cases hg : getT l x with
  | none =>
    rw [hg] at hl
    simp only [seeV] at hl
    have hd := drop_none hg
    rw [hd] at hb1 hp2
    have hk : IntKind.u64.wrap ((len : Int) + 1) = (N : Int) := by rw [IntKind.wrap_u64]; omega
    have hb : IntKind.u64.wrap ((n : Int) + (x.size : Int)) = (b1 : Int) := by rw [IntKind.wrap_u64]; omega
    have HSX := Lib.hid (size_one x (by omega))
    clear h hle hdl hle2 hp1 hp2 hT hN hb1 hTb hnn hlen hd hn hx hy
    go_enter Try.func48, Try.ntmps48
    go_wp2_with fail
    go_region
    go_wp2_with (go_at_call 76; refine (HSX.out _ _ (Fresh.new W.drew W.heap.size _ _ rfl)).mono ?_; rintro e1 w1 ⟨rfl, rfl⟩)
    obtain ⟨W7, hW7⟩ : ∃ W7, W7 = (W.alloc (.cells #[.string x] 9)).drew := ⟨_, rfl⟩
    rw [← hW7]
    have B7 : Hid (Below W.heap.size W W7) := by show Below _ _ _; rw [hW7]; exact (Below.new (Below.refl _ _) _).drew
    have H7 := Lib.hid (HH.out.below B7.out)
    obtain ⟨-, -, -, k3, k4, kf⟩ := H7.out.cells
    have g3 := kf 3
    have g4 := kf 4
    have hq7 : q < W7.heap.size := H7.out.lt.1
    have hqn7 : q ≠ W7.heap.size := Nat.ne_of_lt hq7
    clear hW7 c0 c1 c2 c3 c4 kf
    by_cases hNK : N ≤ K
    · have hNI : (N : Int) ≤ (K : Int) := by omega
      go_region_held3 (fun W' => W'.cell? ⟨q, 3, none⟩ = some (.int .u64 (K : Int)) ∧ W'.cell? ⟨q, 4, none⟩ = some (.int .u64 (B : Int)))
        (first | go_keep | exact (0 : Nat))
        (first | (go_at_call 76; refine (HSY.out _ _ (Fresh.new W7 W7.heap.size _ _ rfl).drew).mono ?_; rintro e1 w1 ⟨rfl, rfl⟩))
      all_goals
        go_wp2_with fail
        go_ret
        refine ⟨?_, (Below.step B7.out (Below.new (Below.refl _ _) _)).drew⟩
        show Ending.returned (.bool (decide (T ≤ B))) = _
        simp [hNK]
    · have hNI : ¬ (N : Int) ≤ (K : Int) := by omega
      go_region
      go_wp2_with fail
      go_ret
      refine ⟨?_, B7.out.drew⟩
      show Ending.returned (.bool false) = _
      simp [hNK]
  | some t =>
    obtain ⟨ht1, ht2⟩ := get_mem hg
    obtain ⟨x', o⟩ := t
    obtain rfl : x' = x := ht2
    have hto := (h.txt _ ht1).2
    obtain ⟨hg1, hg2⟩ := lenP_drop (srt_uniq h.srt) hg
    rw [hg] at hl
    simp only [seeV] at hl
    have hto : o.size ≤ 32 := hto
    have hb : IntKind.u64.wrap ((n : Int) - (o.size : Int)) = (b1 : Int) := by rw [IntKind.wrap_u64]; omega
    have hk : (len : Int) = (N : Int) := by omega
    have HSX := Lib.hid (size_one o (by omega))
    clear h hle hdl hle2 hp1 hp2 hT hN hb1 hTb hnn hlen hn hx hy hto ht1 hg1 hg2
    obtain rfl : len = N := by omega
    clear hk
    go_enter Try.func48, Try.ntmps48
    go_wp2_with fail
    go_region
    go_wp2_with (go_at_call 76; refine (HSX.out _ _ (Fresh.new W.drew W.heap.size _ _ rfl)).mono ?_; rintro e1 w1 ⟨rfl, rfl⟩)
    obtain ⟨W7, hW7⟩ : ∃ W7, W7 = (W.alloc (.cells #[.string o] 9)).drew := ⟨_, rfl⟩
    rw [← hW7]
    have B7 : Hid (Below W.heap.size W W7) := by show Below _ _ _; rw [hW7]; exact (Below.new (Below.refl _ _) _).drew
    have H7 := Lib.hid (HH.out.below B7.out)
    obtain ⟨-, -, -, k3, k4, kf⟩ := H7.out.cells
    have g3 := kf 3
    have g4 := kf 4
    have hq7 : q < W7.heap.size := H7.out.lt.1
    have hqn7 : q ≠ W7.heap.size := Nat.ne_of_lt hq7
    clear hW7 c0 c1 c2 c3 c4 kf
    by_cases hNK : len ≤ K
    · have hNI : (len : Int) ≤ (K : Int) := by omega
      go_region_held3 (fun W' => W'.cell? ⟨q, 3, none⟩ = some (.int .u64 (K : Int)) ∧ W'.cell? ⟨q, 4, none⟩ = some (.int .u64 (B : Int)))
        (first | go_keep | exact (0 : Nat))
        (first | (go_at_call 76; refine (HSY.out _ _ (Fresh.new W7 W7.heap.size _ _ rfl).drew).mono ?_; rintro e1 w1 ⟨rfl, rfl⟩))
      all_goals
        go_wp2_with fail
        go_ret
        refine ⟨?_, (Below.step B7.out (Below.new (Below.refl _ _) _)).drew⟩
        show Ending.returned (.bool (decide (T ≤ B))) = _
        simp [hNK]
    · have hNI : ¬ (len : Int) ≤ (K : Int) := by omega
      go_region
      go_wp2_with fail
      go_ret
      refine ⟨?_, B7.out.drew⟩
      show Ending.returned (.bool false) = _
      simp [hNK]
end Go.Proofs.Ytcpmnkihhenbgaa
