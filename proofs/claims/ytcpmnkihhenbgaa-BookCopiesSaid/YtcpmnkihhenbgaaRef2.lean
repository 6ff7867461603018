/- The reference model of a book: Has, Get, Keys, Bytes. -/
import Derived.Test.YtcpmnkihhenbgaaRef
import Derived.Test.YtcpmnkihhenbgaaQuota
import Derived.Lib.QuietBelow
namespace Go.Proofs.Ytcpmnkihhenbgaa
open Go.RowKit Go.Shelf
set_option maxRecDepth 1000000
set_option maxHeartbeats 4000000

/-- What stands at the place of a key. -/
theorem place_has {l : List Pr} (hs : SrtP l) (x : ByteArray) : (∃ y, l[atK x (keys l)]? = some (x, y) ∧ hasK x (keys l) = true ∧ getT l x = some (x, y)) ∨ (hasK x (keys l) = false ∧ getT l x = none ∧ ∀ k y, l[atK x (keys l)]? = some (k, y) → k ≠ x) := by
  cases hh : hasK x (keys l)
  · right
    have hn : x ∉ keys l := fun h => by rw [(hasK_iff x (keys l)).2 h] at hh; cases hh
    exact ⟨rfl, get_none_iff.2 hn, fun k y hk e => hn (by rw [← e]; unfold keys; exact List.mem_map_of_mem (f := Prod.fst) (List.mem_of_getElem? hk))⟩
  · left
    have hm := (hasK_iff x (keys l)).1 hh
    have h1 := (atK_mem hs x).1 hm
    unfold keys at h1
    rw [List.getElem?_map] at h1
    obtain ⟨⟨k, y⟩, h2, h3⟩ := Option.map_eq_some_iff.1 h1
    obtain rfl : k = x := h3
    exact ⟨y, h2, rfl, (get_iff hs).2 (List.mem_of_getElem? h2)⟩
theorem rhas_any {W : World} {v : Value} {l : List Pr} (h : Seg W v l) (hs : SrtP l) (ht : TxtP l) (hn : l.length < 1000000) (x : ByteArray) (K B : Nat) :
    Calls Try.prog 51 #[rb v K B, .string x] W fun e' w' => e' = .returned (.bool (hasK x (keys l))) ∧ Below W.heap.size W w' := by
  obtain ⟨W1, hW1, b1, f1⟩ := rbox W v K B
  have HAT := Lib.hid (rat_any (h.below b1) hs ht hn x K B)
  have hpl := place_has hs x
  obtain ⟨a, cap, rfl, hcap, _⟩ := h.form
  have HH : Hid (∀ (j : Nat) (y : Pr), l[j]? = some y → ∃ b o, a = some ⟨b, o, none⟩ ∧ b < W1.heap.size ∧ W1.cell? ⟨b, o + j * 2, none⟩ = some (.string y.1) ∧ W1.cell? ⟨b, o + j * 2 + 1, none⟩ = some (.string y.2)) := by
    obtain ⟨a', c', e', h'⟩ := (h.below b1).holds
    cases e'
    exact h'
  have HB := Lib.hid b1
  have HW1 := Lib.hid hW1
  have HF := Lib.hid f1
  have c0 := f1.cell 0
  have c1 := f1.cell 1
  have c2 := f1.cell 2
  simp only [List.getElem?_toArray, List.getElem?_cons_zero, List.getElem?_cons_succ] at c0 c1 c2
  obtain ⟨A, hA⟩ : ∃ A, atK x (keys l) = A := ⟨_, rfl⟩
  obtain ⟨r, hr⟩ : ∃ r, hasK x (keys l) = r := ⟨_, rfl⟩
  rw [hA] at HAT hpl
  rw [hr] at hpl ⊢
  have HP := Lib.hid hpl
  have HN := Lib.hid hn
  have hA0 : (0 : Int) ≤ (A : Int) := by omega
  clear h hs ht hn b1 f1 hW1 hA hr hpl
  unfold rb at HAT ⊢
  go_enter Try.func51, Try.ntmps51
  go_upto_region 1 with fail
  rw [← HW1.out]
  go_upto_region 2 with (go_at_call 41; refine HAT.out.mono ?_; rintro e4 w4 ⟨rfl, hb4⟩; have H4 := Lib.hid hb4; have c0 := (hb4.cell (cell_lt c0)).trans c0; clear hb4)
  by_cases hlt : A < l.length
  · obtain ⟨⟨kx, vx⟩, hx⟩ : ∃ t, l[A]? = some t := ⟨_, List.getElem?_eq_getElem hlt⟩
    obtain ⟨b, o, rfl, hb, k1, _⟩ := HH.out A _ hx
    replace k1 := (H4.out.cell (p := ⟨b, o + A * 2, none⟩) hb).trans k1
    dsimp only at k1
    have jl : (A : Int) < (l.length : Int) := by omega
    have jd : decide (A < l.length) = true := decide_eq_true hlt
    have hrk : r = decide (kx = x) := by
      rcases HP.out with ⟨y, h1, h2, _⟩ | ⟨h1, _, h2⟩
      · rw [hx] at h1
        cases h1
        rw [h2]
        simp
      · rw [h1]
        simpa using h2 kx vx hx
    have HX := Lib.hid (Below.step HB.out H4.out)
    clear hx hb
    by_cases he : kx = x
    · have heq : (kx.toList == x.toList) = true := by rw [kl_beq]; exact decide_eq_true he
      obtain rfl : r = true := by rw [hrk]; exact decide_eq_true he
      clear hrk he
      go_wp2_with fail
      go_ret
      exact ⟨by simp [heq], HX.out⟩
    · have heq : (kx.toList == x.toList) = false := by rw [kl_beq]; exact decide_eq_false he
      obtain rfl : r = false := by rw [hrk]; exact decide_eq_false he
      clear hrk he
      go_wp2_with fail
      go_ret
      exact ⟨by simp [heq], HX.out⟩
  · have jl : ¬ (A : Int) < (l.length : Int) := by omega
    have jd : decide (A < l.length) = false := decide_eq_false hlt
    obtain rfl : r = false := by
      rcases HP.out with ⟨y, h1, h2, _⟩ | ⟨h1, _, h2⟩
      · have := (List.getElem?_eq_some_iff.1 h1).1
        omega
      · exact h1
    have HX := Lib.hid (Below.step HB.out H4.out)
    go_wp2_with fail
    go_ret
    exact ⟨rfl, HX.out⟩
theorem rget_any {W : World} {v : Value} {l : List Pr} (h : Seg W v l) (hs : SrtP l) (ht : TxtP l) (hn : l.length < 1000000) (x : ByteArray) (K B : Nat) :
    Calls Try.prog 35 #[rb v K B, .string x] W fun e' w' => e' = .returned (.tuple #[.string (getB x l).1, .int .i64 (getB x l).2]) ∧ Below W.heap.size W w' := by
  obtain ⟨W1, hW1, b1, f1⟩ := rbox W v K B
  have HB := Lib.hid b1
  have HW1 := Lib.hid hW1
  by_cases hx16 : x.size ≤ 16
  · have HAT : Hid (∀ W', Below W1.heap.size W1 W' → Calls Try.prog 41 #[rb v K B, .string x] W' fun e' w' => e' = .returned (.int .i64 (atK x (keys l) : Nat)) ∧ Below W'.heap.size W' w') := fun W' hb => rat_any ((h.below b1).below hb) hs ht hn x K B
    have HHA := Lib.hid (rhas_any (h.below b1) hs ht hn x K B)
    have hpl := place_has hs x
    have hgb : getB x l = (match getT l x with | some t => (t.2, 0) | none => (⟨#[]⟩, 5)) := by unfold getB; rw [if_pos hx16]; cases getT l x <;> rfl
    have k16 : ¬ (16 : Int) < (x.size : Int) := by omega
    obtain ⟨a, cap, rfl, hcap, _⟩ := h.form
    have HH : Hid (∀ (j : Nat) (y : Pr), l[j]? = some y → ∃ b o, a = some ⟨b, o, none⟩ ∧ b < W1.heap.size ∧ W1.cell? ⟨b, o + j * 2, none⟩ = some (.string y.1) ∧ W1.cell? ⟨b, o + j * 2 + 1, none⟩ = some (.string y.2)) := by
      obtain ⟨a', c', e', h'⟩ := (h.below b1).holds
      cases e'
      exact h'
    have c0 := f1.cell 0
    have c1 := f1.cell 1
    have c2 := f1.cell 2
    simp only [List.getElem?_toArray, List.getElem?_cons_zero, List.getElem?_cons_succ] at c0 c1 c2
    rcases hpl with ⟨y, h1, h2, h3⟩ | ⟨h1, h2, _⟩
    · rw [h3] at hgb
      rw [h2] at HHA
      dsimp only at hgb
      obtain ⟨A, hA⟩ : ∃ A, atK x (keys l) = A := ⟨_, rfl⟩
      rw [hA] at h1 HAT
      obtain ⟨b, o, rfl, hb, k1, k2⟩ := HH.out A _ h1
      dsimp only at k2
      have hAl := (List.getElem?_eq_some_iff.1 h1).1
      have hA0 : (0 : Int) ≤ (A : Int) := by omega
      have jl : (A : Int) < (l.length : Int) := by omega
      rw [hgb]
      clear h hs ht hn b1 f1 hW1 hA h1 h2 h3 hgb hx16 k1
      unfold rb at HAT HHA ⊢
      go_enter Try.func35, Try.ntmps35
      go_upto_region 1 with fail
      rw [← HW1.out]
      go_upto_region 5 with (go_at_call 51; refine HHA.out.mono ?_; rintro e4 w4 ⟨rfl, hb4⟩; have H4 := Lib.hid hb4; have c0 := (hb4.cell (cell_lt c0)).trans c0; have c1 := (hb4.cell (cell_lt c1)).trans c1; have c2 := (hb4.cell (cell_lt c2)).trans c2; have k2 := (hb4.cell (cell_lt k2)).trans k2; clear hb4)
      have HA4 : Hid (∀ d os, Calls Try.prog 41 #[.agg #[.slice (some ⟨b, o, none⟩) l.length cap, .int .u64 (K : Int), .int .u64 (B : Int)], .string x] (Sort.grow (redrawn w4 d) os) fun e' w' => e' = .returned (.int .i64 (A : Nat)) ∧ Below (Sort.grow (redrawn w4 d) os).heap.size (Sort.grow (redrawn w4 d) os) w') := fun d os => HAT.out _ (Below.step H4.out (below_regrown w4 d os))
      have g0 := fun d os => cell_regrown c0 d os
      have g1 := fun d os => cell_regrown c1 d os
      have g2 := fun d os => cell_regrown c2 d os
      have g3 := fun d os => cell_regrown k2 d os
      refine wp_region_quiet_below (by kernel_rfl) (by kernel_rfl) ?_
      repeat (any_goals (first | go_big_quiet_step ((go_at_call 41; with_reducible exact Calls.regrown_of (HA4.out _ _))) | quiet_step (fail)))
      all_goals
        refine wpQuiet_nil ?_
        intro w9 hw9
        have H9 : Hid (Below w4.heap.size w4 w9) := by obtain ⟨p, rfl⟩ := hw9; exact below_regrown _ _ _
        clear hw9 g0 g1 g2 g3 HA4
        go_wp2_with fail
        go_ret2
        exact ⟨rfl, Below.step HB.out (Below.step H4.out H9.out)⟩
    · rw [h2] at hgb
      rw [h1] at HHA
      dsimp only at hgb
      rw [hgb]
      clear h hs ht hn b1 f1 hW1 h1 h2 hgb hx16 HH HAT
      unfold rb at HHA ⊢
      go_enter Try.func35, Try.ntmps35
      go_upto_region 1 with fail
      rw [← HW1.out]
      go_wp2_with (go_at_call 51; refine HHA.out.mono ?_; rintro e4 w4 ⟨rfl, hb4⟩; have H4 := Lib.hid hb4; clear hb4)
      go_ret2
      exact ⟨rfl, Below.step HB.out H4.out⟩
  · have hgb : getB x l = (⟨#[]⟩, 2) := by unfold getB; rw [if_neg hx16]
    have k16 : (16 : Int) < (x.size : Int) := by omega
    rw [hgb]
    clear h hs ht hn b1 f1 hW1 hgb hx16
    unfold rb
    go_enter Try.func35, Try.ntmps35
    go_upto_region 1 with fail
    rw [← HW1.out]
    go_wp2_with fail
    go_ret2
    exact ⟨rfl, HB.out⟩
theorem rkeys_any {W : World} {v : Value} {l : List Pr} (h : Seg W v l) (hn : l.length < 1000000) (K B : Nat) :
    Calls Try.prog 36 #[rb v K B] W fun e' w' => e' = .returned (.int .u64 (l.length : Nat)) ∧ Below W.heap.size W w' := by
  obtain ⟨W1, hW1, b1, f1⟩ := rbox W v K B
  obtain ⟨a, cap, rfl, _, _⟩ := h.form
  have HB := Lib.hid b1
  have HW1 := Lib.hid hW1
  have c0 := f1.cell 0
  simp only [List.getElem?_toArray, List.getElem?_cons_zero, List.getElem?_cons_succ] at c0
  have z1 : IntKind.u64.wrap ((l.length : Nat) : Int) = (l.length : Int) := by rw [IntKind.wrap_u64]; omega
  clear h hn b1 f1 hW1
  unfold rb
  go_enter Try.func36, Try.ntmps36
  go_upto_region 1 with fail
  rw [← HW1.out]
  go_wp2_with fail
  go_ret
  exact ⟨rfl, HB.out⟩
theorem rbytes_any {W : World} {v : Value} {l : List Pr} (h : Seg W v l) (ht : TxtP l) (hn : l.length < 1000) (K B : Nat) :
    Calls Try.prog 37 #[rb v K B] W fun e' w' => e' = .returned (.int .u64 (lenP l : Nat)) ∧ Below W.heap.size W w' := by
  obtain ⟨W1, hW1, b1, f1⟩ := rbox W v K B
  obtain ⟨a, cap, rfl, _, _⟩ := h.form
  have HH : Hid (∀ (j : Nat) (y : Pr), l[j]? = some y → ∃ b o, a = some ⟨b, o, none⟩ ∧ b < W1.heap.size ∧ W1.cell? ⟨b, o + j * 2, none⟩ = some (.string y.1) ∧ W1.cell? ⟨b, o + j * 2 + 1, none⟩ = some (.string y.2)) := by
    obtain ⟨a', c', e', h'⟩ := (h.below b1).holds
    cases e'
    exact h'
  have HB := Lib.hid b1
  have HW1 := Lib.hid hW1
  have HN := Lib.hid hn
  have HT := Lib.hid ht
  have c0 := f1.cell 0
  simp only [List.getElem?_toArray, List.getElem?_cons_zero, List.getElem?_cons_succ] at c0
  have hsz := f1.lt
  clear h hn b1 f1 hW1 ht
  unfold rb
  go_enter Try.func37, Try.ntmps37
  go_upto_region 1 with fail
  rw [← HW1.out]
  go_wp2_with fail
  go_loopw [3, 4] (fun nv iv wr => ∃ i : Nat, i ≤ l.length ∧ iv = .int .i64 i ∧ nv = .int .u64 (lenP (l.take i) : Nat) ∧ Below W1.heap.size W1 wr) (fun _ iv _ => l.length - (intOf iv).toNat)
  case atStart => exact ⟨0, Nat.zero_le _, rfl, rfl, Below.refl _ _⟩
  case round =>
    obtain ⟨i, hi, rfl, rfl, hbw⟩ := hrel
    replace c0 := (hbw.cell (p := ⟨W.heap.size, 0, none⟩) hsz).trans c0
    by_cases hlt : i < l.length
    · obtain ⟨⟨x, y⟩, hx⟩ : ∃ t, l[i]? = some t := ⟨_, List.getElem?_eq_getElem hlt⟩
      obtain ⟨b, o, rfl, hb, k1, k2⟩ := HH.out i _ hx
      replace k1 := (hbw.cell (p := ⟨b, o + i * 2, none⟩) hb).trans k1
      replace k2 := (hbw.cell (p := ⟨b, o + i * 2 + 1, none⟩) hb).trans k2
      dsimp only at k1 k2
      have hxy := HT.out _ (List.mem_of_getElem? hx)
      dsimp only at hxy
      have hq := lenP_lt (txt_take HT.out i) (by have := HN.out; simp; omega)
      have hs := lenP_take_succ hx
      dsimp only at hs
      obtain ⟨n, hn⟩ : ∃ n, lenP (l.take i) = n := ⟨_, rfl⟩
      rw [hn] at hq hs ⊢
      have jl : (i : Int) < (l.length : Int) := by omega
      have j0 : (0 : Int) ≤ (i : Int) := by omega
      have k80 : (i : Int) < 1000 := by have := HN.out; omega
      have jd : decide (i < l.length) = true := decide_eq_true hlt
      have z1 : IntKind.i64.wrap ((x.size : Int) + (y.size : Int)) = (x.size : Int) + (y.size : Int) := by rw [IntKind.wrap_i64]; omega
      have z3 : IntKind.u64.wrap ((x.size : Int) + (y.size : Int)) = (x.size : Int) + (y.size : Int) := by rw [IntKind.wrap_u64]; omega
      have z4 : IntKind.u64.wrap ((n : Int) + ((x.size : Int) + (y.size : Int))) = (n : Int) + ((x.size : Int) + (y.size : Int)) := by rw [IntKind.wrap_u64]; omega
      have HX := Lib.hid (And.intro hbw hs)
      clear hx hbw hb hs hi hn
      go_wp2_with fail
      go_region
      go_wp2_with fail
      refine ⟨⟨i + 1, by omega, by simp, ?_, HX.out.1.drew⟩, by simp [intOf]; omega⟩
      rw [HX.out.2]
      simp
    · have hll : l.take i = l := List.take_of_length_le (by omega)
      have jl : ¬ (i : Int) < (l.length : Int) := by omega
      have jd : decide (i < l.length) = false := decide_eq_false hlt
      rw [hll]
      have HX := Lib.hid (Below.step HB.out hbw)
      clear hbw hi
      go_wp2_with fail
      go_ret
      exact ⟨rfl, HX.out⟩
end Go.Proofs.Ytcpmnkihhenbgaa
