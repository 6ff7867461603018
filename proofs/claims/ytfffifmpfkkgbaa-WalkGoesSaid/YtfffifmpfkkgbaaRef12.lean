/- From and Next of the references. -/
import Derived.Test.YtfffifmpfkkgbaaRef11d
import Derived.Test.YtfffifmpfkkgbaaFromA
namespace Go.Proofs.Ytfffifmpfkkgbaa
open Go.RowKit Go.Shelf
set_option maxRecDepth 1000000
set_option maxHeartbeats 4000000

theorem rfrom_any {W : World} {v : Value} {l : List Pr} (h : Seg W v l) (hs : SrtP l) (ht : TxtP l) (hn : l.length < 1000000) (x : ByteArray) :
    Calls Try.prog 32 #[rb v, .string x] W fun e' w' => e' = .returned (fromV (nextP x l)) ∧ Below W.heap.size W w' := by
  obtain ⟨W1, hW1, b1, f1⟩ := rbox W v
  have HAT := rat_any (h.below b1) hs ht hn x
  obtain ⟨a, cap, rfl, hcap, _⟩ := h.form
  have hH : ∀ (j : Nat) (y : Pr), l[j]? = some y → ∃ b o, a = some ⟨b, o, none⟩ ∧ b < W1.heap.size ∧ W1.cell? ⟨b, o + j * 2, none⟩ = some (.string y.1) ∧ W1.cell? ⟨b, o + j * 2 + 1, none⟩ = some (.string y.2) := by
    obtain ⟨a', c', e', h'⟩ := (h.below b1).holds
    cases e'
    exact h'
  have hAL : atK x (keys l) ≤ l.length := by rw [← keys_len]; exact atK_le _ _
  unfold nextP
  obtain ⟨A, hA⟩ : ∃ A, atK x (keys l) = A := ⟨_, rfl⟩
  obtain ⟨n, hnl⟩ : ∃ n, l.length = n := ⟨_, rfl⟩
  rw [hA] at HAT hAL ⊢
  rw [hnl] at HAT hAL ⊢
  have c0 := f1.cell 0
  simp only [List.getElem?_toArray, List.getElem?_cons_zero] at c0
  rw [hnl] at hW1 c0
  have HW1 := Lib.hid hW1
  have HB := Lib.hid b1
  replace HAT := Lib.hid HAT
  have jA : (0 : Int) ≤ (A : Int) := by omega
  unfold rb at HAT ⊢
  rcases Nat.lt_or_ge A n with hlt | hge
  · obtain ⟨⟨zk, zv⟩, hz⟩ : ∃ z, l[A]? = some z := ⟨_, List.getElem?_eq_getElem (by omega)⟩
    rw [hz]
    obtain ⟨blk, off, rfl, hblk, c1, c2⟩ := hH A _ hz
    dsimp only at c1 c2
    unfold fromV
    have jl : (A : Int) < (n : Int) := by omega
    have jd : decide (A < n) = true := decide_eq_true hlt
    have je : ((A : Int) == (n : Int)) = false := by rw [beq_eq_false_iff_ne]; omega
    clear h hs ht hn hH hcap hW1 b1 f1 hAL hA hnl hz hlt hblk
    go_enter Try.func32, Try.ntmps32
    go_upto_region 1 with fail
    rw [← HW1.out]
    go_upto_region 4 with (go_at_call 47; refine HAT.out.mono ?_; rintro e2 w2 ⟨rfl, hb2⟩; have d0 := (hb2.cell (cell_lt' c0)).trans c0; have d1 := (hb2.cell (cell_lt' c1)).trans c1; have d2 := (hb2.cell (cell_lt' c2)).trans c2; have H1 := Lib.hid hb2; clear hb2 c0 c1 c2)
    refine wp_region_held_drew (S := fun w' => w'.cell? ⟨W.heap.size, 0, none⟩ = some (.slice (some ⟨blk, off, none⟩) n cap) ∧ w'.cell? ⟨blk, off + A * 2, none⟩ = some (.string zk) ∧ w'.cell? ⟨blk, off + A * 2 + 1, none⟩ = some (.string zv)) (by kernel_rfl) ?_ (fun hHeld => ?_)
    · (try dsimp only)
      exact ⟨d0, d1, d2⟩
    refine wpAnyH_take (i := 0) (oi := ?_) (v := ?_) ?_ (by kernel_rfl) (by kernel_rfl) (by kernel_rfl) ?_ (Or.inl ⟨?_, ?_⟩) (by assumption) ?_
    rotate_left 2
    · simp only [List.getElem?_toArray, List.getElem?_cons_zero] <;> rfl
    · exact fun _ _ _ h => h
    · rfl
    · (intro w hSw; (try dsimp only at hSw); go_simp; try (with_reducible rfl))
    try simp only [Act.put, List.setIfInBounds_toArray, List.set_cons_zero, List.set_cons_succ]
    refine wpAnyH_take (i := 1) (oi := ?_) (v := ?_) ?_ (by kernel_rfl) (by kernel_rfl) (by kernel_rfl) ?_ (Or.inl ⟨?_, ?_⟩) (by assumption) ?_
    rotate_left 2
    · simp only [List.getElem?_toArray, List.getElem?_cons_succ, List.getElem?_cons_zero] <;> rfl
    · exact fun _ _ _ h => h
    · rfl
    · (intro w hSw; (try dsimp only at hSw); go_simp; try (with_reducible rfl))
    try simp only [Act.put, List.setIfInBounds_toArray, List.set_cons_zero, List.set_cons_succ]
    refine wpAnyH_take (i := 2) (oi := ?_) (v := ?_) ?_ (by kernel_rfl) (by kernel_rfl) (by kernel_rfl) ?_ (Or.inl ⟨?_, ?_⟩) (by assumption) ?_
    rotate_left 2
    · simp only [List.getElem?_toArray, List.getElem?_cons_succ, List.getElem?_cons_zero] <;> rfl
    · exact fun _ _ _ h => h
    · rfl
    · (intro w hSw; (try dsimp only at hSw); go_simp; try (with_reducible rfl))
    try simp only [Act.put, List.setIfInBounds_toArray, List.set_cons_zero, List.set_cons_succ]
    refine wpAnyH_take (i := 3) (oi := ?_) (v := ?_) ?_ (by kernel_rfl) (by kernel_rfl) (by kernel_rfl) ?_ (Or.inl ⟨?_, ?_⟩) (by assumption) ?_
    rotate_left 2
    · simp only [List.getElem?_toArray, List.getElem?_cons_succ, List.getElem?_cons_zero] <;> rfl
    · exact fun _ _ _ h => h
    · rfl
    · (intro w hSw; (try dsimp only at hSw); go_simp; try (with_reducible rfl))
    try simp only [Act.put, List.setIfInBounds_toArray, List.set_cons_zero, List.set_cons_succ]
    refine wpAnyH_take (i := 4) (oi := ?_) (v := ?_) ?_ (by kernel_rfl) (by kernel_rfl) (by kernel_rfl) ?_ (Or.inl ⟨?_, ?_⟩) (by assumption) ?_
    rotate_left 2
    · simp only [List.getElem?_toArray, List.getElem?_cons_succ, List.getElem?_cons_zero] <;> rfl
    · exact fun _ _ _ h => h
    · rfl
    · (intro w hSw; (try dsimp only at hSw); go_simp; try (with_reducible rfl))
    try simp only [Act.put, List.setIfInBounds_toArray, List.set_cons_zero, List.set_cons_succ]
    refine wpAnyH_take (i := 5) (oi := ?_) (v := ?_) ?_ (by kernel_rfl) (by kernel_rfl) (by kernel_rfl) ?_ (Or.inl ⟨?_, ?_⟩) (by assumption) ?_
    rotate_left 2
    · simp only [List.getElem?_toArray, List.getElem?_cons_succ, List.getElem?_cons_zero] <;> rfl
    · exact fun _ _ _ h => h
    · rfl
    · (intro w hSw; (try dsimp only at hSw); go_simp; try (with_reducible rfl))
    try simp only [Act.put, List.setIfInBounds_toArray, List.set_cons_zero, List.set_cons_succ]
    refine wpAnyH_take (i := 6) (oi := ?_) (v := ?_) ?_ (by kernel_rfl) (by kernel_rfl) (by kernel_rfl) ?_ (Or.inl ⟨?_, ?_⟩) (by assumption) ?_
    rotate_left 2
    · simp only [List.getElem?_toArray, List.getElem?_cons_succ, List.getElem?_cons_zero] <;> rfl
    · exact fun _ _ _ h => h
    · rfl
    · (intro w hSw; (try dsimp only at hSw); go_simp; try (with_reducible rfl))
    try simp only [Act.put, List.setIfInBounds_toArray, List.set_cons_zero, List.set_cons_succ]
    refine wpAnyH_take (i := 7) (oi := ?_) (v := ?_) ?_ (by kernel_rfl) (by kernel_rfl) (by kernel_rfl) ?_ (Or.inl ⟨?_, ?_⟩) (by assumption) ?_
    rotate_left 2
    · simp only [List.getElem?_toArray, List.getElem?_cons_succ, List.getElem?_cons_zero] <;> rfl
    · exact fun _ _ _ h => h
    · rfl
    · (intro w hSw; (try dsimp only at hSw); go_simp; try (with_reducible rfl))
    try simp only [Act.put, List.setIfInBounds_toArray, List.set_cons_zero, List.set_cons_succ]
    refine wpAnyH_take (i := 8) (oi := ?_) (v := ?_) ?_ (by kernel_rfl) (by kernel_rfl) (by kernel_rfl) ?_ (Or.inl ⟨?_, ?_⟩) (by assumption) ?_
    rotate_left 2
    · simp only [List.getElem?_toArray, List.getElem?_cons_succ, List.getElem?_cons_zero] <;> rfl
    · exact fun _ _ _ h => h
    · rfl
    · (intro w hSw; (try dsimp only at hSw); go_simp; try (with_reducible rfl))
    try simp only [Act.put, List.setIfInBounds_toArray, List.set_cons_zero, List.set_cons_succ]
    refine wpAnyH_take (i := 9) (oi := ?_) (v := ?_) ?_ (by kernel_rfl) (by kernel_rfl) (by kernel_rfl) ?_ (Or.inl ⟨?_, ?_⟩) (by assumption) ?_
    rotate_left 2
    · simp only [List.getElem?_toArray, List.getElem?_cons_succ, List.getElem?_cons_zero] <;> rfl
    · exact fun _ _ _ h => h
    · rfl
    · (intro w hSw; (try dsimp only at hSw); go_simp; try (with_reducible rfl))
    try simp only [Act.put, List.setIfInBounds_toArray, List.set_cons_zero, List.set_cons_succ]
    refine wpAnyH_take (i := 10) (oi := ?_) (v := ?_) ?_ (by kernel_rfl) (by kernel_rfl) (by kernel_rfl) ?_ (Or.inl ⟨?_, ?_⟩) (by assumption) ?_
    rotate_left 2
    · simp only [List.getElem?_toArray, List.getElem?_cons_succ, List.getElem?_cons_zero] <;> rfl
    · exact fun _ _ _ h => h
    · rfl
    · (intro w hSw; (try dsimp only at hSw); go_simp; try (with_reducible rfl))
    try simp only [Act.put, List.setIfInBounds_toArray, List.set_cons_zero, List.set_cons_succ]
    refine wpAnyH_take (i := 11) (oi := ?_) (v := ?_) ?_ (by kernel_rfl) (by kernel_rfl) (by kernel_rfl) ?_ (Or.inl ⟨?_, ?_⟩) (by assumption) ?_
    rotate_left 2
    · simp only [List.getElem?_toArray, List.getElem?_cons_succ, List.getElem?_cons_zero] <;> rfl
    · exact fun _ _ _ h => h
    · rfl
    · (intro w hSw; (try dsimp only at hSw); go_simp; try (with_reducible rfl))
    try simp only [Act.put, List.setIfInBounds_toArray, List.set_cons_zero, List.set_cons_succ]
    refine wpAnyH_take (i := 12) (oi := ?_) (v := ?_) ?_ (by kernel_rfl) (by kernel_rfl) (by kernel_rfl) ?_ (Or.inl ⟨?_, ?_⟩) (by assumption) ?_
    rotate_left 2
    · simp only [List.getElem?_toArray, List.getElem?_cons_succ, List.getElem?_cons_zero] <;> rfl
    · exact fun _ _ _ h => h
    · rfl
    · (intro w hSw; (try dsimp only at hSw); go_simp; try (with_reducible rfl))
    try simp only [Act.put, List.setIfInBounds_toArray, List.set_cons_zero, List.set_cons_succ]
    refine wpAnyH_take (i := 13) (oi := ?_) (v := ?_) ?_ (by kernel_rfl) (by kernel_rfl) (by kernel_rfl) ?_ (Or.inl ⟨?_, ?_⟩) (by assumption) ?_
    rotate_left 2
    · simp only [List.getElem?_toArray, List.getElem?_cons_succ, List.getElem?_cons_zero] <;> rfl
    · exact fun _ _ _ h => h
    · rfl
    · (intro w hSw; (try dsimp only at hSw); go_simp; try (with_reducible rfl))
    try simp only [Act.put, List.setIfInBounds_toArray, List.set_cons_zero, List.set_cons_succ]
    refine wpAnyH_take (i := 14) (oi := ?_) (v := ?_) ?_ (by kernel_rfl) (by kernel_rfl) (by kernel_rfl) ?_ (Or.inl ⟨?_, ?_⟩) (by assumption) ?_
    rotate_left 2
    · simp only [List.getElem?_toArray, List.getElem?_cons_succ, List.getElem?_cons_zero] <;> rfl
    · exact fun _ _ _ h => h
    · rfl
    · (intro w hSw; (try dsimp only at hSw); go_simp; try (with_reducible rfl))
    try simp only [Act.put, List.setIfInBounds_toArray, List.set_cons_zero, List.set_cons_succ]
    refine wpAnyH_done (by kernel_rfl) ?_ _
    go_wp2_with fail
    refine bodyPost_ret (v := .tuple #[.string zk, .string zv, .bool true]) (by simp [results, Try.results32, go_sem]) rfl ?_
    exact ⟨rfl, Below.step HB.out H1.out.drew⟩
  · have hz : l[A]? = none := List.getElem?_eq_none (by omega)
    rw [hz]
    obtain rfl : A = n := by omega
    unfold fromV
    clear h hs ht hn hH hcap hW1 b1 f1 hAL hA hnl hz hge
    go_enter Try.func32, Try.ntmps32
    go_upto_region 1 with fail
    rw [← HW1.out]
    go_wp2_with (go_at_call 47; refine HAT.out.mono ?_; rintro e2 w2 ⟨rfl, hb2⟩; have d0 := (hb2.cell (cell_lt' c0)).trans c0; have H1 := Lib.hid hb2; clear hb2 c0)
    refine bodyPost_ret (v := .tuple #[.string ⟨#[]⟩, .string ⟨#[]⟩, .bool false]) (by simp [results, Try.results32, go_sem]) rfl ?_
    exact ⟨rfl, Below.step HB.out H1.out⟩
def nextV (b : ByteArray) (o : Option Pr) : Value := match o with | some z => .tuple #[.agg #[.string z.1, .string z.2], .string (zup z.1), .bool true] | none => .tuple #[.agg #[.string ⟨#[]⟩, .string ⟨#[]⟩], .string b, .bool false]
theorem rnext_any {W : World} {v : Value} {l : List Pr} (h : Seg W v l) (hs : SrtP l) (ht : TxtP l) (hn : l.length < 1000000) (x : ByteArray) :
    Calls Try.prog 11 #[rb v, .string x] W fun e' w' => e' = .returned (nextV x (nextP x l)) ∧ Below W.heap.size W w' := by
  obtain ⟨W1, hW1⟩ : ∃ W1, W1 = (W.alloc (.cells #[v] 28)).alloc (.cells #[.string ⟨#[]⟩, .string ⟨#[]⟩] 34) := ⟨_, rfl⟩
  have b1 : Below W.heap.size W W1 := by rw [hW1]; exact Below.new (Below.new (Below.refl _ _) _) _
  have f1 : Fresh W1 W.heap.size #[v] 28 := by rw [hW1]; exact (Fresh.new _ _ _ _ rfl).alloc _
  have f2 : Fresh W1 (W.heap.size + 1) #[.string ⟨#[]⟩, .string ⟨#[]⟩] 34 := by rw [hW1]; exact Fresh.new _ _ _ _ (by simp)
  have HF := rfrom_any (h.below b1) hs ht hn x
  have hmem : ∀ z, nextP x l = some z → z ∈ l := fun z hz => List.mem_of_getElem? (show l[_]? = some z from hz)
  have hsz : ∀ z, nextP x l = some z → z.1.size ≤ 1000000 := fun z hz => by have := CodeP.size (ht z (hmem z hz)).1; omega
  obtain ⟨a, cap, rfl, hcap, _⟩ := h.form
  obtain ⟨n, hnl⟩ : ∃ n, l.length = n := ⟨_, rfl⟩
  rw [hnl] at HF hW1 f1 ⊢
  obtain ⟨o, ho⟩ : ∃ o, nextP x l = o := ⟨_, rfl⟩
  rw [ho] at HF hsz ⊢
  have c0 := f1.cell 0
  simp only [List.getElem?_toArray, List.getElem?_cons_zero] at c0
  have HW1 := Lib.hid hW1
  have HB := Lib.hid (And.intro b1 f2)
  replace HF := Lib.hid HF
  unfold rb at HF ⊢
  cases o with
  | none =>
    unfold fromV at HF
    unfold nextV
    dsimp only at HF ⊢
    clear h hs ht hn hmem hsz hcap hW1 b1 f1 f2 hnl ho
    go_enter Try.func11, Try.ntmps11
    go_upto_region 1 with fail
    rw [← HW1.out]
    go_upto_region 2 with (go_at_call 32; refine HF.out.mono ?_; rintro e2 w2 ⟨rfl, hb2⟩; have f3 := HB.out.2.below hb2; have t0 := f3.thawed 0; have t1 := f3.thawed 1; have d0 := f3.cell 0; have d1 := f3.cell 1; simp only [List.getElem?_toArray, List.getElem?_cons_zero, List.getElem?_cons_succ] at d0 d1; have H1 := Lib.hid (And.intro hb2 f3); clear hb2 f3 c0)
    go_wp2_with fail
    have g1 := (H1.out.2.set 0 (.string ⟨#[]⟩)).set 1 (.string ⟨#[]⟩)
    have r0 := g1.cell 0
    have r1 := g1.cell 1
    simp at r0 r1
    refine bodyPost_ret (v := .tuple #[.agg #[.string ⟨#[]⟩, .string ⟨#[]⟩], .string x, .bool false]) (by simp [results, Try.results11, go_sem, r0, r1]) rfl ?_
    exact ⟨rfl, Turned.below (S := [W.heap.size + 1]) (Below.step HB.out.1 H1.out.1) (((Turned.refl _ _).setCell (.inl (by simp)) _ _).setCell (.inl (by simp)) _ _) (by simp) (Nat.le_trans HB.out.1.size H1.out.1.size)⟩
  | some z =>
    obtain ⟨zk, zv⟩ := z
    unfold fromV at HF
    unfold nextV
    dsimp only at HF ⊢
    have jz := hsz _ rfl
    dsimp only at jz
    have jcat : (zk.size : Int) + 1 ≤ 9223372036854775807 := by omega
    obtain ⟨ku, hku⟩ : ∃ ku, zup zk = ku := ⟨_, rfl⟩
    have hkz : zk ++ ⟨#[0]⟩ = ku := hku
    rw [hku]
    clear h hs ht hn hmem hsz hcap hW1 b1 f1 f2 hnl ho jz hku
    go_enter Try.func11, Try.ntmps11
    go_upto_region 1 with fail
    rw [← HW1.out]
    go_upto_region 2 with (go_at_call 32; refine HF.out.mono ?_; rintro e2 w2 ⟨rfl, hb2⟩; have f3 := HB.out.2.below hb2; have t0 := f3.thawed 0; have t1 := f3.thawed 1; have d0 := f3.cell 0; have d1 := f3.cell 1; simp only [List.getElem?_toArray, List.getElem?_cons_zero, List.getElem?_cons_succ] at d0 d1; have H1 := Lib.hid (And.intro hb2 f3); clear hb2 f3 c0)
    go_wp2_with fail
    have g1 := (H1.out.2.set 0 (.string zk)).set 1 (.string zv)
    have r0 := g1.cell 0
    have r1 := g1.cell 1
    simp at r0 r1
    refine bodyPost_ret (v := .tuple #[.agg #[.string zk, .string zv], .string ku, .bool true]) (by simp [results, Try.results11, go_sem, r0, r1]) rfl ?_
    exact ⟨rfl, Turned.below (S := [W.heap.size + 1]) (Below.step HB.out.1 H1.out.1) (((Turned.refl _ _).setCell (.inl (by simp)) _ _).setCell (.inl (by simp)) _ _) (by simp) (Nat.le_trans HB.out.1.size H1.out.1.size)⟩
end Go.Proofs.Ytfffifmpfkkgbaa
