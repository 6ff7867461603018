/- The reference model of an art: Put of a code. -/
import Derived.Test.YtfffifmpfkkgbaaRef11b
namespace Go.Proofs.Ytfffifmpfkkgbaa
open Go.RowKit Go.Shelf
set_option maxRecDepth 1000000
set_option maxHeartbeats 4000000

theorem rput_ok {W : World} {v : Value} {l : List Pr} (h : Seg W v l) (hs : SrtP l) (ht : TxtP l) (hn : l.length < 900) (x y : ByteArray) (hc : Cd.isCode x.data.toList = true) (hy : y.size ≤ 32) (hxs : x.size ≤ 1000) :
    Calls Try.prog 27 #[rb v, .string x, .string y] W fun e' w' => ∃ v', e' = .returned (.tuple #[rb v', .int .i64 0]) ∧ Below W.heap.size W w' ∧ Seg w' v' (putP x y l) := by
  obtain ⟨a, cap, rfl, hcap, _⟩ := h.form
  obtain ⟨W1, hW1, b1, f1, f2, s1⟩ := rbox2 W (.slice a l.length cap)
  have HD := Lib.hid (Cd.rdecode_any x hxs W1)
  obtain ⟨k, hk⟩ : ∃ k, Cd.keyL x.data.toList = some k := Option.isSome_iff_exists.1 hc
  have HAT := Lib.hid (rat_any (h.below b1) hs ht (by omega) x)
  have HHA : Hid (∀ W', Below W1.heap.size W1 W' → Calls Try.prog 48 #[rb (.slice a l.length cap), .string x] W' fun e' w' => e' = .returned (.bool (hasK x (keys l))) ∧ Below W'.heap.size W' w') := fun W' hb => rhas_any ((h.below b1).below hb) hs ht (by omega) x
  have hpl := put_place hs x y
  have hAle : atK x (keys l) ≤ l.length := by rw [← keys_len]; exact atK_le _ _
  obtain ⟨A, hA⟩ : ∃ A, atK x (keys l) = A := ⟨_, rfl⟩
  have hlt1 : hasK x (keys l) = true → A < l.length := by
    intro hh
    rcases place_has hs x with ⟨y, h1, _⟩ | ⟨h1, _⟩
    · rw [hA] at h1; exact (List.getElem?_eq_some_iff.1 h1).1
    · rw [hh] at h1; cases h1
  rw [hA] at HAT hpl hAle
  have HS := Lib.hid (h.below b1)
  have HB := Lib.hid b1
  have HW1 := Lib.hid hW1
  have HF1 := Lib.hid f1
  have HF2 := Lib.hid f2
  have HN := Lib.hid hn
  have c0 := f1.cell 0
  simp only [List.getElem?_toArray, List.getElem?_cons_zero] at c0
  have hA0 : (0 : Int) ≤ (A : Int) := by omega
  have hAc : (A : Int) ≤ (cap : Int) := by omega
  have hAc' : A ≤ cap := by omega
  have HAle := Lib.hid hAle
  obtain ⟨ny, hny⟩ : ∃ ny, y.size = ny := ⟨_, rfl⟩
  rw [hny] at hy
  have jy : ¬ (32 : Int) < (ny : Int) := by omega
  clear h hs ht hn b1 f1 f2 hW1 hA hAle hc hy hxs
  unfold Cd.decOf at HD
  rw [hk] at HD
  dsimp only at HD
  clear hk
  unfold rb at HAT HHA ⊢
  generalize hPost : (fun (e' : Ending) (w' : World) => ∃ v', e' = .returned (.tuple #[.agg #[v'], .int .i64 0]) ∧ Below W.heap.size W w' ∧ Seg w' v' (putP x y l)) = Post
  have HPost := Lib.hid hPost
  clear hPost
  go_enter Try.func27, Try.ntmps27
  go_upto_region 1 with fail
  rw [← HW1.out]
  go_upto_region 7 with (first
    | (go_at_call 46; refine HD.out.mono ?_; rintro e4 w4 ⟨rfl, h4⟩; replace h4 := h4.symm; subst h4)
    | (go_at_call 47; refine HAT.out.mono ?_; rintro e2 w2 ⟨rfl, hb2⟩; have H2 := Lib.hid hb2; have c0 := (hb2.cell (cell_lt c0)).trans c0; clear hb2))
  obtain ⟨a5, k5, W5, a6, k6, W6, r5, r6, b5, b6, o6⟩ := put_steps (HS.out.below H2.out) HAle.out (by have := HN.out; omega) x y
  have ca : (w2.alloc (.cells #[] 34)).cell? ⟨W.heap.size, 0, none⟩ = some (.slice a l.length cap) := ((Below.new (Below.refl w2.heap.size w2) _).cell (p := ⟨W.heap.size, 0, none⟩) (cell_lt c0)).trans c0
  have c5 := (b5.cell (cell_lt c0)).trans c0
  have c6 := (b6.cell (cell_lt c0)).trans c0
  have H6 := Lib.hid (Below.step H2.out b6)
  have O6 := Lib.hid (And.intro o6 b6.size)
  have hl6 : (l.take A ++ [(x, y)]).length = A + 1 := by have := HAle.out; simp; omega
  have HL6 := Lib.hid hl6
  clear o6 b5 b6 hl6
  cases hh : hasK x (keys l)
  · rw [hh, if_neg (by simp), Nat.add_zero] at hpl
    rw [hh] at HHA
    have HQ := HAle
    have q2 : (A : Int) ≤ (l.length : Int) := by have := HAle.out; omega
    have HPL := Lib.hid hpl
    clear hpl hlt1 hh
    go_wp2_with (first
      | (at_builtin; refine Lib.wpList_append_run _ rfl _ _ _ _ rfl _ _ rfl rfl _ _ (r5 _) ?_; clear r5 ca)
      | (at_builtin; refine Lib.wpList_append_run _ rfl _ _ _ _ rfl _ _ rfl rfl _ _ (r6 _) ?_; clear r6)
      | (go_at_call 48; refine (HHA.out _ H6.out).mono ?_; rintro e7 w7 ⟨rfl, hb7⟩; obtain ⟨v8, W8, r8, o8, g8, y8⟩ := second (w2 := w2) (L := l.take A ++ [(x, y)]) (v := .slice a6 (A + 1) k6) A O6.out.1 O6.out.2 hb7 ((HS.out.below H6.out).below hb7) HQ.out (by have := HN.out; omega) (by have := HL6.out; have := HAle.out; have := HN.out; omega); rw [List.append_assoc, List.singleton_append, ← HPL.out] at o8; obtain ⟨a8, k8, rfl⟩ := row_form o8; obtain ⟨n8, hn8⟩ : ∃ n8, (putP x y l).length = n8 := ⟨_, rfl⟩; rw [hn8] at r8 o8; have HN8 := Lib.hid hn8; have b8 : Below W1.heap.size W1 W8 := Below.grown2 (Below.step H6.out hb7) g8 (fun r hr => Nat.le_trans H2.out.size (y8 r hr)); have H8 := Lib.hid (And.intro b8 (show Seg W8 (.slice a8 n8 k8) (putP x y l) from Seg.of_row (by rw [hn8]; exact o8))); have f8 := HF2.out.below b8; have s8 := f8.thawed 0; have t8 := f8.cell 0; simp only [List.getElem?_toArray, List.getElem?_cons_zero] at t8; have HF8 := Lib.hid f8; have c7 := (hb7.cell (cell_lt c6)).trans c6; clear hb7 o8 g8 y8 hn8 b8 f8)
      | (at_builtin; refine Lib.wpList_append_run _ rfl _ _ _ _ rfl _ _ rfl rfl _ _ (r8 _) ?_; clear r8))
    all_goals
      obtain ⟨hR1, hR2⟩ := told (v := .slice a8 n8 k8) (Below.step HB.out H8.out.1) H8.out.2 HF8.out (Nat.le_succ _)
      have q0 := (HF8.out.set 0 (.slice a8 n8 k8)).cell 0
      simp at q0
      refine bodyPost_ret (v := .tuple #[rb (.slice a8 n8 k8), .int .i64 0]) (by simp [results, Try.results27, go_sem, rb, q0]) rfl ?_
      rw [← HPost.out]
      exact ⟨_, rfl, hR1, hR2⟩
  · rw [hh, if_pos rfl] at hpl
    rw [hh] at HHA
    have hA1 := hlt1 hh
    have q1 : (0 : Int) ≤ (A : Int) + 1 := by omega
    have q2 : (A : Int) + 1 ≤ (l.length : Int) := by omega
    have q3 : ((A : Int) + 1).toNat = A + 1 := by omega
    have q4 : IntKind.i64.wrap ((A : Int) + 1) = (A : Int) + 1 := by have := HN.out; rw [IntKind.wrap_i64]; omega
    have HQ : Hid (A + 1 ≤ l.length) := by show _ ≤ _; omega
    have HPL := Lib.hid hpl
    clear hpl hlt1 hh
    go_wp2_with (first
      | (at_builtin; refine Lib.wpList_append_run _ rfl _ _ _ _ rfl _ _ rfl rfl _ _ (r5 _) ?_; clear r5 ca)
      | (at_builtin; refine Lib.wpList_append_run _ rfl _ _ _ _ rfl _ _ rfl rfl _ _ (r6 _) ?_; clear r6)
      | (go_at_call 48; refine (HHA.out _ H6.out).mono ?_; rintro e7 w7 ⟨rfl, hb7⟩; obtain ⟨v8, W8, r8, o8, g8, y8⟩ := second (w2 := w2) (L := l.take A ++ [(x, y)]) (v := .slice a6 (A + 1) k6) (A + 1) O6.out.1 O6.out.2 hb7 ((HS.out.below H6.out).below hb7) HQ.out (by have := HN.out; omega) (by have := HL6.out; have := HAle.out; have := HN.out; omega); rw [List.append_assoc, List.singleton_append, ← HPL.out] at o8; obtain ⟨a8, k8, rfl⟩ := row_form o8; obtain ⟨n8, hn8⟩ : ∃ n8, (putP x y l).length = n8 := ⟨_, rfl⟩; rw [hn8] at r8 o8; have HN8 := Lib.hid hn8; have b8 : Below W1.heap.size W1 W8 := Below.grown2 (Below.step H6.out hb7) g8 (fun r hr => Nat.le_trans H2.out.size (y8 r hr)); have H8 := Lib.hid (And.intro b8 (show Seg W8 (.slice a8 n8 k8) (putP x y l) from Seg.of_row (by rw [hn8]; exact o8))); have f8 := HF2.out.below b8; have s8 := f8.thawed 0; have t8 := f8.cell 0; simp only [List.getElem?_toArray, List.getElem?_cons_zero] at t8; have HF8 := Lib.hid f8; have c7 := (hb7.cell (cell_lt c6)).trans c6; clear hb7 o8 g8 y8 hn8 b8 f8)
      | (at_builtin; refine Lib.wpList_append_run _ rfl _ _ _ _ rfl _ _ rfl rfl _ _ (r8 _) ?_; clear r8))
    all_goals
      obtain ⟨hR1, hR2⟩ := told (v := .slice a8 n8 k8) (Below.step HB.out H8.out.1) H8.out.2 HF8.out (Nat.le_succ _)
      have q0 := (HF8.out.set 0 (.slice a8 n8 k8)).cell 0
      simp at q0
      refine bodyPost_ret (v := .tuple #[rb (.slice a8 n8 k8), .int .i64 0]) (by simp [results, Try.results27, go_sem, rb, q0]) rfl ?_
      rw [← HPost.out]
      exact ⟨_, rfl, hR1, hR2⟩
end Go.Proofs.Ytfffifmpfkkgbaa
