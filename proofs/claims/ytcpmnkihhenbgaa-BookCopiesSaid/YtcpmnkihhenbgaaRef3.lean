/- The reference model of a book: without. -/
import Derived.Test.YtcpmnkihhenbgaaRef2
namespace Go.Proofs.Ytcpmnkihhenbgaa
open Go.RowKit Go.Shelf
set_option maxRecDepth 1000000
set_option maxHeartbeats 4000000

/-- Without the key at its place. -/
theorem drop_place {l : List Pr} (hs : SrtP l) (x : ByteArray) : dropP x l = l.take (atK x (keys l)) ++ l.drop (atK x (keys l) + (if hasK x (keys l) = true then 1 else 0)) := by
  rcases place_has hs x with ⟨y, h1, h2, _⟩ | ⟨h1, h2, _⟩
  · rw [h2, if_pos rfl]
    obtain ⟨hA, he⟩ := List.getElem?_eq_some_iff.1 h1
    have hl : l = l.take (atK x (keys l)) ++ (x, y) :: l.drop (atK x (keys l) + 1) := by
      conv => lhs; rw [← List.take_append_drop (atK x (keys l)) l, List.drop_eq_getElem_cons hA, he]
    have hu := srt_uniq hs
    unfold Uniq at hu
    rw [hl, List.map_append, List.map_cons] at hu
    obtain ⟨_, h4, h5⟩ := List.nodup_append.1 hu
    have h6 := (List.nodup_cons.1 h4).1
    conv => lhs; rw [hl]
    unfold dropP delT
    rw [List.filter_append, List.filter_cons_of_neg (by simp)]
    congr 1
    · refine List.filter_eq_self.2 (fun z hz => ?_)
      have : z.1 ≠ x := fun e => h5 z.1 (List.mem_map_of_mem (f := Prod.fst) hz) x (by simp) e
      simpa using this
    · refine List.filter_eq_self.2 (fun z hz => ?_)
      have : z.1 ≠ x := by
        intro e
        have h7 := List.mem_map_of_mem (f := Prod.fst) hz
        rw [e] at h7
        exact h6 h7
      simpa using this
  · rw [h1, if_neg (by simp), Nat.add_zero, List.take_append_drop]
    exact drop_none h2
/-- A row of no pairs. -/
theorem row_none (W : World) : (W.alloc (.cells #[] 49)).ownsRow W.heap.size 49 2 (.slice (some ⟨W.heap.size, 0, none⟩) 0 0) ([] : List Pr).length (flatP []) :=
  World.ownsRow_lit W #[] 0 (Nat.le_refl _) (by unfold maxLen; omega) rfl
theorem Below.grown2 {W W1 W' : World} {row : Option Nat} (h : Below W.heap.size W W1) (hg : W1.grownBy W' row) (hr : ∀ r, row = some r → W.heap.size ≤ r) : Below W.heap.size W W' :=
  Turned.below (S := []) (Below.refl _ _) ((Turned.of_below h).kept hg hr) (by simp) (Nat.le_refl _)
theorem ret_row {W W5 W7 : World} {m n : Nat} {v : Value} {xs : List Value} (b : Below W.heap.size W W5) (T : Turned [W.heap.size, W.heap.size + 1] W5 W7) (o : W5.ownsRow m 49 2 v n xs) (hm : W.heap.size + 1 < m) : Below W.heap.size W W7 ∧ W7.ownsRow W.heap.size 49 2 v n xs := by
  refine ⟨Turned.below (S := [W.heap.size, W.heap.size + 1]) b T (by simp) b.size, row_low (row_keep o fun k hk => T.block k (o.lt k hk).2 (fun e => ?_)) (by omega)⟩
  have := (o.lt k hk).1
  simp at e
  omega
theorem second {w2 W3 w4 : World} {l L : List Pr} {v : Value} {a : Option Addr} {cap : Nat} (k : Nat) (ho : W3.ownsRow w2.heap.size 49 2 v L.length (flatP L)) (hs : w2.heap.size ≤ W3.heap.size) (hb : Below W3.heap.size W3 w4) (hS : Seg w4 (.slice a l.length cap) l) (hk : k ≤ l.length) (hn : l.length < 1000) (hL : L.length ≤ 1000 := by simp; omega) :
    ∃ v5 W5, (∀ ty, (Builtin.append_ #[29, 29] ty #[v, .slice (fromAd a cap k) (l.length - k) (cap - k)]).run Try.prog w4 = .ok v5 W5) ∧ W5.ownsRow w2.heap.size 49 2 v5 (L ++ l.drop k).length (flatP (L ++ l.drop k)) ∧ w4.grownBy W5 v.ownBlock ∧ ∀ r, v.ownBlock = some r → w2.heap.size ≤ r := by
  have o4 : w4.ownsRow w2.heap.size 49 2 v L.length (flatP L) := row_keep ho fun k hk => hb.block k (ho.lt k hk).2
  obtain ⟨v5, W5, r5, o5, g5⟩ := app_seg o4 (hS.drop hk) (Nat.le_trans hs hb.size) (by simp; omega)
  exact ⟨v5, W5, r5, o5, g5, fun r hr => (ho.lt r hr).1⟩
theorem rwithout_any {W : World} {v : Value} {l : List Pr} (h : Seg W v l) (hs : SrtP l) (ht : TxtP l) (hn : l.length < 1000) (x : ByteArray) (K B : Nat) :
    Calls Try.prog 50 #[rb v K B, .string x] W fun e' w' => ∃ v', e' = .returned (rb v' K B) ∧ Below W.heap.size W w' ∧ w'.ownsRow W.heap.size 49 2 v' (dropP x l).length (flatP (dropP x l)) := by
  obtain ⟨W1, hW1⟩ : ∃ W1, W1 = (W.alloc (.cells #[v, .int .u64 (K : Int), .int .u64 (B : Int)] 31)).alloc (.cells #[.slice none 0 0, .int .u64 0, .int .u64 0] 31) := ⟨_, rfl⟩
  have b1 : Below W.heap.size W W1 := by rw [hW1]; exact Below.new (Below.new (Below.refl _ _) _) _
  have f1 : Fresh W1 W.heap.size #[v, .int .u64 (K : Int), .int .u64 (B : Int)] 31 := by rw [hW1]; exact (Fresh.new _ _ _ _ rfl).alloc _
  have f2 : Fresh W1 (W.heap.size + 1) #[.slice none 0 0, .int .u64 0, .int .u64 0] 31 := by rw [hW1]; exact Fresh.new _ _ _ _ (by simp)
  have HAT := Lib.hid (rat_any (h.below b1) hs ht (by omega) x K B)
  have hdp := drop_place hs x
  have HHA : Hid (∀ W', Below W1.heap.size W1 W' → Calls Try.prog 51 #[rb v K B, .string x] W' fun e' w' => e' = .returned (.bool (hasK x (keys l))) ∧ Below W'.heap.size W' w') := fun W' hb => rhas_any ((h.below b1).below hb) hs ht (by omega) x K B
  obtain ⟨a, cap, rfl, hcap, _⟩ := h.form
  have HS := Lib.hid (h.below b1)
  have hAle : atK x (keys l) ≤ l.length := by rw [← keys_len]; exact atK_le _ _
  obtain ⟨A, hA⟩ : ∃ A, atK x (keys l) = A := ⟨_, rfl⟩
  have hlt1 : hasK x (keys l) = true → A < l.length := by
    intro hh
    rcases place_has hs x with ⟨y, h1, _⟩ | ⟨h1, _⟩
    · rw [hA] at h1; exact (List.getElem?_eq_some_iff.1 h1).1
    · rw [hh] at h1; cases h1
  rw [hA] at HAT hdp hAle
  have HB := Lib.hid b1
  have HW1 := Lib.hid hW1
  have HF1 := Lib.hid f1
  have HF2 := Lib.hid f2
  have HN := Lib.hid hn
  have c0 := f1.cell 0
  have c1 := f1.cell 1
  have c2 := f1.cell 2
  simp only [List.getElem?_toArray, List.getElem?_cons_zero, List.getElem?_cons_succ] at c0 c1 c2
  have hA0 : (0 : Int) ≤ (A : Int) := by omega
  have hAc : (A : Int) ≤ (cap : Int) := by omega
  have hAc' : A ≤ cap := by omega
  have HAle := Lib.hid hAle
  clear h hs ht hn b1 f1 f2 hW1 hA hAle
  unfold rb at HAT HHA
  show Calls Try.prog _ #[.agg #[.slice a l.length cap, .int .u64 (K : Int), .int .u64 (B : Int)], .string x] W _
  generalize hPost : (fun (e' : Ending) (w' : World) => ∃ v', e' = .returned (rb v' K B) ∧ Below W.heap.size W w' ∧ w'.ownsRow W.heap.size 49 2 v' (dropP x l).length (flatP (dropP x l))) = Post
  have HPost := Lib.hid hPost
  clear hPost
  go_enter Try.func50, Try.ntmps50
  go_upto_region 1 with fail
  rw [← HW1.out]
  go_upto_region 2 with (go_at_call 41; refine HAT.out.mono ?_; rintro e2 w2 ⟨rfl, hb2⟩; have H2 := Lib.hid hb2; have c0 := (hb2.cell (cell_lt c0)).trans c0; clear hb2)
  obtain ⟨v3, W3, r3, o3, g3⟩ := app_seg (row_none w2) (((HS.out.below H2.out).take HAle.out).below (Below.new (Below.refl _ _) _)) (by simp) (by have := HN.out; have := HAle.out; simp; omega)
  have b3 : Below w2.heap.size w2 W3 := Below.grown2 (Below.new (Below.refl _ _) _) g3 (fun r hr => ((row_none w2).lt r hr).1)
  rw [List.nil_append] at o3
  have ca : (w2.alloc (.cells #[] 49)).cell? ⟨W.heap.size, 0, none⟩ = some (.slice a l.length cap) := ((Below.new (Below.refl w2.heap.size w2) _).cell (p := ⟨W.heap.size, 0, none⟩) (cell_lt c0)).trans c0
  have c3 := (b3.cell (cell_lt c0)).trans c0
  have d1 := ((Below.step H2.out b3).cell (cell_lt c1)).trans c1
  have d2 := ((Below.step H2.out b3).cell (cell_lt c2)).trans c2
  have H3 := Lib.hid (Below.step H2.out b3)
  obtain ⟨a3, c3', rfl⟩ := row_form o3
  have hlA : (l.take A).length = A := by rw [List.length_take, Nat.min_eq_left HAle.out]
  have O3 : Hid (W3.ownsRow w2.heap.size 49 2 (.slice a3 A c3') (l.take A).length (flatP (l.take A))) := by
    show World.ownsRow _ _ _ _ _ _ _
    rw [hlA] at o3 ⊢
    exact o3
  rw [hlA] at r3
  clear hlA
  have S3 := Lib.hid b3.size
  clear o3 g3 b3 c1 c2
  cases hh : hasK x (keys l)
  · rw [hh, if_neg (by simp), Nat.add_zero] at hdp
    rw [hh] at HHA
    have HDP := Lib.hid hdp
    have q2 : (A : Int) ≤ (l.length : Int) := by have := HAle.out; omega
    have q3 : A ≤ l.length := HAle.out
    have HQ := HAle
    clear hdp hlt1 hh
    go_wp2_with (first
      | (at_builtin; refine Lib.wpList_append_run _ rfl _ _ _ _ rfl _ _ rfl rfl _ _ (r3 _) ?_; clear r3 ca)
      | (go_at_call 51; refine (HHA.out _ H3.out).mono ?_; rintro e4 w4 ⟨rfl, hb4⟩; have H4 := Lib.hid hb4; obtain ⟨v5, W5, r5, h5⟩ := second A O3.out S3.out hb4 ((HS.out.below H3.out).below hb4) HQ.out HN.out (by have := HN.out; rw [List.length_take]; omega); rw [HDP.out.symm] at h5; obtain ⟨a5, c5, rfl⟩ := row_form h5.1; obtain ⟨n5, hn5⟩ : ∃ n5, (dropP x l).length = n5 := ⟨_, rfl⟩; rw [hn5] at r5 h5; have HN5 := Lib.hid hn5; clear hn5; have H5 := Lib.hid h5; have b5 : Below W1.heap.size W1 W5 := Below.grown2 (Below.step H3.out H4.out) h5.2.1 (fun r hr => Nat.le_trans H2.out.size (h5.2.2 r hr)); have HB5 := Lib.hid b5; have f5 := HF1.out.below b5; have f5' := HF2.out.below b5; have z5 := f5.thawed 0; have HFB := Lib.hid f5'; have e0 := f5.cell 0; have e1 := f5.cell 1; have e2 := f5.cell 2; have t0 := f5'.cell 0; have t1 := f5'.cell 1; have t2 := f5'.cell 2; have s0 := f5'.thawed 0; have s1 := f5'.thawed 1; have s2 := f5'.thawed 2; simp only [List.getElem?_toArray, List.getElem?_cons_zero, List.getElem?_cons_succ] at e0 e1 e2 t0 t1 t2; have c3 := (hb4.cell (cell_lt c3)).trans c3; clear hb4 h5 b5 f5 f5')
      | (at_builtin; refine Lib.wpList_append_run _ rfl _ _ _ _ rfl _ _ rfl rfl _ _ (r5 _) ?_))
    all_goals
      have hF7 := (((HFB.out.other (q := W.heap.size) (by omega) 0 (.slice a5 n5 c5)).set 0 (.slice a5 n5 c5)).set 1 (.int .u64 (K : Int))).set 2 (.int .u64 (B : Int))
      obtain ⟨W7, hW7⟩ : ∃ W7, W7 = (((W5.setCell ⟨W.heap.size, 0, none⟩ (.slice a5 n5 c5)).setCell ⟨W.heap.size + 1, 0, none⟩ (.slice a5 n5 c5)).setCell ⟨W.heap.size + 1, 1, none⟩ (.int .u64 (K : Int))).setCell ⟨W.heap.size + 1, 2, none⟩ (.int .u64 (B : Int)) := ⟨_, rfl⟩
      rw [← hW7] at hF7 ⊢
      have r0 := hF7.cell 0
      have r1 := hF7.cell 1
      have r2 := hF7.cell 2
      simp at r0 r1 r2
      refine bodyPost_ret (v := rb (.slice a5 n5 c5) K B) (by simp [results, Try.results50, go_sem, rb, r0, r1, r2]) rfl ?_
      rw [← HPost.out]
      have hT := ((((Turned.refl [W.heap.size, W.heap.size + 1] W5).setCell (p := W.heap.size) (.inl (by simp)) 0 (.slice a5 n5 c5)).setCell (p := W.heap.size + 1) (.inl (by simp)) 0 (.slice a5 n5 c5)).setCell (p := W.heap.size + 1) (.inl (by simp)) 1 (.int .u64 (K : Int))).setCell (p := W.heap.size + 1) (.inl (by simp)) 2 (.int .u64 (B : Int))
      rw [← hW7] at hT
      have hR := ret_row (Below.step HB.out HB5.out) hT (by have := H5.out.1; rw [← HN5.out] at this; rw [HN5.out] at this; exact this) (Nat.le_trans HF2.out.lt H2.out.size)
      exact ⟨_, rfl, hR.1, by rw [HN5.out]; exact hR.2⟩
  · rw [hh, if_pos rfl] at hdp
    rw [hh] at HHA hlt1
    have HDP := Lib.hid hdp
    have hA1 := hlt1 rfl
    have q1 : (0 : Int) ≤ (A : Int) + 1 := by omega
    have q2 : (A : Int) + 1 ≤ (l.length : Int) := by omega
    have q3 : ((A : Int) + 1).toNat = A + 1 := by omega
    have q4 : IntKind.i64.wrap ((A : Int) + 1) = (A : Int) + 1 := by have := HN.out; rw [IntKind.wrap_i64]; omega
    have HQ : Hid (A + 1 ≤ l.length) := by show _ ≤ _; omega
    clear hdp hlt1 hh
    go_wp2_with (first
      | (at_builtin; refine Lib.wpList_append_run _ rfl _ _ _ _ rfl _ _ rfl rfl _ _ (r3 _) ?_; clear r3 ca)
      | (go_at_call 51; refine (HHA.out _ H3.out).mono ?_; rintro e4 w4 ⟨rfl, hb4⟩; have H4 := Lib.hid hb4; obtain ⟨v5, W5, r5, h5⟩ := second (A + 1) O3.out S3.out hb4 ((HS.out.below H3.out).below hb4) HQ.out HN.out (by have := HN.out; rw [List.length_take]; omega); rw [HDP.out.symm] at h5; obtain ⟨a5, c5, rfl⟩ := row_form h5.1; obtain ⟨n5, hn5⟩ : ∃ n5, (dropP x l).length = n5 := ⟨_, rfl⟩; rw [hn5] at r5 h5; have HN5 := Lib.hid hn5; clear hn5; have H5 := Lib.hid h5; have b5 : Below W1.heap.size W1 W5 := Below.grown2 (Below.step H3.out H4.out) h5.2.1 (fun r hr => Nat.le_trans H2.out.size (h5.2.2 r hr)); have HB5 := Lib.hid b5; have f5 := HF1.out.below b5; have f5' := HF2.out.below b5; have z5 := f5.thawed 0; have HFB := Lib.hid f5'; have e0 := f5.cell 0; have e1 := f5.cell 1; have e2 := f5.cell 2; have t0 := f5'.cell 0; have t1 := f5'.cell 1; have t2 := f5'.cell 2; have s0 := f5'.thawed 0; have s1 := f5'.thawed 1; have s2 := f5'.thawed 2; simp only [List.getElem?_toArray, List.getElem?_cons_zero, List.getElem?_cons_succ] at e0 e1 e2 t0 t1 t2; have c3 := (hb4.cell (cell_lt c3)).trans c3; clear hb4 h5 b5 f5 f5')
      | (at_builtin; refine Lib.wpList_append_run _ rfl _ _ _ _ rfl _ _ rfl rfl _ _ (r5 _) ?_))
    all_goals
      have hF7 := (((HFB.out.other (q := W.heap.size) (by omega) 0 (.slice a5 n5 c5)).set 0 (.slice a5 n5 c5)).set 1 (.int .u64 (K : Int))).set 2 (.int .u64 (B : Int))
      obtain ⟨W7, hW7⟩ : ∃ W7, W7 = (((W5.setCell ⟨W.heap.size, 0, none⟩ (.slice a5 n5 c5)).setCell ⟨W.heap.size + 1, 0, none⟩ (.slice a5 n5 c5)).setCell ⟨W.heap.size + 1, 1, none⟩ (.int .u64 (K : Int))).setCell ⟨W.heap.size + 1, 2, none⟩ (.int .u64 (B : Int)) := ⟨_, rfl⟩
      rw [← hW7] at hF7 ⊢
      have r0 := hF7.cell 0
      have r1 := hF7.cell 1
      have r2 := hF7.cell 2
      simp at r0 r1 r2
      refine bodyPost_ret (v := rb (.slice a5 n5 c5) K B) (by simp [results, Try.results50, go_sem, rb, r0, r1, r2]) rfl ?_
      rw [← HPost.out]
      have hT := ((((Turned.refl [W.heap.size, W.heap.size + 1] W5).setCell (p := W.heap.size) (.inl (by simp)) 0 (.slice a5 n5 c5)).setCell (p := W.heap.size + 1) (.inl (by simp)) 0 (.slice a5 n5 c5)).setCell (p := W.heap.size + 1) (.inl (by simp)) 1 (.int .u64 (K : Int))).setCell (p := W.heap.size + 1) (.inl (by simp)) 2 (.int .u64 (B : Int))
      rw [← hW7] at hT
      have hR := ret_row (Below.step HB.out HB5.out) hT (by have := H5.out.1; rw [← HN5.out] at this; rw [HN5.out] at this; exact this) (Nat.le_trans HF2.out.lt H2.out.size)
      exact ⟨_, rfl, hR.1, by rw [HN5.out]; exact hR.2⟩
end Go.Proofs.Ytcpmnkihhenbgaa
