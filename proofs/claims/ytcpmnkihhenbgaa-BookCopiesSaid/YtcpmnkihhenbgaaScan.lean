/- A book: Scan. -/
import Derived.Test.YtcpmnkihhenbgaaFromK
namespace Go.Proofs.Ytcpmnkihhenbgaa
open Go.RowKit Go.Shelf
attribute [local go_sem] Oper.semAt_some
set_option maxRecDepth 100000
set_option maxHeartbeats 4000000

/-- What Scan gives. -/
def scanB (x : ByteArray) (limit : Int) (l : List Pr) : List Pr × Int := if x.size ≤ 16 then (if 0 ≤ limit ∧ limit ≤ 4096 then ((l.drop (atK x (keys l))).take limit.toNat, 0) else ([], 2)) else ([], 2)
theorem slcs_take {W : World} {e : Nat} {ks : List ByteArray} {a : Option Addr} {n c : Nat} (h : SlcS W e ks (.slice a n c)) (k : Nat) (hk : k ≤ n) : ks.length = n ∧ SlcS W e (ks.take k) (.slice a k c) := by
  obtain ⟨a2, c2, h1, h2⟩ := h.form
  simp only [Value.slice.injEq] at h1
  obtain ⟨rfl, h3, rfl⟩ := h1
  refine ⟨h3.symm, a, c, by rw [List.length_take]; congr 1; omega, fun j y hj => ?_⟩
  have hjk := (List.getElem?_eq_some_iff.1 hj).1
  rw [List.length_take] at hjk
  rw [List.getElem?_take_of_lt (by omega)] at hj
  exact h2 j y hj
theorem each_of2 {W : World} {bx e : Nat} {ks : List ByteArray} {v : Value} (h : SlcS W e ks v) (hk : (∃ cur, Fresh W e cur 9) ∨ ks = []) (hb : Fresh W bx #[v] 70) : ∃ e3, (e3 = e ∨ e3 = bx) ∧ EachAt W bx e3 ks v := by
  rcases hk with hk | rfl
  · exact ⟨e, .inl rfl, hb, h, .inr hk⟩
  · obtain ⟨a, c, h1, _⟩ := h.form
    exact ⟨bx, .inr rfl, hb, ⟨a, c, h1, fun j k hj => by simp at hj⟩, .inl rfl⟩
theorem slcs_each {W : World} {bx e : Nat} {ks : List ByteArray} {v : Value} (h : SlcS W e ks v) (hb : Fresh W bx #[v] 70) (he : e = bx ∨ ∃ cur, Fresh W e cur 9) : EachAt W bx e ks v := ⟨hb, h, he⟩
/-- What the rounds of Scan keep. -/
structure ScanAt (w W : World) (p q e m b0 : Nat) (l : List Pr) (K B : Nat) : Prop where
  bk : BookAt W p q e m l K B
  box : Fresh W b0 #[.pointer (some ⟨p, 0, none⟩)] 27
theorem scan_ok {w : World} {p q e m : Nat} {l : List Pr} {K B : Nat} (h : BookAt w p q e m l K B) (hlen : l.length < 100000) (x : ByteArray) (hx : x.size ≤ 16) (L : Nat) (hL : L ≤ 4096) :
    Calls Try.prog 14 #[.pointer (some ⟨p, 0, none⟩), .string x, .int .i64 (L : Int)] w fun e' w' => ∃ v, e' = .returned (.tuple #[v, .int .i64 0]) ∧ Below w.heap.size w w' ∧ w'.ownsRow w.heap.size 49 2 v ((l.drop (atK x (keys l))).take L).length (flatP ((l.drop (atK x (keys l))).take L)) := by
  have HH0 := Lib.hid h
  obtain ⟨ll, hll⟩ : ∃ ll, ll = (l.drop (atK x (keys l))).take L := ⟨_, rfl⟩
  rw [← hll]
  have HLD := Lib.hid hll
  clear hll
  have L0 : (0 : Int) ≤ (L : Int) := by omega
  have L1 : (L : Int) ≤ 4096 := by omega
  obtain ⟨W1, hW1⟩ : ∃ W1, W1 = w.alloc (.cells #[.pointer (some ⟨p, 0, none⟩)] 27) := ⟨_, rfl⟩
  have B1 : Below w.heap.size w W1 := by rw [hW1]; exact Below.new (Below.refl _ _) _
  have f1 : Fresh W1 w.heap.size #[.pointer (some ⟨p, 0, none⟩)] 27 := by rw [hW1]; exact Fresh.new _ _ _ _ rfl
  have s1 : W1.heap.size = w.heap.size + 1 := by rw [hW1]; simp
  have A1 := h.below B1
  have HE := Lib.hid (errno_any A1 x (RowS.nil W1 q) A1.lt.2.1 (by simp))
  rw [errV_nil, if_pos hx] at HE
  have c1 := (f1.cell 0).trans rfl
  simp only [List.getElem?_toArray, List.getElem?_cons_zero] at c1
  have HW1 := Lib.hid hW1
  have HA1 := Lib.hid (And.intro A1 (And.intro f1 (And.intro B1 s1)))
  have HLEN := Lib.hid hlen
  have HL4 := Lib.hid hL
  have hmf := @makeFunc_run Try.prog
  clear h hx hW1 B1 A1 hlen f1 hL
  refine (callsIn_wide (n := 10)).1 ?_
  refine callsIn_of_wp_marks Try.func14 rfl trivial ?_ rfl
  simp only [Try.ntmps14, List.size_toArray, List.length_cons, List.length_nil, Nat.reduceAdd, Nat.reduceSub, Array.replicate_succ, Array.replicate_zero, List.push_toArray, List.append_toArray, List.nil_append, List.cons_append]
  refine wpIn_wide.2 ?_
  refine wp_mono (Q := calmQ _) ?_ calmQ_out
  go_upto_region 1 with fail
  rw [← HW1.out]
  go_upto_region 7 with (first
    | (go_at_call 38; refine HE.out.mono ?_; rintro e1 w2 ⟨rfl, hb2⟩
       have A2 := HA1.out.1.below hb2
       have f2 := HA1.out.2.1.below hb2
       have k0 := (f2.cell 0).trans rfl
       simp only [List.getElem?_toArray, List.getElem?_cons_zero] at k0
       have k1 := A2.cells.1
       obtain ⟨v2, hs2⟩ := A2.st
       have k2 := hs2.cells.1
       have HA2 := Lib.hid (And.intro A2 (And.intro f2 (And.intro (Below.step HA1.out.2.2.1 hb2) hb2.size)))
       have HS2 := Lib.hid hs2
       obtain ⟨va, vn, vc, rfl⟩ := hs2.key.row.slice'
       clear A2 f2 hb2 hs2)
    | (go_at_call 39; refine (from_any HS2.out.key.row HS2.out.srt (by rw [keys_len]; have := HLEN.out; omega) x).mono ?_
       rintro e3 w3 ⟨v3, rfl, hb3, hs3, hc3⟩
       obtain ⟨a3, c3, rfl, _⟩ := hs3.form
       have hRc := hc3 _ _ _ rfl
       obtain ⟨R, hR⟩ : ∃ R, ((keys l).drop (atK x (keys l))).length = R := ⟨_, rfl⟩
       have HS3 := Lib.hid (And.intro hb3 (And.intro hs3 hR))
       rw [hR] at hRc ⊢
       have HRC := Lib.hid hRc
       clear hb3 hs3 hR hc3 hRc))
  go_upto_region 8 with fail
  obtain ⟨W4, hW4⟩ : ∃ W4, W4 = w3.alloc (.cells #[.slice none 0 0] 29) := ⟨_, rfl⟩
  rw [← hW4]
  have B4 : Below w3.heap.size w3 W4 := by rw [hW4]; exact Below.new (Below.refl _ _) _
  have fx4 : Fresh W4 w3.heap.size #[.slice none 0 0] 29 := by rw [hW4]; exact Fresh.new _ _ _ _ rfl
  have s4 : W4.heap.size = w3.heap.size + 1 := by rw [hW4]; simp
  have H4 := Lib.hid (And.intro B4 (And.intro fx4 s4))
  clear hW4 B4 fx4 s4 k0 k1 k2 c1
  obtain ⟨kk, hkk⟩ : ∃ kk, kk = min L R := ⟨_, rfl⟩
  have hmin : min (L : Int) (R : Int) = (kk : Int) := by rw [hkk]; omega
  have k0 : (0 : Int) ≤ (kk : Int) := by omega
  have k1 : (kk : Int) ≤ (c3 : Int) := by have := HRC.out; omega
  have HKK := Lib.hid hkk
  clear hkk
  go_wp2_with (go_at_call 40; refine (each_any _ _ ⟨_, _, _, rfl⟩).mono ?_; rintro e' WL ⟨rfl, hWL⟩; have HWL := Lib.hid hWL; clear hWL)
  obtain ⟨iP, hP0, hP1, hP2, hP3⟩ := infoP
  have HP := Lib.hid (And.intro hP0 (And.intro hP1 (And.intro hP2 hP3)))
  clear hP0 hP1 hP2 hP3
  have hll := HLD.out
  have hkl : ((keys l).drop (atK x (keys l))).take kk = keys ll := by
    have h1 : keys ll = ((keys l).drop (atK x (keys l))).take L := by rw [hll]; simp [keys, List.map_take, List.map_drop]
    rw [h1]
    have h2 := HS3.out.2.2
    have h3 := HKK.out
    rcases Nat.le_total L R with h4 | h4
    · rw [show kk = L by omega]
    · rw [List.take_of_length_le (by omega), List.take_of_length_le (by omega)]
  have hLL : ll.length ≤ 4096 := by rw [hll, List.length_take]; have := HL4.out; omega
  have hsub : ∀ z ∈ ll, z ∈ l := by rw [hll]; exact fun z hz => List.mem_of_mem_drop (List.mem_of_mem_take hz)
  have HLL := Lib.hid (And.intro hLL hsub)
  have z2 := HA2.out.2.2.2
  have zw2 := HA2.out.2.2.1.size
  have zA := HA2.out.1.lt
  have z3 := HS3.out.1.size
  have z1 := HA1.out.2.2.2
  have s4 := H4.out.2.2
  have szL : WL.heap.size = W4.heap.size + 1 := by rw [HWL.out]; simp
  have BL : Below W4.heap.size W4 WL := by rw [HWL.out]; exact Below.new (Below.refl _ _) _
  have B2L : Below w2.heap.size w2 WL := Below.step (Below.step HS3.out.1 H4.out.1) BL
  have fb : Fresh WL W4.heap.size #[.slice a3 kk c3] 70 := by rw [HWL.out]; exact Fresh.new _ _ _ _ rfl
  obtain ⟨hRR, hsl⟩ := slcs_take HS3.out.2.1 kk (by have := HKK.out; have := HS3.out.2.2; omega)
  rw [hkl] at hsl
  have hslL : SlcS WL e (keys ll) (.slice a3 kk c3) := hsl.same (B2L.block e zA.2.2.1)
  obtain ⟨e3, he3, BY⟩ := each_of2 hslL (by
    rcases HS2.out.key.row.form with ⟨_, h2⟩ | ⟨_, cur, _, h2, _⟩
    · right
      rw [← hkl, h2]; simp
    · exact .inl ⟨cur, h2.below B2L⟩) fb
  obtain ⟨X, hX⟩ : ∃ X, X = w3.heap.size := ⟨_, rfl⟩
  rw [← hX] at s4 ⊢
  obtain ⟨C, hC⟩ : ∃ C, C = WL.heap.size := ⟨_, rfl⟩
  have fxL : Fresh WL X #[.slice none 0 0] 29 := by rw [hX]; exact H4.out.2.1.below BL
  have bwL : Below w.heap.size w WL := Below.step HA2.out.2.2.1 B2L
  have fbL : Fresh WL w.heap.size #[.pointer (some ⟨p, 0, none⟩)] 27 := HA2.out.2.1.below B2L
  have hbl : w.heap.size < w2.heap.size := HA2.out.2.1.lt
  have ML : MidP w WL X C ll (.slice none 0 0) 0 :=
    ⟨fxL, ⟨rfl, .inl ⟨rfl, rfl⟩⟩, bwL, by omega⟩
  obtain ⟨S, hS⟩ : ∃ S, S = [X, WL.heap.size + 1] := ⟨_, rfl⟩
  have he4 : e3 ≠ X ∧ e3 ≠ WL.heap.size + 1 := by rcases he3 with h | h <;> (rw [h]; omega)
  have SZ := Lib.hid (And.intro szL (And.intro hC (And.intro s4 (And.intro hbl (And.intro z3 (And.intro hX zw2))))))
  clear hX
  have HBK : Hid (∀ Wc, Below w.heap.size w Wc → BookAt Wc p q e m l K B) := fun Wc hb => HH0.out.below hb
  clear hll
  clear k0 k1 hmin
  refine (wpIn_wide (n := 10)).1 ?_
  generalize hA0 : ({ tmps := _, defers := _ } : Act) = A0
  refine range_box rfl (by omega) (gf := 54) (lb := #[.pointer (some ⟨W4.heap.size, 0, none⟩)]) (by rw [← hA0]; rfl) trivial (enters_of Try.func54 (by kernel_rfl) rfl)
    (each_own 9 (by omega) W4.heap.size e3 (keys ll) (.slice a3 kk c3) (by rw [keys_len]; omega) (KeepT S) WL BY
      (fun A B hk hB => hB.kp kKeepT hk (by rw [hS]; simp; omega) (by rw [hS]; simp; omega)))
    (fun h k => h.trans k) (fun Wc o _ => KeepT.put (by rw [hS]; simp) o) (Below.refl _ _) (fun _ => rfl)
    (fun pre Wc => ∃ (k : Nat) (vx : Value), k ≤ ll.length ∧ pre = (keys ll).take k ∧ MidP w Wc X C ll vx k ∧ Fresh Wc w.heap.size #[.pointer (some ⟨p, 0, none⟩)] 27)
    (fun _ _ _ => False)
    (fun pre Y Z row ⟨k, vx, h1, h2, h3, h4⟩ hg hr => ⟨k, vx, h1, h2, h3.kept hg (fun r e => ⟨by have := (hr r e).1; have := h3.hC; omega, (hr r e).2⟩), h4.kept hg (fun r e => (hr r e).2)⟩)
    (fun _ _ _ _ _ h _ _ => h)
    ⟨0, _, Nat.zero_le _, rfl, ML, fbL⟩
    (fun x a' Wc => a' = { tmps := (A0.tmps.setIfInBounds 40 (.string x)).setIfInBounds 11 (.string x), defers := [] })
    (fun x a' _ Y Z row h1 hg hr => h1)
    ?assignment ?round ?done ?stop
  all_goals subst hA0
  case assignment =>
    rintro l' pre x' Wc K' hG ⟨k, vx, hk, hpre, hM, hf⟩ hK
    have HK := hK _ Wc ((KeepsOthers.refl _).from _) (KeepT.refl _ Wc) ⟨k, vx, hk, hpre, hM, hf⟩ rfl
    clear hK hM hf hG szL BL ML s4 z1 z2 z3 zw2 zA
    simp only [List.setIfInBounds_toArray, List.set_cons_succ, List.set_cons_zero] at HK
    replace HK := Lib.hid HK
    unfold keyV
    gi_wp2
    exact HK.out
  case round =>
    rintro l' pre x1 a' W5 hG ⟨k, vx, hk, hpre, hM, hf⟩ rfl hz
    simp only [List.setIfInBounds_toArray, List.set_cons_succ, List.set_cons_zero]
    obtain ⟨j, hj, hjx⟩ := hG
    rw [keys_len] at hj
    obtain ⟨h4, h5⟩ := List.append_inj' hjx rfl
    obtain rfl : k = j := by
      have := congrArg List.length (hpre.symm.trans h4)
      simp only [List.length_take, keys_len] at this
      omega
    obtain ⟨⟨xx, y1⟩, hlk⟩ : ∃ z, ll[k] = z := ⟨_, rfl⟩
    obtain rfl : x1 = xx := by
      have h6 : x1 = (keys ll)[k]'(by rw [keys_len]; exact hj) := by simpa using h5
      rw [h6]
      simp [keys, hlk]
    have hnx : pre ++ [x1] = (keys ll).take (k + 1) := by rw [hjx]; exact (List.take_succ_eq_append_getElem (by rw [keys_len]; exact hj)).symm
    have hbt : flatP (ll.take (k + 1)) = flatP (ll.take k) ++ [.string x1, .string y1] := by
      rw [List.take_succ_eq_append_getElem hj, hlk, flatP_snoc]
    have hBK := HBK.out W5 hM.low
    have hget : getT l x1 = some (x1, y1) := get_of_mem (srt_uniq hBK.good.1) (HLL.out.2 _ (by rw [← hlk]; exact List.getElem_mem hj))
    obtain ⟨k0, k1⟩ := hBK.cells
    obtain ⟨v5, hs5⟩ := hBK.st
    have hlook := (hs5.below ((Below.refl _ _).drew)).look1 x1 y1 hget
    have d1 := hM.fx.cell 0
    have d0 := (hf.cell 0).trans rfl
    simp only [List.getElem?_toArray, List.getElem?_cons_zero] at d1 d0
    have hl1 := hM.fx.lt
    have hCW : C ≤ W5.heap.size := by rw [hC]; omega
    obtain ⟨ax, kx, rfl⟩ := row_form hM.ox
    have lowD : Below W5.heap.size W5 W5.drew := (Below.refl _ _).drew
    have MD := hM.below lowD
    have low : Below W5.drew.heap.size W5.drew (W5.drew.alloc (.cells #[.string x1, .string y1] 49)) := Below.new (Below.refl _ _) _
    have d1' : (W5.alloc (.cells #[.string x1, .string y1] 49)).cell? ⟨X, 0, none⟩ = some (.slice ax k kx) := ((MD.fx.below low).cell 0).trans rfl
    have o5 := Lib.hid (MD.below low).ox
    have N5 : Hid (∀ (j : Nat) u, [Value.string x1, Value.string y1][j]? = some u → (W5.drew.alloc (.cells #[.string x1, .string y1] 49)).cell? ((⟨W5.heap.size, 0, none⟩ : Addr).add j) = some u) := by
      intro j u hj
      rw [Addr.add_lit, Nat.zero_add, (Fresh.new W5.drew W5.heap.size #[.string x1, .string y1] 49 rfl).cell j]
      simpa using hj
    have HM := Lib.hid (And.intro MD (And.intro hj (And.intro hnx (And.intro hbt hf))))
    have hk16 : Hid (k ≤ 4096) := by have := HLL.out.1; show k ≤ 4096; omega
    have HC5 : Hid (C ≤ (W5.drew.alloc (.cells #[.string x1, .string y1] 49)).heap.size) := by show _ ≤ _; simp; omega
    have hmx : Try.prog.follows .mixedOrders = true := by kernel_rfl
    have hqn : X ≠ W5.heap.size := by omega
    clear hM MD hbt hj hjx h4 h5 hnx hpre hk low lowD hCW hBK hs5 hlk hget hf szL BL ML s4 z1 z2 z3 zw2 zA hC BY he3 he4 fb fxL bwL fbL hslL hsl
    gi_wp2
    refine region_inRound l' (by kernel_rfl) hmx ?_
    refine wpAnyIn_take (i := 1) (v := ?_) rfl rfl (by kernel_rfl) (by kernel_rfl) (by kernel_rfl) (fun _ _ _ h => h) ⟨Or.inl ⟨by rfl, ?_⟩, fun _ => rfl⟩ ?_; rotate_left 1; focus (intro w; go_simp; try with_reducible rfl)
    refine wpAnyIn_take (i := 9) (v := ?_) rfl rfl (by kernel_rfl) (by kernel_rfl) (by kernel_rfl) (fun _ _ _ h => h) ⟨Or.inl ⟨by rfl, ?_⟩, fun _ => rfl⟩ ?_; rotate_left 1; focus (intro w; go_simp; try with_reducible rfl)
    refine wpAnyIn_ready (rs := [0, 2]) (by kernel_rfl) (by simp) ?_
    refine AllReadyIn.cons rfl (fun K hK => ?_) ?_
    · go_simp
      refine hK _ _ ?_
      clear hK K
      refine wpAnyIn_ready (rs := [2]) (by kernel_rfl) (by simp) ?_
      refine AllReadyIn.cons rfl (fun K hK => ?_) ?_
      · go_simp
        refine hK _ _ ?_
        clear hK K
        refine wpAnyIn_take (i := 3) (v := ?_) rfl rfl (by kernel_rfl) (by kernel_rfl) (by kernel_rfl) (fun _ _ _ h => h) ⟨Or.inl ⟨by rfl, ?_⟩, fun _ => rfl⟩ ?_; rotate_left 1; focus (intro w; go_simp; try with_reducible rfl)
        refine wpAnyIn_take (i := 4) (v := ?_) rfl rfl (by kernel_rfl) (by kernel_rfl) (by kernel_rfl) (fun _ _ _ h => h) ⟨Or.inl ⟨by rfl, ?_⟩, fun _ => rfl⟩ ?_; rotate_left 1; focus (intro w; go_simp; try with_reducible rfl)
        refine wpAnyIn_ready (rs := [5]) (by kernel_rfl) (by simp) ?_
        refine AllReadyIn.cons rfl (fun K hK => ?_) ?_
        · go_simp
          refine hK _ _ ?_
          clear hK K
          refine wpAnyIn_take (i := 6) (v := ?_) rfl rfl (by kernel_rfl) (by kernel_rfl) (by kernel_rfl) (fun _ _ _ h => h) ⟨Or.inl ⟨by rfl, ?_⟩, fun _ => rfl⟩ ?_; rotate_left 1; focus (intro w; go_simp; try with_reducible rfl)
          refine wpAnyIn_take (i := 7) (v := ?_) rfl rfl (by kernel_rfl) (by kernel_rfl) (by kernel_rfl) (fun _ _ _ h => h) ⟨Or.inl ⟨by rfl, ?_⟩, fun _ => rfl⟩ ?_; rotate_left 1; focus (intro w; go_simp; try with_reducible rfl)
          refine wpAnyIn_ready (rs := [8]) (by kernel_rfl) (by simp) ?_
          refine AllReadyIn.cons rfl (fun K hK => ?_) ?_
          · go_simp
            refine hK _ _ ?_
            clear hK K
            refine wpAnyIn_ready (rs := [10]) (by kernel_rfl) (by simp) ?_
            refine AllReadyIn.cons rfl (fun K hK => ?_) ?_
            · go_simp
              refine hK _ _ ?_
              clear hK K
              refine wpAnyIn_take (i := 11) (v := ?_) rfl rfl (by kernel_rfl) (by kernel_rfl) (by kernel_rfl) (fun _ _ _ h => h) ⟨Or.inl ⟨by rfl, ?_⟩, fun _ => rfl⟩ ?_; rotate_left 1; focus (intro w; go_simp; try with_reducible rfl)
              refine wpAnyIn_ready (rs := [12]) (by kernel_rfl) (by simp) ?_
              refine AllReadyIn.cons rfl (fun K hK => ?_) ?_
              · go_simp
                refine hK _ _ ?_
                clear hK K
                refine wpAnyIn_ready (rs := [13]) (by kernel_rfl) (by simp) ?_
                refine AllReadyIn.cons rfl (fun K hK => ?_) ?_
                · refine step_appIn (by rfl) (.tmp 41) (.tmp 53) 29 49 (by rfl) C iP (.agg #[.string ⟨#[]⟩, .string ⟨#[]⟩]) 2 32 Try.underlying29 HP.out.1 HP.out.2.1 HP.out.2.2.1 HP.out.2.2.2 (by rfl) (by omega) (by omega) (.slice ax k kx) k (flatP (ll.take k)) (by rfl) o5.out HC5.out ⟨W5.heap.size, 0, none⟩ 1 1 [.string x1, .string y1] (by rfl) (by rfl) N5.out (by intro u hu; simp at hu; rcases hu with rfl | rfl <;> rfl) (by have := hk16.out; omega) ?_
                  intro v7 w7 hown hgrow
                  obtain ⟨a7, k7, rfl⟩ := row_form hown
                  have HPS := Lib.hid (HM.out.1.push (x := (x1, y1)) hown hgrow HM.out.2.2.2.1)
                  obtain ⟨e1, e2, e3', e4'⟩ := HPS.out
                  have HP2 := Lib.hid (And.intro e3' e4')
                  clear hown hgrow e3' e4' HPS
                  refine hK _ _ ?_
                  clear hK K
                  refine wpAnyIn_ready (rs := [14]) (by kernel_rfl) (by simp) ?_
                  refine AllReadyIn.cons rfl (fun K hK => ?_) ?_
                  · go_simp
                    refine hK _ _ ?_
                    clear hK K
                    refine wpAnyIn_done (by kernel_rfl) ?_ _
                    gi_wp2
                    have T9 : KeepT [X] W5 (w7.setCell ⟨X, 0, none⟩ (.slice a7 (k + 1) k7)) := (KeepT.of_turned ((Turned.refl _ _).drew)).trans HP2.out.2
                    refine ⟨KeepsFrom.of_keepT T9 (by intro k hk; simp at hk; have := SZ.out; omega), T9.wide (by intro k hk; simp at hk; subst hk; rw [hS]; simp), k + 1, _, HM.out.2.1, HM.out.2.2.1, HP2.out.1, T9.other HM.out.2.2.2.2 (by simp; have := SZ.out; omega) (by decide)⟩
                  exact AllReadyIn.nil
                exact AllReadyIn.nil
              exact AllReadyIn.nil
            exact AllReadyIn.nil
          exact AllReadyIn.nil
        exact AllReadyIn.nil
      exact AllReadyIn.nil
    refine AllReadyIn.cons rfl (fun K hK => ?_) ?_
    · go_simp
      refine hK _ _ ?_
      clear hK K
      refine wpAnyIn_take (i := 3) (v := ?_) rfl rfl (by kernel_rfl) (by kernel_rfl) (by kernel_rfl) (fun _ _ _ h => h) ⟨Or.inl ⟨by rfl, ?_⟩, fun _ => rfl⟩ ?_; rotate_left 1; focus (intro w; go_simp; try with_reducible rfl)
      refine wpAnyIn_take (i := 4) (v := ?_) rfl rfl (by kernel_rfl) (by kernel_rfl) (by kernel_rfl) (fun _ _ _ h => h) ⟨Or.inl ⟨by rfl, ?_⟩, fun _ => rfl⟩ ?_; rotate_left 1; focus (intro w; go_simp; try with_reducible rfl)
      refine wpAnyIn_ready (rs := [0, 5]) (by kernel_rfl) (by simp) ?_
      refine AllReadyIn.cons rfl (fun K hK => ?_) ?_
      · go_simp
        refine hK _ _ ?_
        clear hK K
        refine wpAnyIn_ready (rs := [5]) (by kernel_rfl) (by simp) ?_
        refine AllReadyIn.cons rfl (fun K hK => ?_) ?_
        · go_simp
          refine hK _ _ ?_
          clear hK K
          refine wpAnyIn_take (i := 6) (v := ?_) rfl rfl (by kernel_rfl) (by kernel_rfl) (by kernel_rfl) (fun _ _ _ h => h) ⟨Or.inl ⟨by rfl, ?_⟩, fun _ => rfl⟩ ?_; rotate_left 1; focus (intro w; go_simp; try with_reducible rfl)
          refine wpAnyIn_take (i := 7) (v := ?_) rfl rfl (by kernel_rfl) (by kernel_rfl) (by kernel_rfl) (fun _ _ _ h => h) ⟨Or.inl ⟨by rfl, ?_⟩, fun _ => rfl⟩ ?_; rotate_left 1; focus (intro w; go_simp; try with_reducible rfl)
          refine wpAnyIn_ready (rs := [8]) (by kernel_rfl) (by simp) ?_
          refine AllReadyIn.cons rfl (fun K hK => ?_) ?_
          · go_simp
            refine hK _ _ ?_
            clear hK K
            refine wpAnyIn_ready (rs := [10]) (by kernel_rfl) (by simp) ?_
            refine AllReadyIn.cons rfl (fun K hK => ?_) ?_
            · go_simp
              refine hK _ _ ?_
              clear hK K
              refine wpAnyIn_take (i := 11) (v := ?_) rfl rfl (by kernel_rfl) (by kernel_rfl) (by kernel_rfl) (fun _ _ _ h => h) ⟨Or.inl ⟨by rfl, ?_⟩, fun _ => rfl⟩ ?_; rotate_left 1; focus (intro w; go_simp; try with_reducible rfl)
              refine wpAnyIn_ready (rs := [12]) (by kernel_rfl) (by simp) ?_
              refine AllReadyIn.cons rfl (fun K hK => ?_) ?_
              · go_simp
                refine hK _ _ ?_
                clear hK K
                refine wpAnyIn_ready (rs := [13]) (by kernel_rfl) (by simp) ?_
                refine AllReadyIn.cons rfl (fun K hK => ?_) ?_
                · refine step_appIn (by rfl) (.tmp 41) (.tmp 53) 29 49 (by rfl) C iP (.agg #[.string ⟨#[]⟩, .string ⟨#[]⟩]) 2 32 Try.underlying29 HP.out.1 HP.out.2.1 HP.out.2.2.1 HP.out.2.2.2 (by rfl) (by omega) (by omega) (.slice ax k kx) k (flatP (ll.take k)) (by rfl) o5.out HC5.out ⟨W5.heap.size, 0, none⟩ 1 1 [.string x1, .string y1] (by rfl) (by rfl) N5.out (by intro u hu; simp at hu; rcases hu with rfl | rfl <;> rfl) (by have := hk16.out; omega) ?_
                  intro v7 w7 hown hgrow
                  obtain ⟨a7, k7, rfl⟩ := row_form hown
                  have HPS := Lib.hid (HM.out.1.push (x := (x1, y1)) hown hgrow HM.out.2.2.2.1)
                  obtain ⟨e1, e2, e3', e4'⟩ := HPS.out
                  have HP2 := Lib.hid (And.intro e3' e4')
                  clear hown hgrow e3' e4' HPS
                  refine hK _ _ ?_
                  clear hK K
                  refine wpAnyIn_ready (rs := [14]) (by kernel_rfl) (by simp) ?_
                  refine AllReadyIn.cons rfl (fun K hK => ?_) ?_
                  · go_simp
                    refine hK _ _ ?_
                    clear hK K
                    refine wpAnyIn_done (by kernel_rfl) ?_ _
                    gi_wp2
                    have T9 : KeepT [X] W5 (w7.setCell ⟨X, 0, none⟩ (.slice a7 (k + 1) k7)) := (KeepT.of_turned ((Turned.refl _ _).drew)).trans HP2.out.2
                    refine ⟨KeepsFrom.of_keepT T9 (by intro k hk; simp at hk; have := SZ.out; omega), T9.wide (by intro k hk; simp at hk; subst hk; rw [hS]; simp), k + 1, _, HM.out.2.1, HM.out.2.2.1, HP2.out.1, T9.other HM.out.2.2.2.2 (by simp; have := SZ.out; omega) (by decide)⟩
                  exact AllReadyIn.nil
                exact AllReadyIn.nil
              exact AllReadyIn.nil
            exact AllReadyIn.nil
          exact AllReadyIn.nil
        exact AllReadyIn.nil
      refine AllReadyIn.cons rfl (fun K hK => ?_) ?_
      · go_simp
        refine hK _ _ ?_
        clear hK K
        refine wpAnyIn_take (i := 6) (v := ?_) rfl rfl (by kernel_rfl) (by kernel_rfl) (by kernel_rfl) (fun _ _ _ h => h) ⟨Or.inl ⟨by rfl, ?_⟩, fun _ => rfl⟩ ?_; rotate_left 1; focus (intro w; go_simp; try with_reducible rfl)
        refine wpAnyIn_take (i := 7) (v := ?_) rfl rfl (by kernel_rfl) (by kernel_rfl) (by kernel_rfl) (fun _ _ _ h => h) ⟨Or.inl ⟨by rfl, ?_⟩, fun _ => rfl⟩ ?_; rotate_left 1; focus (intro w; go_simp; try with_reducible rfl)
        refine wpAnyIn_ready (rs := [0, 8]) (by kernel_rfl) (by simp) ?_
        refine AllReadyIn.cons rfl (fun K hK => ?_) ?_
        · go_simp
          refine hK _ _ ?_
          clear hK K
          refine wpAnyIn_ready (rs := [8]) (by kernel_rfl) (by simp) ?_
          refine AllReadyIn.cons rfl (fun K hK => ?_) ?_
          · go_simp
            refine hK _ _ ?_
            clear hK K
            refine wpAnyIn_ready (rs := [10]) (by kernel_rfl) (by simp) ?_
            refine AllReadyIn.cons rfl (fun K hK => ?_) ?_
            · go_simp
              refine hK _ _ ?_
              clear hK K
              refine wpAnyIn_take (i := 11) (v := ?_) rfl rfl (by kernel_rfl) (by kernel_rfl) (by kernel_rfl) (fun _ _ _ h => h) ⟨Or.inl ⟨by rfl, ?_⟩, fun _ => rfl⟩ ?_; rotate_left 1; focus (intro w; go_simp; try with_reducible rfl)
              refine wpAnyIn_ready (rs := [12]) (by kernel_rfl) (by simp) ?_
              refine AllReadyIn.cons rfl (fun K hK => ?_) ?_
              · go_simp
                refine hK _ _ ?_
                clear hK K
                refine wpAnyIn_ready (rs := [13]) (by kernel_rfl) (by simp) ?_
                refine AllReadyIn.cons rfl (fun K hK => ?_) ?_
                · refine step_appIn (by rfl) (.tmp 41) (.tmp 53) 29 49 (by rfl) C iP (.agg #[.string ⟨#[]⟩, .string ⟨#[]⟩]) 2 32 Try.underlying29 HP.out.1 HP.out.2.1 HP.out.2.2.1 HP.out.2.2.2 (by rfl) (by omega) (by omega) (.slice ax k kx) k (flatP (ll.take k)) (by rfl) o5.out HC5.out ⟨W5.heap.size, 0, none⟩ 1 1 [.string x1, .string y1] (by rfl) (by rfl) N5.out (by intro u hu; simp at hu; rcases hu with rfl | rfl <;> rfl) (by have := hk16.out; omega) ?_
                  intro v7 w7 hown hgrow
                  obtain ⟨a7, k7, rfl⟩ := row_form hown
                  have HPS := Lib.hid (HM.out.1.push (x := (x1, y1)) hown hgrow HM.out.2.2.2.1)
                  obtain ⟨e1, e2, e3', e4'⟩ := HPS.out
                  have HP2 := Lib.hid (And.intro e3' e4')
                  clear hown hgrow e3' e4' HPS
                  refine hK _ _ ?_
                  clear hK K
                  refine wpAnyIn_ready (rs := [14]) (by kernel_rfl) (by simp) ?_
                  refine AllReadyIn.cons rfl (fun K hK => ?_) ?_
                  · go_simp
                    refine hK _ _ ?_
                    clear hK K
                    refine wpAnyIn_done (by kernel_rfl) ?_ _
                    gi_wp2
                    have T9 : KeepT [X] W5 (w7.setCell ⟨X, 0, none⟩ (.slice a7 (k + 1) k7)) := (KeepT.of_turned ((Turned.refl _ _).drew)).trans HP2.out.2
                    refine ⟨KeepsFrom.of_keepT T9 (by intro k hk; simp at hk; have := SZ.out; omega), T9.wide (by intro k hk; simp at hk; subst hk; rw [hS]; simp), k + 1, _, HM.out.2.1, HM.out.2.2.1, HP2.out.1, T9.other HM.out.2.2.2.2 (by simp; have := SZ.out; omega) (by decide)⟩
                  exact AllReadyIn.nil
                exact AllReadyIn.nil
              exact AllReadyIn.nil
            exact AllReadyIn.nil
          exact AllReadyIn.nil
        refine AllReadyIn.cons rfl (fun K hK => ?_) ?_
        · go_simp
          refine hK _ _ ?_
          clear hK K
          refine wpAnyIn_ready (rs := [0, 10]) (by kernel_rfl) (by simp) ?_
          refine AllReadyIn.cons rfl (fun K hK => ?_) ?_
          · go_simp
            refine hK _ _ ?_
            clear hK K
            refine wpAnyIn_ready (rs := [10]) (by kernel_rfl) (by simp) ?_
            refine AllReadyIn.cons rfl (fun K hK => ?_) ?_
            · go_simp
              refine hK _ _ ?_
              clear hK K
              refine wpAnyIn_take (i := 11) (v := ?_) rfl rfl (by kernel_rfl) (by kernel_rfl) (by kernel_rfl) (fun _ _ _ h => h) ⟨Or.inl ⟨by rfl, ?_⟩, fun _ => rfl⟩ ?_; rotate_left 1; focus (intro w; go_simp; try with_reducible rfl)
              refine wpAnyIn_ready (rs := [12]) (by kernel_rfl) (by simp) ?_
              refine AllReadyIn.cons rfl (fun K hK => ?_) ?_
              · go_simp
                refine hK _ _ ?_
                clear hK K
                refine wpAnyIn_ready (rs := [13]) (by kernel_rfl) (by simp) ?_
                refine AllReadyIn.cons rfl (fun K hK => ?_) ?_
                · refine step_appIn (by rfl) (.tmp 41) (.tmp 53) 29 49 (by rfl) C iP (.agg #[.string ⟨#[]⟩, .string ⟨#[]⟩]) 2 32 Try.underlying29 HP.out.1 HP.out.2.1 HP.out.2.2.1 HP.out.2.2.2 (by rfl) (by omega) (by omega) (.slice ax k kx) k (flatP (ll.take k)) (by rfl) o5.out HC5.out ⟨W5.heap.size, 0, none⟩ 1 1 [.string x1, .string y1] (by rfl) (by rfl) N5.out (by intro u hu; simp at hu; rcases hu with rfl | rfl <;> rfl) (by have := hk16.out; omega) ?_
                  intro v7 w7 hown hgrow
                  obtain ⟨a7, k7, rfl⟩ := row_form hown
                  have HPS := Lib.hid (HM.out.1.push (x := (x1, y1)) hown hgrow HM.out.2.2.2.1)
                  obtain ⟨e1, e2, e3', e4'⟩ := HPS.out
                  have HP2 := Lib.hid (And.intro e3' e4')
                  clear hown hgrow e3' e4' HPS
                  refine hK _ _ ?_
                  clear hK K
                  refine wpAnyIn_ready (rs := [14]) (by kernel_rfl) (by simp) ?_
                  refine AllReadyIn.cons rfl (fun K hK => ?_) ?_
                  · go_simp
                    refine hK _ _ ?_
                    clear hK K
                    refine wpAnyIn_done (by kernel_rfl) ?_ _
                    gi_wp2
                    have T9 : KeepT [X] W5 (w7.setCell ⟨X, 0, none⟩ (.slice a7 (k + 1) k7)) := (KeepT.of_turned ((Turned.refl _ _).drew)).trans HP2.out.2
                    refine ⟨KeepsFrom.of_keepT T9 (by intro k hk; simp at hk; have := SZ.out; omega), T9.wide (by intro k hk; simp at hk; subst hk; rw [hS]; simp), k + 1, _, HM.out.2.1, HM.out.2.2.1, HP2.out.1, T9.other HM.out.2.2.2.2 (by simp; have := SZ.out; omega) (by decide)⟩
                  exact AllReadyIn.nil
                exact AllReadyIn.nil
              exact AllReadyIn.nil
            exact AllReadyIn.nil
          refine AllReadyIn.cons rfl (fun K hK => ?_) ?_
          · go_simp
            refine hK _ _ ?_
            clear hK K
            refine wpAnyIn_take (i := 11) (v := ?_) rfl rfl (by kernel_rfl) (by kernel_rfl) (by kernel_rfl) (fun _ _ _ h => h) ⟨Or.inl ⟨by rfl, ?_⟩, fun _ => rfl⟩ ?_; rotate_left 1; focus (intro w; go_simp; try with_reducible rfl)
            refine wpAnyIn_ready (rs := [0, 12]) (by kernel_rfl) (by simp) ?_
            refine AllReadyIn.cons rfl (fun K hK => ?_) ?_
            · go_simp
              refine hK _ _ ?_
              clear hK K
              refine wpAnyIn_ready (rs := [12]) (by kernel_rfl) (by simp) ?_
              refine AllReadyIn.cons rfl (fun K hK => ?_) ?_
              · go_simp
                refine hK _ _ ?_
                clear hK K
                refine wpAnyIn_ready (rs := [13]) (by kernel_rfl) (by simp) ?_
                refine AllReadyIn.cons rfl (fun K hK => ?_) ?_
                · refine step_appIn (by rfl) (.tmp 41) (.tmp 53) 29 49 (by rfl) C iP (.agg #[.string ⟨#[]⟩, .string ⟨#[]⟩]) 2 32 Try.underlying29 HP.out.1 HP.out.2.1 HP.out.2.2.1 HP.out.2.2.2 (by rfl) (by omega) (by omega) (.slice ax k kx) k (flatP (ll.take k)) (by rfl) o5.out HC5.out ⟨W5.heap.size, 0, none⟩ 1 1 [.string x1, .string y1] (by rfl) (by rfl) N5.out (by intro u hu; simp at hu; rcases hu with rfl | rfl <;> rfl) (by have := hk16.out; omega) ?_
                  intro v7 w7 hown hgrow
                  obtain ⟨a7, k7, rfl⟩ := row_form hown
                  have HPS := Lib.hid (HM.out.1.push (x := (x1, y1)) hown hgrow HM.out.2.2.2.1)
                  obtain ⟨e1, e2, e3', e4'⟩ := HPS.out
                  have HP2 := Lib.hid (And.intro e3' e4')
                  clear hown hgrow e3' e4' HPS
                  refine hK _ _ ?_
                  clear hK K
                  refine wpAnyIn_ready (rs := [14]) (by kernel_rfl) (by simp) ?_
                  refine AllReadyIn.cons rfl (fun K hK => ?_) ?_
                  · go_simp
                    refine hK _ _ ?_
                    clear hK K
                    refine wpAnyIn_done (by kernel_rfl) ?_ _
                    gi_wp2
                    have T9 : KeepT [X] W5 (w7.setCell ⟨X, 0, none⟩ (.slice a7 (k + 1) k7)) := (KeepT.of_turned ((Turned.refl _ _).drew)).trans HP2.out.2
                    refine ⟨KeepsFrom.of_keepT T9 (by intro k hk; simp at hk; have := SZ.out; omega), T9.wide (by intro k hk; simp at hk; subst hk; rw [hS]; simp), k + 1, _, HM.out.2.1, HM.out.2.2.1, HP2.out.1, T9.other HM.out.2.2.2.2 (by simp; have := SZ.out; omega) (by decide)⟩
                  exact AllReadyIn.nil
                exact AllReadyIn.nil
              exact AllReadyIn.nil
            refine AllReadyIn.cons rfl (fun K hK => ?_) ?_
            · go_simp
              refine hK _ _ ?_
              clear hK K
              refine wpAnyIn_ready (rs := [0]) (by kernel_rfl) (by simp) ?_
              refine AllReadyIn.cons rfl (fun K hK => ?_) ?_
              · go_simp
                refine hK _ _ ?_
                clear hK K
                refine wpAnyIn_ready (rs := [13]) (by kernel_rfl) (by simp) ?_
                refine AllReadyIn.cons rfl (fun K hK => ?_) ?_
                · refine step_appIn (by rfl) (.tmp 41) (.tmp 53) 29 49 (by rfl) C iP (.agg #[.string ⟨#[]⟩, .string ⟨#[]⟩]) 2 32 Try.underlying29 HP.out.1 HP.out.2.1 HP.out.2.2.1 HP.out.2.2.2 (by rfl) (by omega) (by omega) (.slice ax k kx) k (flatP (ll.take k)) (by rfl) o5.out HC5.out ⟨W5.heap.size, 0, none⟩ 1 1 [.string x1, .string y1] (by rfl) (by rfl) N5.out (by intro u hu; simp at hu; rcases hu with rfl | rfl <;> rfl) (by have := hk16.out; omega) ?_
                  intro v7 w7 hown hgrow
                  obtain ⟨a7, k7, rfl⟩ := row_form hown
                  have HPS := Lib.hid (HM.out.1.push (x := (x1, y1)) hown hgrow HM.out.2.2.2.1)
                  obtain ⟨e1, e2, e3', e4'⟩ := HPS.out
                  have HP2 := Lib.hid (And.intro e3' e4')
                  clear hown hgrow e3' e4' HPS
                  refine hK _ _ ?_
                  clear hK K
                  refine wpAnyIn_ready (rs := [14]) (by kernel_rfl) (by simp) ?_
                  refine AllReadyIn.cons rfl (fun K hK => ?_) ?_
                  · go_simp
                    refine hK _ _ ?_
                    clear hK K
                    refine wpAnyIn_done (by kernel_rfl) ?_ _
                    gi_wp2
                    have T9 : KeepT [X] W5 (w7.setCell ⟨X, 0, none⟩ (.slice a7 (k + 1) k7)) := (KeepT.of_turned ((Turned.refl _ _).drew)).trans HP2.out.2
                    refine ⟨KeepsFrom.of_keepT T9 (by intro k hk; simp at hk; have := SZ.out; omega), T9.wide (by intro k hk; simp at hk; subst hk; rw [hS]; simp), k + 1, _, HM.out.2.1, HM.out.2.2.1, HP2.out.1, T9.other HM.out.2.2.2.2 (by simp; have := SZ.out; omega) (by decide)⟩
                  exact AllReadyIn.nil
                exact AllReadyIn.nil
              exact AllReadyIn.nil
            exact AllReadyIn.nil
          exact AllReadyIn.nil
        exact AllReadyIn.nil
      exact AllReadyIn.nil
    exact AllReadyIn.nil
  case done =>
    rintro D xs W5 hD hxs ⟨k, vx, hk, hpre, hM, hf⟩ hK
    obtain rfl : k = ll.length := by
      have := congrArg List.length (hpre.symm.trans hxs)
      simp only [List.length_take, keys_len] at this
      omega
    have HM5 := Lib.hid hM
    have HK5 := Lib.hid hK
    have d1 := hM.fx.cell 0
    simp only [List.getElem?_toArray, List.getElem?_cons_zero] at d1
    obtain ⟨ax, kx, rfl⟩ := row_form hM.ox
    have hlow := hM.low
    have hox := hM.ox
    rw [List.take_of_length_le (Nat.le_refl _)] at hox
    have hXC := hM.hC
    have HR := Lib.hid (And.intro hlow (row_low hox (show w.heap.size ≤ C by omega)))
    have hDlt : w.heap.size ≤ D := by have := SZ.out; omega
    have HDD := Lib.hid hDlt
    have hne : ∀ b, (Value.slice ax ll.length kx).ownBlock = some b → b ≠ D := fun b hb e => by
      obtain ⟨cs, h1⟩ := row_type hox hb
      rw [e, hK] at h1
      cases h1
    have HNE := Lib.hid hne
    clear hM hK hk hpre hf hlow hox hXC hD hDlt hne szL BL ML s4 z1 z2 z3 zw2 zA hC BY he3 he4 fb fxL bwL fbL hslL hsl
    go_wp2
    refine calm_ret1 (v := .tuple #[.slice ax ll.length kx, .int .i64 0]) rfl HK5.out ?_ ⟨_, rfl, ?_, ?_⟩
    · simp [results, Try.results14, go_sem]
    · exact Turned.below (S := [D]) HR.out.1 (Turned.put (by simp) _) (by simpa using HDD.out) HR.out.1.size
    · exact row_keep HR.out.2 (fun b hb => World.putObj_heap_other (by first | exact HNE.out b hb | exact (HNE.out b hb).symm))
  case stop =>
    rintro D c pre W5 hD hS2 h hK'
    exact h.elim

theorem scan_no {w : World} {p q e m : Nat} {l : List Pr} {K B : Nat} (h : BookAt w p q e m l K B) (x : ByteArray) (limit : Int) (hx : ¬ (x.size ≤ 16 ∧ 0 ≤ limit ∧ limit ≤ 4096)) :
    Calls Try.prog 14 #[.pointer (some ⟨p, 0, none⟩), .string x, .int .i64 limit] w fun e' w' => e' = .returned (.tuple #[.slice none 0 0, .int .i64 2]) ∧ Below w.heap.size w w' := by
  obtain ⟨W1, hW1⟩ : ∃ W1, W1 = w.alloc (.cells #[.pointer (some ⟨p, 0, none⟩)] 27) := ⟨_, rfl⟩
  have B1 : Below w.heap.size w W1 := by rw [hW1]; exact Below.new (Below.refl _ _) _
  have f1 : Fresh W1 w.heap.size #[.pointer (some ⟨p, 0, none⟩)] 27 := by rw [hW1]; exact Fresh.new _ _ _ _ rfl
  have A1 := h.below B1
  have HE := Lib.hid (errno_any A1 x (RowS.nil W1 q) A1.lt.2.1 (by simp))
  rw [errV_nil] at HE
  have c1 := (f1.cell 0).trans rfl
  simp only [List.getElem?_toArray, List.getElem?_cons_zero] at c1
  have HW1 := Lib.hid hW1
  have HB1 := Lib.hid B1
  clear h hW1 B1 A1 f1
  by_cases h16 : x.size ≤ 16
  · rw [if_pos h16] at HE
    have hlim : ¬ (0 ≤ limit ∧ limit ≤ 4096) := fun h => hx ⟨h16, h⟩
    by_cases hneg : limit < 0
    · clear hx h16 hlim
      refine (callsIn_wide (n := 10)).1 ?_
      refine callsIn_of_wp_marks Try.func14 rfl trivial ?_ rfl
      simp only [Try.ntmps14, List.size_toArray, List.length_cons, List.length_nil, Nat.reduceAdd, Nat.reduceSub, Array.replicate_succ, Array.replicate_zero, List.push_toArray, List.append_toArray, List.nil_append, List.cons_append]
      refine wpIn_wide.2 ?_
      refine wp_mono (Q := calmQ _) ?_ calmQ_out
      go_upto_region 1 with fail
      rw [← HW1.out]
      go_wp2_with (go_at_call 38; refine HE.out.mono ?_; rintro e1 w2 ⟨rfl, hb2⟩; have HB2 := Lib.hid (Below.step HB1.out hb2); clear hb2)
      refine calm_ret (v := .tuple #[.slice none 0 0, .int .i64 2]) rfl ?_ ⟨rfl, HB2.out⟩
      simp [results, Try.results14, go_sem]
    · have hbig : 4096 < limit := by omega
      clear hx h16 hlim
      refine (callsIn_wide (n := 10)).1 ?_
      refine callsIn_of_wp_marks Try.func14 rfl trivial ?_ rfl
      simp only [Try.ntmps14, List.size_toArray, List.length_cons, List.length_nil, Nat.reduceAdd, Nat.reduceSub, Array.replicate_succ, Array.replicate_zero, List.push_toArray, List.append_toArray, List.nil_append, List.cons_append]
      refine wpIn_wide.2 ?_
      refine wp_mono (Q := calmQ _) ?_ calmQ_out
      go_upto_region 1 with fail
      rw [← HW1.out]
      go_wp2_with (go_at_call 38; refine HE.out.mono ?_; rintro e1 w2 ⟨rfl, hb2⟩; have HB2 := Lib.hid (Below.step HB1.out hb2); clear hb2)
      refine calm_ret (v := .tuple #[.slice none 0 0, .int .i64 2]) rfl ?_ ⟨rfl, HB2.out⟩
      simp [results, Try.results14, go_sem]
  · rw [if_neg h16] at HE
    clear hx
    refine (callsIn_wide (n := 10)).1 ?_
    refine callsIn_of_wp_marks Try.func14 rfl trivial ?_ rfl
    simp only [Try.ntmps14, List.size_toArray, List.length_cons, List.length_nil, Nat.reduceAdd, Nat.reduceSub, Array.replicate_succ, Array.replicate_zero, List.push_toArray, List.append_toArray, List.nil_append, List.cons_append]
    refine wpIn_wide.2 ?_
    refine wp_mono (Q := calmQ _) ?_ calmQ_out
    go_upto_region 1 with fail
    rw [← HW1.out]
    go_wp2_with (go_at_call 38; refine HE.out.mono ?_; rintro e1 w2 ⟨rfl, hb2⟩; have HB2 := Lib.hid (Below.step HB1.out hb2); clear hb2)
    refine calm_ret (v := .tuple #[.slice none 0 0, .int .i64 2]) rfl ?_ ⟨rfl, HB2.out⟩
    simp [results, Try.results14, go_sem]
theorem scan_any {w : World} {p q e m : Nat} {l : List Pr} {K B : Nat} (h : BookAt w p q e m l K B) (hlen : l.length < 100000) (x : ByteArray) (limit : Int) :
    Calls Try.prog 14 #[.pointer (some ⟨p, 0, none⟩), .string x, .int .i64 limit] w fun e' w' => ∃ v, e' = .returned (.tuple #[v, .int .i64 (scanB x limit l).2]) ∧ Below w.heap.size w w' ∧ w'.ownsRow w.heap.size 49 2 v (scanB x limit l).1.length (flatP (scanB x limit l).1) := by
  by_cases hx : x.size ≤ 16 ∧ 0 ≤ limit ∧ limit ≤ 4096
  · obtain ⟨h1, h2, h3⟩ := hx
    obtain ⟨L, rfl⟩ : ∃ L : Nat, limit = (L : Int) := ⟨limit.toNat, by omega⟩
    unfold scanB
    rw [if_pos h1, if_pos ⟨h2, h3⟩]
    exact scan_ok h hlen x h1 L (by omega)
  · have e1 : scanB x limit l = ([], 2) := by
      unfold scanB
      by_cases h1 : x.size ≤ 16
      · rw [if_pos h1, if_neg (fun h => hx ⟨h1, h⟩)]
      · rw [if_neg h1]
    rw [e1]
    refine (scan_no h x limit hx).mono ?_
    rintro e' w' ⟨rfl, hb⟩
    exact ⟨_, rfl, hb, rfl, .inl ⟨rfl, rfl⟩⟩
end Go.Proofs.Ytcpmnkihhenbgaa
