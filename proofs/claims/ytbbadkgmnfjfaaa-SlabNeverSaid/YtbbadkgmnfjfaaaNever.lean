/- The walk of SlabNever. -/
import Derived.Test.YtbbadkgmnfjfaaaAwake
import Derived.Test.YtbbadkgmnfjfaaaCount
import Derived.Test.YtbbadkgmnfjfaaaPick
import Derived.Test.YtbbadkgmnfjfaaaDeeds
import Derived.Deep.DeepCutAuto
import Derived.Deep.CutBlock
namespace Go.Proofs.Ytbbadkgmnfjfaaa
open Go.RowKit
set_option maxRecDepth 100000
set_option maxHeartbeats 8000000

/-- What holds ahead of round i. -/
def Loop (w : World) (p a g N : Nat) (vt vl vh : Value) (i : Nat) (wr : World) : Prop := ∃ (T : List Rf) (L : List Bool) (H : List Int) (s : Sb) (at' al ah : Option Addr) (ct cl ch : Nat),
  Inv s N i T L H ∧ T.length ≤ i ∧ vt = .slice at' T.length ct ∧ vl = .slice al L.length cl ∧ vh = .slice ah H.length ch ∧ R3 wr w.heap.size at' al ah ct cl ch T L H ∧ Si.At wr p a g s ∧ Below w.heap.size w wr

theorem loop_mk {w W : World} {p a g N i tl : Nat} {T : List Rf} {L : List Bool} {H : List Int} {s : Sb} {at' al ah : Option Addr} {ct cl ch : Nat} (hI : Inv s N i T L H) (hT : T.length ≤ i) (hl : T.length = tl ∧ L.length = tl ∧ H.length = tl)
    (hR : R3 W w.heap.size at' al ah ct cl ch T L H) (hA : Si.At W p a g s) (hB : Below w.heap.size w W) : Loop w p a g N (.slice at' tl ct) (.slice al tl cl) (.slice ah tl ch) i W :=
  ⟨T, L, H, s, at', al, ah, ct, cl, ch, hI, hT, by rw [hl.1], by rw [hl.2.1], by rw [hl.2.2], hR, hA, hB⟩
theorem never_walk (slots : Int) (ao : Option Addr) (len cap : Nat) (w : World) (hs : I64 slots) (hd : IsDeeds w ao len) :
    Calls Try.prog 5 #[.int .i64 slots, .slice ao len cap] w fun e w' => e = .returned (.bool true) ∧ Below w.heap.size w w' := by
  by_cases hc : 1 ≤ slots ∧ slots ≤ 200 ∧ len ≤ 200
  · obtain ⟨N, rfl⟩ : ∃ N : Nat, slots = N := ⟨slots.toNat, by omega⟩
    have q1 : decide ((N : Int) < 1) = false := decide_eq_false (by omega)
    have q2 : decide ((200 : Int) < (N : Int)) = false := decide_eq_false (by omega)
    have q3 : decide ((200 : Int) < (len : Int)) = false := decide_eq_false (by omega)
    have HC := Lib.hid hc
    have HD := Lib.hid hd
    clear hc hs hd
    obtain ⟨iR, jR, jR0, jR1, jR2⟩ := infoR
    have HJR := Lib.hid jR
    obtain ⟨iB, jB, jB0, jB1, jB2⟩ := infoB
    have HJB := Lib.hid jB
    obtain ⟨iI, jI, jI0, jI1, jI2⟩ := infoI
    have HJI := Lib.hid jI
    clear jR jB jI
    go_enter Try.func5, Try.ntmps5
    go_wp2_with fail
    refine (awake_any _).mono ?_
    rintro e w1 ⟨rfl, hb1⟩
    have HB1 := Lib.hid hb1
    clear hb1
    go_wp2_with fail
    refine (Si.new_yes N (by have := HC.out; omega) (by have := HC.out; omega) _).mono ?_
    rintro e w2 ⟨p, a, g, hp, ha, hg, rfl, hb2, h2⟩
    have HB2 := Lib.hid (Below.step HB1.out hb2)
    have z1 := HB1.out.size
    have hp' : w.heap.size ≤ p := by omega
    have ha' : w.heap.size ≤ a := by omega
    have hg' : w.heap.size ≤ g := by omega
    have HS : Hid (∀ k ∈ [a, g], w.heap.size ≤ k) := by show ∀ k ∈ [a, g], _; simp; omega
    have HA2 := Lib.hid h2
    clear hb2 h2 hp ha hg z1
    go_wp2_with fail
    go_loopw [7, 8, 9, 10] (fun vt vl vh iv wr => ∃ i : Nat, i ≤ len ∧ iv = .int .i64 i ∧ Loop w p a g N vt vl vh i wr) (fun _ _ _ iv _ => len - (intOf iv).toNat)
    case atStart => exact ⟨0, by omega, rfl, [], [], [], _, none, none, none, 0, 0, 0, Inv.new _ N, Nat.le_refl _, rfl, rfl, rfl, ⟨⟨rfl, .inl ⟨rfl, rfl⟩⟩, ⟨rfl, .inl ⟨rfl, rfl⟩⟩, ⟨rfl, .inl ⟨rfl, rfl⟩⟩⟩, HA2.out, HB2.out⟩
    case round =>
      obtain ⟨i, hi, rfl, T, L, H, s, at', al, ah, ct, cl, ch, hI, hTi, rfl, rfl, rfl, hR, hA, hB⟩ := hrel
      have i0 : (0 : Int) ≤ (i : Int) := by omega
      by_cases hlt : i < len
      · have i1 : (i : Int) < (len : Int) := by omega
        have i2 : decide (i < len) = true := decide_eq_true hlt
        have i9 : (i : Int) < 1000 := by have := HC.out; omega
        obtain ⟨gd, od, rfl, d, hdok, hdat⟩ := HD.out.at' i hlt
        obtain ⟨hgl, d0, d1, d2, d3, d4⟩ := hdat _ hB
        have HDA := Lib.hid hdat
        have HOK := Lib.hid hdok
        have hTL := hI.lt
        have hTH := hI.lh
        obtain ⟨tl, htl⟩ : ∃ tl, T.length = tl := ⟨_, rfl⟩
        rw [htl] at hTL hTH hTi
        have HI := Lib.hid hI
        have HR := Lib.hid hR
        have HA := Lib.hid hA
        have HB := Lib.hid hB
        have HTL := Lib.hid (And.intro htl (And.intro hTL hTH))
        rw [htl, hTL, hTH]
        have t9 : (tl : Int) < 1000 := by omega
        have t0 : (0 : Int) ≤ (tl : Int) := by omega
        clear hI hR hA hB hdok hdat htl hTL hTH hlt
        go_upto_region 14 with fail
        go_cut [11] (fun nv wx => ∃ nn : Nat, nv = .int .i64 nn ∧ (nn < tl ∨ tl = 0) ∧ wx = wr)
        case first =>
          go_wp2_with fail
          · refine (pick_any d.n 1 (by omega) (by omega) _).mono ?_
            rintro e w3 ⟨rfl, hw3⟩
            obtain rfl := hw3
            go_wp2_with fail
            go_meet
            exact ⟨0, rfl, by omega, rfl⟩
          · refine (pick_any d.n (tl : Int) (by omega) (by omega) _).mono ?_
            rintro e w3 ⟨rfl, hw3⟩
            obtain rfl := hw3
            go_wp2_with fail
            go_meet
            have h1 := Int.emod_nonneg d.n (show (tl : Int) ≠ 0 by omega)
            have h2 := Int.emod_lt_of_pos d.n (show (0 : Int) < (tl : Int) by omega)
            exact ⟨(d.n % (tl : Int)).toNat, by rw [Int.toNat_of_nonneg h1], by omega, rfl⟩
        case rest =>
          obtain ⟨nn, rfl, hnn, hw⟩ := hcut
          obtain rfl := hw
          go_upto_block 2 with fail
          go_cut [7, 8, 9] (fun vt vl vh wx => Loop w p a g N vt vl vh (i + 1) wx)
          case first =>
            go_upto_region 18 with fail
            go_cut [78] (fun cv wx => ∃ b : Bool, cv = .bool b ∧ (b = false → nn < tl) ∧ wx = wc)
            case first =>
              as_aux_lemma =>
                go_wp2_with fail
                refine (pick_any d.c 3 (by omega) (by omega) _).mono ?_
                rintro e w3 ⟨rfl, hw3⟩
                obtain rfl := hw3
                have h3 := Int.emod_nonneg d.c (show (3 : Int) ≠ 0 by omega)
                go_wp2_with fail
                all_goals
                  go_meet
                  refine ⟨_, rfl, ?_, rfl⟩
                  first
                    | (intro h; cases h; done)
                    | (intro h; simp at h; rcases hnn with h1 | h1 <;> first | exact h1 | omega)
            case rest =>
              obtain ⟨b, rfl, hb, hw⟩ := hcut
              obtain rfl := hw
              cases b
              · have hnt : nn < tl := hb rfl
                clear hb hnn
                as_aux_lemma =>
                  obtain ⟨r, hr⟩ : ∃ r, T[nn]? = some r := ⟨T[nn]'(by have := HTL.out; omega), List.getElem?_eq_getElem _⟩
                  obtain ⟨c, hc⟩ : ∃ c, L[nn]? = some c := ⟨L[nn]'(by have := HTL.out; omega), List.getElem?_eq_getElem _⟩
                  obtain ⟨gt, rfl, hcap, e0, e1⟩ := rc_cells HR.out.t nn r hr
                  obtain ⟨gl, rfl, hcap2, f0, f1⟩ := row1_cells HR.out.l nn (.bool c) (by unfold bc; rw [List.getElem?_map, hc]; rfl)
                  obtain ⟨h, hh⟩ : ∃ h, H[nn]? = some h := ⟨H[nn]'(by have := HTL.out; omega), List.getElem?_eq_getElem _⟩
                  obtain ⟨gh, rfl, hcap3, k0, k1⟩ := row1_cells HR.out.h nn (.int .i64 h) (by unfold ic; rw [List.getElem?_map, hh]; rfl)
                  rw [HTL.out.1] at hcap
                  rw [HTL.out.2.1] at hcap2
                  rw [HTL.out.2.2] at hcap3
                  have n0 : (0 : Int) ≤ (nn : Int) := by omega
                  have n1 : (nn : Int) < (tl : Int) := by omega
                  have n2 : decide (nn < tl) = true := decide_eq_true hnt
                  have HHH := Lib.hid (And.intro hr hc)
                  obtain ⟨rs, rg⟩ := r
                  dsimp only at e0 e1
                  have hE : ∀ v : Int, v = (if c = true then (0 : Int) else 5) → ((v == 0) != c) = false := by rintro v rfl; cases c <;> rfl
                  have HRH := Lib.hid hh
                  clear hr hc hh
                  by_cases h2 : d.x.tmod 2 = 0
                  · have q4 : ((d.x.tmod 2 == 0) = true) := by simp [h2]
                    have HFR := free_inv HA.out.drew HI.out (by have := HC.out; omega) (by omega) HHH.out.1 HHH.out.2
                    obtain ⟨v, hv⟩ : ∃ v : Int, (if c = true then (0 : Int) else 5) = v := ⟨_, rfl⟩
                    rw [hv] at HFR
                    have HFR := Lib.hid HFR
                    have HV := Lib.hid hv
                    clear hE hv
                    have hgl' := (HR.out.l.lt gl rfl).1
                    go_upto_region 32 with fail
                    refine wp_region_held_drew (S := fun W' => W'.cell? ⟨gt, nn * 2, none⟩ = some (.int .i64 rs) ∧ W'.cell? ⟨gt, nn * 2 + 1, none⟩ = some (.int .u32 rg) ∧ W'.cell? ⟨gl, nn, none⟩ = some (.bool c)) (by kernel_rfl) ?_ (fun hHeld => ?_)
                    · (try dsimp only)
                      exact ⟨e0, e1, f0⟩
                    refine wpAnyH_take (i := 0) (oi := ?_) (v := ?_) ?_ (by kernel_rfl) (by kernel_rfl) (by kernel_rfl) ?_ (Or.inl ⟨?_, ?_⟩) (by assumption) ?_
                    rotate_left 2
                    · simp only [List.getElem?_toArray, List.getElem?_cons_succ, List.getElem?_cons_zero] <;> rfl
                    · exact fun _ _ _ h => h
                    · rfl
                    · (intro w hSw; (try dsimp only at hSw); go_simp; try (with_reducible rfl))
                    try simp only [Act.put, List.setIfInBounds_toArray, List.set_cons_zero, List.set_cons_succ]
                    refine wpAnyH_take (i := 1) (oi := ?_) (v := ?_) ?_ (by kernel_rfl) (by kernel_rfl) (by kernel_rfl) ?_ (Or.inl ⟨?_, ?_⟩) (by assumption) ?_
                    rotate_left 2
                    · simp only [List.getElem?_toArray, List.getElem?_cons_succ, List.getElem?_cons_zero] <;> rfl
                    · exact fun _ _ _ h => h
                    · rfl
                    · (intro w hSw; (try dsimp only at hSw); go_simp; try (with_reducible rfl))
                    try simp only [Act.put, List.setIfInBounds_toArray, List.set_cons_zero, List.set_cons_succ]
                    refine wpAnyH_take (i := 2) (oi := ?_) (v := ?_) ?_ (by kernel_rfl) (by kernel_rfl) (by kernel_rfl) ?_ (Or.inl ⟨?_, ?_⟩) (by assumption) ?_
                    rotate_left 2
                    · simp only [List.getElem?_toArray, List.getElem?_cons_succ, List.getElem?_cons_zero] <;> rfl
                    · exact fun _ _ _ h => h
                    · rfl
                    · (intro w hSw; (try dsimp only at hSw); go_simp; try (with_reducible rfl))
                    try simp only [Act.put, List.setIfInBounds_toArray, List.set_cons_zero, List.set_cons_succ]
                    refine wpAnyH_take (i := 3) (oi := ?_) (v := ?_) ?_ (by kernel_rfl) (by kernel_rfl) (by kernel_rfl) ?_ (Or.inl ⟨?_, ?_⟩) (by assumption) ?_
                    rotate_left 2
                    · simp only [List.getElem?_toArray, List.getElem?_cons_succ, List.getElem?_cons_zero] <;> rfl
                    · exact fun _ _ _ h => h
                    · rfl
                    · (intro w hSw; (try dsimp only at hSw); go_simp; try (with_reducible rfl))
                    try simp only [Act.put, List.setIfInBounds_toArray, List.set_cons_zero, List.set_cons_succ]
                    refine wpAnyH_take (i := 4) (oi := ?_) (v := ?_) ?_ (by kernel_rfl) (by kernel_rfl) (by kernel_rfl) ?_ (Or.inl ⟨?_, ?_⟩) (by assumption) ?_
                    rotate_left 2
                    · simp only [List.getElem?_toArray, List.getElem?_cons_succ, List.getElem?_cons_zero] <;> rfl
                    · exact fun _ _ _ h => h
                    · rfl
                    · (intro w hSw; (try dsimp only at hSw); go_simp; try (with_reducible rfl))
                    try simp only [Act.put, List.setIfInBounds_toArray, List.set_cons_zero, List.set_cons_succ]
                    refine wpAnyH_take (i := 7) (oi := ?_) (v := ?_) ?_ (by kernel_rfl) (by kernel_rfl) (by kernel_rfl) ?_ (Or.inl ⟨?_, ?_⟩) (by assumption) ?_
                    rotate_left 2
                    · simp only [List.getElem?_toArray, List.getElem?_cons_succ, List.getElem?_cons_zero] <;> rfl
                    · exact fun _ _ _ h => h
                    · rfl
                    · (intro w hSw; (try dsimp only at hSw); go_simp; try (with_reducible rfl))
                    try simp only [Act.put, List.setIfInBounds_toArray, List.set_cons_zero, List.set_cons_succ]
                    refine wpAnyH_take (i := 8) (oi := ?_) (v := ?_) ?_ (by kernel_rfl) (by kernel_rfl) (by kernel_rfl) ?_ (Or.inl ⟨?_, ?_⟩) (by assumption) ?_
                    rotate_left 2
                    · simp only [List.getElem?_toArray, List.getElem?_cons_succ, List.getElem?_cons_zero] <;> rfl
                    · exact fun _ _ _ h => h
                    · rfl
                    · (intro w hSw; (try dsimp only at hSw); go_simp; try (with_reducible rfl))
                    try simp only [Act.put, List.setIfInBounds_toArray, List.set_cons_zero, List.set_cons_succ]
                    refine wpAnyH_take (i := 9) (oi := ?_) (v := ?_) ?_ (by kernel_rfl) (by kernel_rfl) (by kernel_rfl) ?_ (Or.inl ⟨?_, ?_⟩) (by assumption) ?_
                    rotate_left 2
                    · simp only [List.getElem?_toArray, List.getElem?_cons_succ, List.getElem?_cons_zero] <;> rfl
                    · exact fun _ _ _ h => h
                    · rfl
                    · (intro w hSw; (try dsimp only at hSw); go_simp; try (with_reducible rfl))
                    try simp only [Act.put, List.setIfInBounds_toArray, List.set_cons_zero, List.set_cons_succ]
                    refine wpAnyH_take (i := 10) (oi := ?_) (v := ?_) ?_ (by kernel_rfl) (by kernel_rfl) (by kernel_rfl) ?_ (Or.inl ⟨?_, ?_⟩) (by assumption) ?_
                    rotate_left 2
                    · simp only [List.getElem?_toArray, List.getElem?_cons_succ, List.getElem?_cons_zero] <;> rfl
                    · exact fun _ _ _ h => h
                    · rfl
                    · (intro w hSw; (try dsimp only at hSw); go_simp; try (with_reducible rfl))
                    try simp only [Act.put, List.setIfInBounds_toArray, List.set_cons_zero, List.set_cons_succ]
                    refine wpAnyH_ready (rs := [5]) (by kernel_rfl) (by simp) ?_
                    refine AllReadyH.cons (o := _) (by simp only [List.getElem?_toArray, List.getElem?_cons_succ, List.getElem?_cons_zero] <;> rfl) (fun K hK => ?_) ?_
                    · go_simp
                      refine HFR.out.mono ?_
                      rintro e w6 ⟨s', rfl, ht6, ha6, hI6⟩
                      have hR6 := HR.out.drew.turned HA.out.drew ht6
                      have hB6 := Turned.below HB.out.drew ht6 HS.out HB.out.size
                      go_wp2_with fail
                      refine hK.out _ _ ?_ (fun hHeld => ?_)
                      · (try dsimp only)
                        exact ⟨(hR6.tcell HHH.out.1).1, (hR6.tcell HHH.out.1).2, (hR6.lcell HHH.out.2).1⟩
                      clear hK K
                      try simp only [Act.put, List.setIfInBounds_toArray, List.set_cons_zero, List.set_cons_succ]
                      refine wpAnyH_take (i := 6) (oi := ?_) (v := ?_) ?_ (by kernel_rfl) (by kernel_rfl) (by kernel_rfl) ?_ (Or.inl ⟨?_, ?_⟩) (by assumption) ?_
                      rotate_left 2
                      · simp only [List.getElem?_toArray, List.getElem?_cons_succ, List.getElem?_cons_zero] <;> rfl
                      · exact fun _ _ _ h => h
                      · rfl
                      · (intro w hSw; (try dsimp only at hSw); go_simp; try (with_reducible rfl))
                      try simp only [Act.put, List.setIfInBounds_toArray, List.set_cons_zero, List.set_cons_succ]
                      refine wpAnyH_take (i := 11) (oi := ?_) (v := ?_) ?_ (by kernel_rfl) (by kernel_rfl) (by kernel_rfl) ?_ (Or.inl ⟨?_, ?_⟩) (by assumption) ?_
                      rotate_left 2
                      · simp only [List.getElem?_toArray, List.getElem?_cons_succ, List.getElem?_cons_zero] <;> rfl
                      · exact fun _ _ _ h => h
                      · rfl
                      · (intro w hSw; (try dsimp only at hSw); go_simp; try (with_reducible rfl))
                      try simp only [Act.put, List.setIfInBounds_toArray, List.set_cons_zero, List.set_cons_succ]
                      refine wpAnyH_done (by kernel_rfl) ?_ _
                      have f6 := hR6.lcell HHH.out.2
                      obtain ⟨f60, f61⟩ := f6
                      have HX6 := Lib.hid (And.intro hR6 (And.intro ha6 (And.intro hB6 hI6)))
                      clear hR6 ha6 ht6 hI6 e0 e1 f0 f1 k0 k1 hB6 hHeld
                      cases c
                      all_goals
                        have hv9 := HV.out
                        simp at hv9
                        subst hv9
                        go_wp2_with fail
                        go_meet
                        exact loop_mk (HX6.out.2.2.2.more (by omega)) (by have := HTL.out; omega) (by have := HTL.out; rw [List.length_set]; omega) (HX6.out.1.setL nn false) (at_off HX6.out.2.1 HX6.out.1.l (.inr (.inl rfl)) _) (Below.setCell HX6.out.2.2.1 hgl' _)
                    exact AllReadyH.nil
                  · have q4 : ((d.x.tmod 2 == 0) = false) := by simp [h2]
                    have HFR := set_inv HA.out.drew HI.out (by have := HC.out; omega) d.x HHH.out.1 HHH.out.2
                    obtain ⟨v, hv⟩ : ∃ v : Int, (if c = true then (0 : Int) else 5) = v := ⟨_, rfl⟩
                    rw [hv] at HFR
                    have HFR := Lib.hid HFR
                    have HV := Lib.hid hv
                    clear hE hv
                    have hgh' := (HR.out.h.lt gh rfl).1
                    go_upto_region 15 with fail
                    refine wp_region_held_drew (S := fun W' => W'.cell? ⟨gt, nn * 2, none⟩ = some (.int .i64 rs) ∧ W'.cell? ⟨gt, nn * 2 + 1, none⟩ = some (.int .u32 rg) ∧ W'.cell? ⟨gl, nn, none⟩ = some (.bool c) ∧ W'.cell? ⟨gd, od + i * 5 + 2, none⟩ = some (.int .i64 d.x)) (by kernel_rfl) ?_ (fun hHeld => ?_)
                    · (try dsimp only)
                      exact ⟨e0, e1, f0, d2⟩
                    refine wpAnyH_take (i := 0) (oi := ?_) (v := ?_) ?_ (by kernel_rfl) (by kernel_rfl) (by kernel_rfl) ?_ (Or.inl ⟨?_, ?_⟩) (by assumption) ?_
                    rotate_left 2
                    · simp only [List.getElem?_toArray, List.getElem?_cons_succ, List.getElem?_cons_zero] <;> rfl
                    · exact fun _ _ _ h => h
                    · rfl
                    · (intro w hSw; (try dsimp only at hSw); go_simp; try (with_reducible rfl))
                    try simp only [Act.put, List.setIfInBounds_toArray, List.set_cons_zero, List.set_cons_succ]
                    refine wpAnyH_take (i := 1) (oi := ?_) (v := ?_) ?_ (by kernel_rfl) (by kernel_rfl) (by kernel_rfl) ?_ (Or.inl ⟨?_, ?_⟩) (by assumption) ?_
                    rotate_left 2
                    · simp only [List.getElem?_toArray, List.getElem?_cons_succ, List.getElem?_cons_zero] <;> rfl
                    · exact fun _ _ _ h => h
                    · rfl
                    · (intro w hSw; (try dsimp only at hSw); go_simp; try (with_reducible rfl))
                    try simp only [Act.put, List.setIfInBounds_toArray, List.set_cons_zero, List.set_cons_succ]
                    refine wpAnyH_take (i := 2) (oi := ?_) (v := ?_) ?_ (by kernel_rfl) (by kernel_rfl) (by kernel_rfl) ?_ (Or.inl ⟨?_, ?_⟩) (by assumption) ?_
                    rotate_left 2
                    · simp only [List.getElem?_toArray, List.getElem?_cons_succ, List.getElem?_cons_zero] <;> rfl
                    · exact fun _ _ _ h => h
                    · rfl
                    · (intro w hSw; (try dsimp only at hSw); go_simp; try (with_reducible rfl))
                    try simp only [Act.put, List.setIfInBounds_toArray, List.set_cons_zero, List.set_cons_succ]
                    refine wpAnyH_take (i := 3) (oi := ?_) (v := ?_) ?_ (by kernel_rfl) (by kernel_rfl) (by kernel_rfl) ?_ (Or.inl ⟨?_, ?_⟩) (by assumption) ?_
                    rotate_left 2
                    · simp only [List.getElem?_toArray, List.getElem?_cons_succ, List.getElem?_cons_zero] <;> rfl
                    · exact fun _ _ _ h => h
                    · rfl
                    · (intro w hSw; (try dsimp only at hSw); go_simp; try (with_reducible rfl))
                    try simp only [Act.put, List.setIfInBounds_toArray, List.set_cons_zero, List.set_cons_succ]
                    refine wpAnyH_take (i := 4) (oi := ?_) (v := ?_) ?_ (by kernel_rfl) (by kernel_rfl) (by kernel_rfl) ?_ (Or.inl ⟨?_, ?_⟩) (by assumption) ?_
                    rotate_left 2
                    · simp only [List.getElem?_toArray, List.getElem?_cons_succ, List.getElem?_cons_zero] <;> rfl
                    · exact fun _ _ _ h => h
                    · rfl
                    · (intro w hSw; (try dsimp only at hSw); go_simp; try (with_reducible rfl))
                    try simp only [Act.put, List.setIfInBounds_toArray, List.set_cons_zero, List.set_cons_succ]
                    refine wpAnyH_take (i := 5) (oi := ?_) (v := ?_) ?_ (by kernel_rfl) (by kernel_rfl) (by kernel_rfl) ?_ (Or.inl ⟨?_, ?_⟩) (by assumption) ?_
                    rotate_left 2
                    · simp only [List.getElem?_toArray, List.getElem?_cons_succ, List.getElem?_cons_zero] <;> rfl
                    · exact fun _ _ _ h => h
                    · rfl
                    · (intro w hSw; (try dsimp only at hSw); go_simp; try (with_reducible rfl))
                    try simp only [Act.put, List.setIfInBounds_toArray, List.set_cons_zero, List.set_cons_succ]
                    refine wpAnyH_take (i := 6) (oi := ?_) (v := ?_) ?_ (by kernel_rfl) (by kernel_rfl) (by kernel_rfl) ?_ (Or.inl ⟨?_, ?_⟩) (by assumption) ?_
                    rotate_left 2
                    · simp only [List.getElem?_toArray, List.getElem?_cons_succ, List.getElem?_cons_zero] <;> rfl
                    · exact fun _ _ _ h => h
                    · rfl
                    · (intro w hSw; (try dsimp only at hSw); go_simp; try (with_reducible rfl))
                    try simp only [Act.put, List.setIfInBounds_toArray, List.set_cons_zero, List.set_cons_succ]
                    refine wpAnyH_take (i := 7) (oi := ?_) (v := ?_) ?_ (by kernel_rfl) (by kernel_rfl) (by kernel_rfl) ?_ (Or.inl ⟨?_, ?_⟩) (by assumption) ?_
                    rotate_left 2
                    · simp only [List.getElem?_toArray, List.getElem?_cons_succ, List.getElem?_cons_zero] <;> rfl
                    · exact fun _ _ _ h => h
                    · rfl
                    · (intro w hSw; (try dsimp only at hSw); go_simp; try (with_reducible rfl))
                    try simp only [Act.put, List.setIfInBounds_toArray, List.set_cons_zero, List.set_cons_succ]
                    refine wpAnyH_take (i := 8) (oi := ?_) (v := ?_) ?_ (by kernel_rfl) (by kernel_rfl) (by kernel_rfl) ?_ (Or.inl ⟨?_, ?_⟩) (by assumption) ?_
                    rotate_left 2
                    · simp only [List.getElem?_toArray, List.getElem?_cons_succ, List.getElem?_cons_zero] <;> rfl
                    · exact fun _ _ _ h => h
                    · rfl
                    · (intro w hSw; (try dsimp only at hSw); go_simp; try (with_reducible rfl))
                    try simp only [Act.put, List.setIfInBounds_toArray, List.set_cons_zero, List.set_cons_succ]
                    refine wpAnyH_take (i := 9) (oi := ?_) (v := ?_) ?_ (by kernel_rfl) (by kernel_rfl) (by kernel_rfl) ?_ (Or.inl ⟨?_, ?_⟩) (by assumption) ?_
                    rotate_left 2
                    · simp only [List.getElem?_toArray, List.getElem?_cons_succ, List.getElem?_cons_zero] <;> rfl
                    · exact fun _ _ _ h => h
                    · rfl
                    · (intro w hSw; (try dsimp only at hSw); go_simp; try (with_reducible rfl))
                    try simp only [Act.put, List.setIfInBounds_toArray, List.set_cons_zero, List.set_cons_succ]
                    refine wpAnyH_take (i := 12) (oi := ?_) (v := ?_) ?_ (by kernel_rfl) (by kernel_rfl) (by kernel_rfl) ?_ (Or.inl ⟨?_, ?_⟩) (by assumption) ?_
                    rotate_left 2
                    · simp only [List.getElem?_toArray, List.getElem?_cons_succ, List.getElem?_cons_zero] <;> rfl
                    · exact fun _ _ _ h => h
                    · rfl
                    · (intro w hSw; (try dsimp only at hSw); go_simp; try (with_reducible rfl))
                    try simp only [Act.put, List.setIfInBounds_toArray, List.set_cons_zero, List.set_cons_succ]
                    refine wpAnyH_take (i := 13) (oi := ?_) (v := ?_) ?_ (by kernel_rfl) (by kernel_rfl) (by kernel_rfl) ?_ (Or.inl ⟨?_, ?_⟩) (by assumption) ?_
                    rotate_left 2
                    · simp only [List.getElem?_toArray, List.getElem?_cons_succ, List.getElem?_cons_zero] <;> rfl
                    · exact fun _ _ _ h => h
                    · rfl
                    · (intro w hSw; (try dsimp only at hSw); go_simp; try (with_reducible rfl))
                    try simp only [Act.put, List.setIfInBounds_toArray, List.set_cons_zero, List.set_cons_succ]
                    refine wpAnyH_take (i := 14) (oi := ?_) (v := ?_) ?_ (by kernel_rfl) (by kernel_rfl) (by kernel_rfl) ?_ (Or.inl ⟨?_, ?_⟩) (by assumption) ?_
                    rotate_left 2
                    · simp only [List.getElem?_toArray, List.getElem?_cons_succ, List.getElem?_cons_zero] <;> rfl
                    · exact fun _ _ _ h => h
                    · rfl
                    · (intro w hSw; (try dsimp only at hSw); go_simp; try (with_reducible rfl))
                    try simp only [Act.put, List.setIfInBounds_toArray, List.set_cons_zero, List.set_cons_succ]
                    refine wpAnyH_take (i := 15) (oi := ?_) (v := ?_) ?_ (by kernel_rfl) (by kernel_rfl) (by kernel_rfl) ?_ (Or.inl ⟨?_, ?_⟩) (by assumption) ?_
                    rotate_left 2
                    · simp only [List.getElem?_toArray, List.getElem?_cons_succ, List.getElem?_cons_zero] <;> rfl
                    · exact fun _ _ _ h => h
                    · rfl
                    · (intro w hSw; (try dsimp only at hSw); go_simp; try (with_reducible rfl))
                    try simp only [Act.put, List.setIfInBounds_toArray, List.set_cons_zero, List.set_cons_succ]
                    refine wpAnyH_ready (rs := [10]) (by kernel_rfl) (by simp) ?_
                    refine AllReadyH.cons (o := _) (by simp only [List.getElem?_toArray, List.getElem?_cons_succ, List.getElem?_cons_zero] <;> rfl) (fun K hK => ?_) ?_
                    · go_simp
                      refine HFR.out.mono ?_
                      rintro e w6 ⟨s', rfl, ht6, ha6, hI6⟩
                      have hR6 := HR.out.drew.turned HA.out.drew ht6
                      have hB6 := Turned.below HB.out.drew ht6 HS.out HB.out.size
                      go_wp2_with fail
                      refine hK.out _ _ ?_ (fun hHeld => ?_)
                      · (try dsimp only)
                        exact ⟨(hR6.tcell HHH.out.1).1, (hR6.tcell HHH.out.1).2, (hR6.lcell HHH.out.2).1, (HDA.out _ hB6).2.2.2.1⟩
                      clear hK K
                      try simp only [Act.put, List.setIfInBounds_toArray, List.set_cons_zero, List.set_cons_succ]
                      refine wpAnyH_take (i := 11) (oi := ?_) (v := ?_) ?_ (by kernel_rfl) (by kernel_rfl) (by kernel_rfl) ?_ (Or.inl ⟨?_, ?_⟩) (by assumption) ?_
                      rotate_left 2
                      · simp only [List.getElem?_toArray, List.getElem?_cons_succ, List.getElem?_cons_zero] <;> rfl
                      · exact fun _ _ _ h => h
                      · rfl
                      · (intro w hSw; (try dsimp only at hSw); go_simp; try (with_reducible rfl))
                      try simp only [Act.put, List.setIfInBounds_toArray, List.set_cons_zero, List.set_cons_succ]
                      refine wpAnyH_take (i := 16) (oi := ?_) (v := ?_) ?_ (by kernel_rfl) (by kernel_rfl) (by kernel_rfl) ?_ (Or.inl ⟨?_, ?_⟩) (by assumption) ?_
                      rotate_left 2
                      · simp only [List.getElem?_toArray, List.getElem?_cons_succ, List.getElem?_cons_zero] <;> rfl
                      · exact fun _ _ _ h => h
                      · rfl
                      · (intro w hSw; (try dsimp only at hSw); go_simp; try (with_reducible rfl))
                      try simp only [Act.put, List.setIfInBounds_toArray, List.set_cons_zero, List.set_cons_succ]
                      refine wpAnyH_done (by kernel_rfl) ?_ _
                      have k6 := hR6.hcell HRH.out
                      obtain ⟨k60, k61⟩ := k6
                      have d2' := (HDA.out _ hB6).2.2.2.1
                      have HX6 := Lib.hid (And.intro hR6 (And.intro ha6 (And.intro hB6 hI6)))
                      clear hR6 ha6 ht6 hI6 e0 e1 f0 f1 k0 k1 hB6 hHeld
                      cases c
                      all_goals
                        have hv9 := HV.out
                        simp at hv9
                        subst hv9
                        go_wp2_with fail
                        go_meet
                        exact loop_mk (HX6.out.2.2.2.more (by omega)) (by have := HTL.out; omega) (by have := HTL.out; rw [List.length_set]; omega) (HX6.out.1.setH nn d.x) (at_off HX6.out.2.1 HX6.out.1.h (.inr (.inr rfl)) _) (Below.setCell HX6.out.2.2.1 hgh' _)
                    exact AllReadyH.nil
              · clear hb hnn
                go_wp2_with fail
                refine (take_inv HA.out HI.out (by have := HC.out; omega) (by omega) d.x).mono ?_
                rintro e w4 (⟨rfl, ht4, ha4, hfull⟩ | ⟨ii, u, s', rfl, ht4, ha4, hI4, hless, hnew⟩)
                · skip
                  as_aux_lemma =>
                    have HR5 := (HR.out.turned HA.out ht4).below (Below.new (Below.refl w4.heap.size w4) (.cells #[.int .i64 0, .int .u32 0] 36))
                    have hcn := count_any L HR5.l (by have := HTL.out; omega)
                    rw [hfull, HTL.out.2.1] at hcn
                    have HCN := Lib.hid hcn
                    have z4 := HB.out.size
                    have HX := Lib.hid (And.intro HR5 (And.intro (ha4.below (Below.new (Below.refl w4.heap.size w4) (.cells #[.int .i64 0, .int .u32 0] 36))) (Below.new (Turned.below HB.out ht4 HS.out z4) (.cells #[.int .i64 0, .int .u32 0] 36))))
                    clear HR5 hcn ht4 ha4 hfull d0 d1 d2 d3 d4
                    go_wp2_with fail
                    refine HCN.out.mono ?_
                    rintro e w5 ⟨rfl, hw5⟩
                    obtain rfl := hw5
                    go_wp2_with fail
                    go_roundw
                    case rel => exact ⟨i + 1, by omega, by go_num, loop_mk (HI.out.more (by omega)) (by have := HTL.out; omega) HTL.out HX.out.1 HX.out.2.1 HX.out.2.2⟩
                    case measure => simp [intOf]; omega
                · skip
                  as_aux_lemma =>
                    go_upto_region 20 with fail
                    obtain ⟨W5, hW5⟩ : ∃ W5, W5 = w4.alloc (.cells #[.int .i64 ii, .int .u32 u] 36) := ⟨_, rfl⟩
                    rw [← hW5]
                    have z4 := HB.out.size
                    have R5 : R3 W5 w.heap.size at' al ah ct cl ch T L H := by rw [hW5]; exact (HR.out.turned HA.out ht4).below (Below.new (Below.refl w4.heap.size w4) _)
                    have A5 : Si.At W5 p a g s' := by rw [hW5]; exact ha4.below (Below.new (Below.refl w4.heap.size w4) _)
                    have B5 : Below w.heap.size w W5 := by rw [hW5]; exact Below.new (Turned.below HB.out ht4 HS.out z4) _
                    have F5 : Fresh W5 w4.heap.size #[.int .i64 ii, .int .u32 u] 36 := by rw [hW5]; exact Fresh.new _ _ _ _ rfl
                    obtain ⟨bx, hbx⟩ : ∃ bx, bx = w4.heap.size := ⟨_, rfl⟩
                    rw [← hbx] at F5 ⊢
                    have hcn := count_any L R5.l (by have := HTL.out; omega)
                    obtain ⟨m, hm⟩ : ∃ m : Nat, L.countP id = m := ⟨_, rfl⟩
                    rw [hm, HTL.out.2.1] at hcn
                    rw [hm] at hless
                    have hless' : (m : Int) < (N : Int) := by omega
                    have HCN := Lib.hid hcn
                    have HNEW := Lib.hid hnew
                    have HI4 := Lib.hid hI4
                    have HX5 := Lib.hid (And.intro R5 (And.intro A5 (And.intro B5 F5)))
                    clear hW5 hbx hcn hm hnew hI4 R5 A5 B5 F5 ht4 ha4 hless d0 d1 d2 d3 d4 z4
                    go_wp2_with fail
                    refine HCN.out.mono ?_
                    rintro e w5 ⟨rfl, hw5⟩
                    obtain rfl := hw5
                    go_wp2_with fail
                    go_loopw [14] (fun jv wx => ∃ j : Nat, j ≤ tl ∧ jv = .int .i64 j ∧ Below w5.heap.size w5 wx) (fun jv _ => tl - (intOf jv).toNat)
                    case atStart => exact ⟨0, by omega, rfl, Below.refl _ _⟩
                    case round =>
                      obtain ⟨j, hj, rfl, hbj⟩ := hrel
                      have j0 : (0 : Int) ≤ (j : Int) := by omega
                      by_cases hjt : j < tl
                      · have j1 : (j : Int) < (tl : Int) := by omega
                        have j2 : decide (j < tl) = true := decide_eq_true hjt
                        obtain ⟨r, hr⟩ : ∃ r, T[j]? = some r := ⟨T[j]'(by have := HTL.out; omega), List.getElem?_eq_getElem _⟩
                        obtain ⟨gt, rfl, hcap, e0, e1⟩ := rc_cells (HX5.out.1.below hbj).t j r hr
                        rw [HTL.out.1] at hcap
                        have hne := HNEW.out j r hr
                        have F := HX5.out.2.2.2.below hbj
                        have f0 := F.cell 0
                        have f1 := F.cell 1
                        simp only [List.getElem?_toArray, List.getElem?_cons_zero, List.getElem?_cons_succ] at f0 f1
                        have HBJ := Lib.hid hbj
                        clear hr hbj F
                        obtain ⟨rs, rg⟩ := r
                        dsimp only at e0 e1 hne
                        by_cases hxi : rs = (ii : Int)
                        · have hgu : ¬ rg = u := fun h => hne ⟨hxi, h⟩
                          subst hxi
                          clear hne
                          go_upto_region 26 with fail
                          go_region
                          all_goals
                            clear e0 e1 f0 f1
                            go_wp2_with fail
                            go_roundw
                            case rel => exact ⟨j + 1, by omega, by go_num, HBJ.out.drew⟩
                            case measure => simp [intOf]; omega
                        · clear hne
                          go_upto_region 26 with fail
                          go_region
                          all_goals
                            clear e0 e1 f0 f1
                            go_wp2_with fail
                            go_roundw
                            case rel => exact ⟨j + 1, by omega, by go_num, HBJ.out.drew⟩
                            case measure => simp [intOf]; omega
                      · obtain rfl : j = tl := by omega
                        have F := HX5.out.2.2.2.below hbj
                        have f0 := F.cell 0
                        have f1 := F.cell 1
                        simp only [List.getElem?_toArray, List.getElem?_cons_zero, List.getElem?_cons_succ] at f0 f1
                        have R5 := HX5.out.1.below hbj
                        have A5 := HX5.out.2.1.below hbj
                        have B5 : Below w.heap.size w wr := Below.step HX5.out.2.2.1 hbj
                        have z5 := B5.size
                        -- told
                        have E6 := Below.new (Below.refl wr.heap.size wr) (.cells #[.int .i64 ii, .int .u32 u] 36)
                        have R6 := R5.below E6
                        have o6 := Lib.hid R6.t
                        have N6 : Hid (∀ (q : Nat) v, [Value.int .i64 ii, Value.int .u32 u][q]? = some v → (wr.alloc (.cells #[.int .i64 ii, .int .u32 u] 36)).cell? ((⟨wr.heap.size, 0, none⟩ : Addr).add q) = some v) := by
                          intro q v hq
                          have D := Fresh.new wr wr.heap.size #[.int .i64 ii, .int .u32 u] 36 rfl
                          rw [Addr.add_lit, Nat.zero_add, D.cell q]
                          simpa using hq
                        have S6 : Hid (w.heap.size ≤ (wr.alloc (.cells #[.int .i64 ii, .int .u32 u] 36)).heap.size) := by show _ ≤ _; simp; omega
                        have o6' : Hid ((wr.alloc (.cells #[.int .i64 ii, .int .u32 u] 36)).ownsRow w.heap.size 36 2 (.slice at' j ct) j (rc T)) := by have := o6.out; rw [HTL.out.1] at this; exact this
                        have HY6 := Lib.hid (And.intro R6 (And.intro (A5.below E6) (Below.step B5 E6)))
                        clear R5 A5 B5 E6 R6 hbj
                        go_wp2_with (at_builtin; refine wpList_append_own _ rfl (.tmp 130) (.tmp 132) 31 rfl w.heap.size 36 iR (.agg #[.int .i64 0, .int .u32 0]) 2 16 Try.underlying31 HJR.out jR0 jR1 jR2 rfl (by omega) (.slice at' j ct) j (rc T) rfl o6'.out ⟨wr.heap.size, 0, none⟩ 1 1 [.int .i64 ii, .int .u32 u] rfl rfl N6.out (by intro v hv; simp at hv; rcases hv with rfl | rfl <;> rfl) (by unfold maxLen; omega) (by omega) S6.out ?_)
                        intro v7 w7 hown hgrow hnn
                        obtain ⟨a7, k7, rfl⟩ := row_form hown
                        have R7 := HY6.out.1.growT (r := ⟨ii, u⟩) HTL.out.1 hgrow hown
                        have A7 := at_grown HY6.out.2.1 o6'.out (.inl rfl) hgrow
                        have B7 : Below w.heap.size w w7 := HY6.out.2.2.grown hgrow S6.out (fun b hb => (o6'.out.lt b hb).1)
                        clear hown hgrow hnn f0 f1
                        have z7 := B7.size
                        -- lives
                        have E8 := Below.new (Below.refl w7.heap.size w7) (.cells #[.bool true] 4)
                        have R8 := R7.below E8
                        have o8 : Hid ((w7.alloc (.cells #[.bool true] 4)).ownsRow w.heap.size 4 1 (.slice al j cl) j (bc L)) := by have := R8.l; rw [HTL.out.2.1] at this; exact this
                        have S8 : Hid (w.heap.size ≤ (w7.alloc (.cells #[.bool true] 4)).heap.size) := by show _ ≤ _; simp; omega
                        have N8 := Lib.hid (news_one w7 (.bool true) 4)
                        have HY8 := Lib.hid (And.intro R8 (And.intro (A7.below E8) (Below.step B7 E8)))
                        clear R7 A7 B7 E8 R8
                        go_wp2_with (at_builtin; refine wpList_append_own _ rfl (.tmp 134) (.tmp 135) 49 rfl w.heap.size 4 iB (.bool false) 1 1 Try.underlying49 HJB.out jB0 jB1 jB2 rfl (by omega) (.slice al j cl) j (bc L) rfl o8.out ⟨w7.heap.size, 0, none⟩ 1 1 [.bool true] rfl rfl N8.out (by intro v hv; simp at hv; subst hv; rfl) (by unfold maxLen; omega) (by omega) S8.out ?_)
                        intro v9 w9 hown hgrow hnn
                        obtain ⟨a9, k9, rfl⟩ := row_form hown
                        have R9 := HY8.out.1.growL (r := true) HTL.out.2.1 hgrow hown
                        have A9 := at_grown HY8.out.2.1 o8.out (.inr (.inl rfl)) hgrow
                        have B9 : Below w.heap.size w w9 := HY8.out.2.2.grown hgrow S8.out (fun b hb => (o8.out.lt b hb).1)
                        clear hown hgrow hnn
                        have z9 := B9.size
                        -- has
                        have E10 := Below.new (Below.refl w9.heap.size w9) (.cells #[.int .i64 d.x] 3)
                        have R10 := R9.below E10
                        have o10 : Hid ((w9.alloc (.cells #[.int .i64 d.x] 3)).ownsRow w.heap.size 3 1 (.slice ah j ch) j (ic H)) := by have := R10.h; rw [HTL.out.2.2] at this; exact this
                        have S10 : Hid (w.heap.size ≤ (w9.alloc (.cells #[.int .i64 d.x] 3)).heap.size) := by show _ ≤ _; simp; omega
                        have N10 := Lib.hid (news_one w9 (.int .i64 d.x) 3)
                        have HY10 := Lib.hid (And.intro R10 (And.intro (A9.below E10) (Below.step B9 E10)))
                        have d2 := (HDA.out _ B9).2.2.2.1
                        clear R9 A9 B9 E10 R10
                        go_wp2_with (at_builtin; refine wpList_append_own _ rfl (.tmp 137) (.tmp 143) 41 rfl w.heap.size 3 iI (.int .i64 0) 1 8 Try.underlying41 HJI.out jI0 jI1 jI2 rfl (by omega) (.slice ah j ch) j (ic H) rfl o10.out ⟨w9.heap.size, 0, none⟩ 1 1 [.int .i64 d.x] rfl rfl N10.out (by intro v hv; simp at hv; subst hv; rfl) (by unfold maxLen; omega) (by omega) S10.out ?_)
                        intro v11 w11 hown hgrow hnn
                        obtain ⟨a11, k11, rfl⟩ := row_form hown
                        have R11 := HY10.out.1.growH (r := d.x) HTL.out.2.2 hgrow hown
                        have A11 := at_grown HY10.out.2.1 o10.out (.inr (.inr rfl)) hgrow
                        have B11 : Below w.heap.size w w11 := HY10.out.2.2.grown hgrow S10.out (fun b hb => (o10.out.lt b hb).1)
                        have HZ := Lib.hid (And.intro R11 (And.intro A11 B11))
                        clear hown hgrow hnn d2 R11 A11 B11
                        go_wp2_with fail
                        go_meet
                        exact loop_mk HI4.out (by have := HTL.out; simp; omega) (by have := HTL.out; simp; omega) HZ.out.1 HZ.out.2.1 HZ.out.2.2
          case rest =>
            as_aux_lemma =>
              obtain ⟨T', L', H', s', bt, bl, bh, et, el, eh, hI', hTi', rfl, rfl, rfl, hR', hA', hB'⟩ := hcut
              obtain ⟨t2, ht2⟩ : ∃ t2, T'.length = t2 := ⟨_, rfl⟩
              have hl2 := hI'.lt
              have hh2 := hI'.lh
              rw [ht2] at hl2 hh2 hTi'
              rw [ht2, hl2, hh2]
              have HT2 := Lib.hid (And.intro ht2 (And.intro hl2 hh2))
              have HI2 := Lib.hid hI'
              have HR2 := Lib.hid hR'
              have HA2 := Lib.hid hA'
              have HB2 := Lib.hid hB'
              have t29 : (t2 : Int) < 1000 := by have := HC.out; omega
              clear hI' hR' hA' hB' ht2 hl2 hh2 HI HR HA HB HTL hgl d0 d1 d2 d3 d4 hnn
              go_wp2_with fail
              go_loopw [15] (fun kv wx => ∃ k : Nat, k ≤ t2 ∧ kv = .int .i64 k ∧ Below wc.heap.size wc wx) (fun kv _ => t2 - (intOf kv).toNat)
              case atStart => exact ⟨0, by omega, rfl, Below.refl _ _⟩
              case round =>
                obtain ⟨k, hk, rfl, hbk⟩ := hrel
                have k0 : (0 : Int) ≤ (k : Int) := by omega
                by_cases hkt : k < t2
                · have k1 : (k : Int) < (t2 : Int) := by omega
                  have k2 : decide (k < t2) = true := decide_eq_true hkt
                  obtain ⟨r, hr⟩ : ∃ r, T'[k]? = some r := ⟨T'[k]'(by have := HT2.out; omega), List.getElem?_eq_getElem _⟩
                  obtain ⟨c, hc⟩ : ∃ c, L'[k]? = some c := ⟨L'[k]'(by have := HT2.out; omega), List.getElem?_eq_getElem _⟩
                  obtain ⟨h, hh⟩ : ∃ h, H'[k]? = some h := ⟨H'[k]'(by have := HT2.out; omega), List.getElem?_eq_getElem _⟩
                  have hRk := HR2.out.below hbk
                  obtain ⟨gt, rfl, hcap, e0, e1⟩ := rc_cells hRk.t k r hr
                  obtain ⟨gl, rfl, hcap2, f0, f1⟩ := row1_cells hRk.l k (.bool c) (by unfold bc; rw [List.getElem?_map, hc]; rfl)
                  obtain ⟨gh, rfl, hcap3, g0, g1⟩ := row1_cells hRk.h k (.int .i64 h) (by unfold ic; rw [List.getElem?_map, hh]; rfl)
                  rw [HT2.out.1] at hcap
                  rw [HT2.out.2.1] at hcap2
                  rw [HT2.out.2.2] at hcap3
                  have HGET := Lib.hid (get_inv (HA2.out.below hbk) HI2.out (by have := HC.out; omega) hr hc hh)
                  have HBK := Lib.hid hbk
                  have HRk := Lib.hid hRk
                  have HCH := Lib.hid (And.intro hc hh)
                  obtain ⟨rs, rg⟩ := r
                  dsimp only at e0 e1
                  clear hr hc hh hRk hbk f0 f1 g0 g1
                  go_wp2_with fail
                  refine HGET.out.mono ?_
                  rintro e w6 ⟨rfl, hb6⟩
                  have hR6 := HRk.out.below hb6
                  have f0 := (hR6.lcell HCH.out.1).1
                  have g0 := (hR6.hcell HCH.out.2).1
                  have HB6 := Lib.hid (Below.step HBK.out hb6)
                  clear hR6 hb6 e0 e1
                  cases c
                  · go_wp2_with fail
                    go_roundw
                    case rel => exact ⟨k + 1, by omega, by go_num, HB6.out⟩
                    case measure => simp [intOf]; omega
                  · go_wp2_with fail
                    go_roundw
                    case rel => exact ⟨k + 1, by omega, by go_num, HB6.out⟩
                    case measure => simp [intOf]; omega
                · obtain rfl : k = t2 := by omega
                  have hRk := HR2.out.below hbk
                  have hAk := HA2.out.below hbk
                  have hBk : Below w.heap.size w wr := Below.step HB2.out hbk
                  have hcn := count_any L' hRk.l (by have := HT2.out; omega)
                  obtain ⟨m, hm⟩ : ∃ m : Nat, L'.countP id = m := ⟨_, rfl⟩
                  rw [hm, HT2.out.2.1] at hcn
                  have HCN := Lib.hid hcn
                  have hsl : s'.len = (m : Int) := by rw [HI2.out.wf.n, ← HI2.out.cnt, hm]
                  have hsf : s'.left = (N : Int) - (m : Int) := by rw [HI2.out.wf.f, ← HI2.out.cnt, hm]
                  have hmN : m ≤ N := by have := cnt_le s'.l; have h1 := HI2.out.wf.len; have h2 := HI2.out.cnt; omega
                  have HLN := Si.len_any hAk
                  have HLF := Si.left_any hAk
                  rw [hsl] at HLN
                  rw [hsf] at HLF
                  have HLN := Lib.hid HLN
                  have HLF := Lib.hid HLF
                  have m9 : (m : Int) ≤ (N : Int) := by omega
                  have hsum : (m : Int) + ((N : Int) - (m : Int)) = (N : Int) := by omega
                  have hN9 : (N : Int) ≤ 200 := by have := HC.out; omega
                  have HZ := Lib.hid (And.intro hRk (And.intro hAk hBk))
                  clear hcn hsl hsf hm hRk hAk hBk hbk
                  go_wp2_with fail
                  refine HLN.out.mono ?_
                  rintro e w6 ⟨rfl, hw6⟩
                  obtain rfl := hw6
                  go_wp2_with fail
                  refine HCN.out.mono ?_
                  rintro e w7 ⟨rfl, hw7⟩
                  obtain rfl := hw7
                  go_wp2_with fail
                  refine HLN.out.mono ?_
                  rintro e w8 ⟨rfl, hw8⟩
                  obtain rfl := hw8
                  go_wp2_with fail
                  refine HLF.out.mono ?_
                  rintro e w9 ⟨rfl, hw9⟩
                  obtain rfl := hw9
                  go_wp2_with fail
                  go_roundw
                  case rel => exact ⟨i + 1, by omega, by go_num, loop_mk HI2.out (by have := HT2.out; omega) HT2.out HZ.out.1 HZ.out.2.1 HZ.out.2.2⟩
                  case measure => simp [intOf]; omega
      · obtain rfl : i = len := by omega
        have i1 : ¬ (i : Int) < (i : Int) := by omega
        clear hlt
        as_aux_lemma =>
          clear hI hR hA
          go_wp2_with fail
          go_ret
          exact ⟨rfl, hB⟩
  · skip
    as_aux_lemma =>
      have hq : decide (slots < 1) = true ∨ (decide (slots < 1) = false ∧ decide (200 < slots) = true) ∨ (decide (slots < 1) = false ∧ decide (200 < slots) = false ∧ decide ((200 : Int) < (len : Int)) = true) := by
        simp only [decide_eq_true_eq, decide_eq_false_iff_not]; omega
      clear hc
      rcases hq with q1 | ⟨q1, q2⟩ | ⟨q1, q2, q3⟩
      all_goals
        go_enter Try.func5, Try.ntmps5
        go_wp2_with fail
        refine (awake_any _).mono ?_
        rintro e w1 ⟨rfl, hb1⟩
        go_wp2_with fail
        go_ret
        exact ⟨rfl, hb1⟩
end Go.Proofs.Ytbbadkgmnfjfaaa
