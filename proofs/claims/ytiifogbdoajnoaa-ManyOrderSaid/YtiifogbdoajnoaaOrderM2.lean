/- The walk of the law ManyOrder. -/
import Derived.Test.YtiifogbdoajnoaaRowMP
namespace Go.Proofs.Ytiifogbdoajnoaa
open Go.RowKit Go.Shelf
attribute [local go_sem] Oper.semAt_some
set_option maxRecDepth 100000
set_option pp.deepTerms true
set_option pp.maxSteps 1000000
set_option maxHeartbeats 8000000

theorem calm_ret2 {F : Fence} {n : Nat} {P : Program} {fn : Func} {R : Ending → World → Prop} {a : Act} {w : World} {v : Value} {D E : Nat} (hd : a.defers = [{ target := .collected D, args := #[] }, { target := .collected E, args := #[] }]) (hD : w.heap[D]? = some (.deferred (some []))) (hE : w.heap[E]? = some (.deferred (some []))) (hne : E ≠ D)
    (hr : (results fn a.tmps).run P ((w.putObj D (.deferred none)).putObj E (.deferred none)) = .ok v ((w.putObj D (.deferred none)).putObj E (.deferred none))) (h : R (.returned v) ((w.putObj D (.deferred none)).putObj E (.deferred none))) : calmQ (bodyPostM F n P fn R) .ret a w := by
  show LeavesInM F n P fn a.tmps R a.defers .returning w
  rw [hd]
  exact ⟨by simp, .inl ⟨_, _, rfl, run_takeDeferred hD, by simp, .inl ⟨_, _, rfl, run_takeDeferred ((World.putObj_heap_other hne).trans hE), v, hr, h⟩⟩⟩
theorem manyOrder_any (w : World) {ao am : Option Addr} {len cap len2 cap2 : Nat} {l more : List UInt8} (hb : Bytes w ao l) (hlen : l.length = len) (hmax : len ≤ 140737488351232) (hb2 : Bytes w am more) (hlen2 : more.length = len2) (hmax2 : len2 ≤ 140737488351232) (turn fr : Int) :
    Calls Try.prog 5 #[.slice ao len cap, .int .i64 turn, .slice am len2 cap2, .int .i64 fr] w fun e w' => e = .returned (.bool true) ∧ Below w.heap.size w w' := by
  refine (callsIn_wide (n := 10)).1 ?_
  refine callsIn_of_wp_marks Try.func5 rfl trivial ?_ rfl
  simp only [Try.ntmps5, List.size_toArray, List.length_cons, List.length_nil, Nat.reduceAdd, Nat.reduceSub, Array.replicate_succ, Array.replicate_zero, List.push_toArray, List.append_toArray, List.nil_append, List.cons_append]
  refine wpIn_wide.2 ?_
  refine wp_mono (Q := calmQ _) ?_ calmQ_out
  have HBy := Lib.hid hb
  have HLen := Lib.hid hlen
  have HBm := Lib.hid hb2
  have HLem := Lib.hid hlen2
  clear hb hlen hb2 hlen2
  by_cases hbig : 300 < len ∨ 400 < len + len2
  · by_cases h16 : 300 < len
    · have k1 : (300 : Int) < (len : Int) := by omega
      clear h16 hmax hmax2 hbig
      go_wp2_with (go_at_call 7; refine (awake_any _).mono ?_; rintro e w1 ⟨rfl, hb1⟩; have r0 := ((Fresh.new w w.heap.size #[.bool false] 4 rfl).below hb1).cell 0; have f0 := ((Fresh.new w w.heap.size #[.bool false] 4 rfl).below hb1).thawed 0; simp only [List.getElem?_toArray, List.getElem?_cons_zero] at r0)
      refine calm_ret (v := .bool true) rfl ?_ ⟨rfl, (Below.step (Below.new (Below.refl _ _) _) hb1).setCell (Nat.le_refl _) _⟩
      rw [results_cell1 rfl]
      go_simp
    · have k1 : (len : Int) ≤ 300 := by omega
      have k2 : (400 : Int) < (len : Int) + (len2 : Int) := by omega
      have k3 : decide ((300 : Int) < (len : Int)) = false := decide_eq_false (by omega)
      have k4 : decide ((400 : Int) < (len : Int) + (len2 : Int)) = true := decide_eq_true k2
      have KK := Lib.hid (And.intro k1 k2)
      have k5 : (len : Int) + (len2 : Int) ≤ 140737488351532 := by omega
      clear h16 hmax hmax2 hbig
      go_wp2_with (go_at_call 7; refine (awake_any _).mono ?_; rintro e w1 ⟨rfl, hb1⟩; have r0 := ((Fresh.new w w.heap.size #[.bool false] 4 rfl).below hb1).cell 0; have f0 := ((Fresh.new w w.heap.size #[.bool false] 4 rfl).below hb1).thawed 0; simp only [List.getElem?_toArray, List.getElem?_cons_zero] at r0)
      all_goals first
        | (refine calm_ret (v := .bool true) rfl ?_ ⟨rfl, (Below.step (Below.new (Below.refl _ _) _) hb1).setCell (Nat.le_refl _) _⟩
           rw [results_cell1 rfl]
           go_simp
           done)
        | (exfalso; have := KK.out; omega)
  have k1 : (len : Int) ≤ 300 := by omega
  have k2 : (len : Int) + (len2 : Int) ≤ 400 := by omega
  have H16 : Hid (len ≤ 300 ∧ len2 ≤ 400) := by show _ ∧ _; omega
  clear hbig hmax hmax2
  have HR : Hid (∀ W, Below w.heap.size w W → Calls Try.prog 21 #[.slice ao len cap] W fun e w' => ∃ p q e2, e = .returned (.tuple #[.pointer (some ⟨p, 0, none⟩), .int .i64 ((len - (rowOf l).length : Nat) : Int)]) ∧ On W w' p q e2 (rowOf l) 256 ∧ W.heap.size ≤ p) :=
    Lib.hid fun W hW => row_any (cap := cap) (HBy.out.low hW) HLen.out H16.out.1
  have HN : Hid (∀ W, Calls Try.prog 21 #[.slice none 0 0] W fun e w' => ∃ p q e2, e = .returned (.tuple #[.pointer (some ⟨p, 0, none⟩), .int .i64 0]) ∧ On W w' p q e2 [] 256 ∧ W.heap.size ≤ p) :=
    Lib.hid fun W => row_any (l := []) (len := 0) (cap := 0) (.inl rfl) rfl (by omega)
  have hnl := rowOf_len l
  obtain ⟨nl, hnl'⟩ : ∃ nl, (rowOf l).length = nl := ⟨_, rfl⟩
  obtain ⟨bd, hbd⟩ : ∃ bd : Nat, len - (rowOf l).length = bd := ⟨_, rfl⟩
  rw [hbd] at HR
  have HBD : Hid (bd + (rowOf l).length = len) := by show _ = _; have := HLen.out; omega
  clear hnl hnl' hbd
  go_upto_region 5 with (go_at_call 7; refine (awake_any _).mono ?_; rintro e w1 ⟨rfl, hb1⟩)
  have B1 : Below w.heap.size w w1 := Below.step (Below.new (Below.refl _ _) _) hb1
  have f1 : Fresh w1 w.heap.size #[.bool false] 4 := (Fresh.new w w.heap.size #[.bool false] 4 rfl).below hb1
  have HB1 := Lib.hid (And.intro B1 f1)
  clear B1 f1 hb1
  go_upto_region 9 with (first
    | (go_at_call 21; with_reducible refine (HR.out _ HB1.out.1).mono ?_; rintro e w2 ⟨pa, qa, ea, rfl, hO2, hp2⟩)
    | (go_at_call 21; with_reducible refine (HN.out _).mono ?_; rintro e w3 ⟨pb, qb, eb, rfl, hO3, hp3⟩))
  have hb2 := hO2.low
  have hf2 := hO2.many
  have hq2 := hO2.hq
  have he2 := hO2.he
  have hb3 := hO3.low
  have hf3 := hO3.many
  have hq3 := hO3.hq
  have he3 := hO3.he
  have M3 : MidO w w3 pa qa ea pb qb eb (rowOf l) [] := by
    have x1 := HB1.out.2.lt
    have x2 := hf2.lt
    have x3 := HB1.out.1.size
    exact ⟨hf2.below hb3, hf3, (HB1.out.2.below hb2).below hb3, Below.step (Below.step HB1.out.1 hb2) hb3, by omega, by omega, by omega, by omega⟩
  have HM3 := Lib.hid M3
  have HLow := Lib.hid (fun W (hW : Below w.heap.size w W) => And.intro (HBy.out.low hW) (HBm.out.low hW))
  have HRot := Lib.hid (fun t => rowOf_rot l t)
  have HMem := Lib.hid (rowOf_mem l)
  have HSrt := Lib.hid (rowOf_srt l)
  have HL16 : Hid ((rowOf l).length ≤ 256) := srt_len (rowOf_srt l)
  obtain ⟨La, hLa⟩ : ∃ La, rowOf l = La := ⟨_, rfl⟩
  rw [hLa] at HM3 HMem HSrt HBD HRot HL16
  clear hO2 hO3 he2 he3 hb2 hf2 hq2 hp2 hb3 hf3 hq3 hp3 M3 hLa HR HN HB1
  go_wp2_with fail
  go_loopw [13, 14] (fun m i wr => ∃ (eb : Nat) (j : Nat) (L : List En), j ≤ len2 ∧ i = .int .i64 j ∧ m = .int .i64 (L.length : Int) ∧ Put1 more j L ∧ MidO w wr pa qa ea pb qb eb La L) (fun _ i _ => len2 - (intOf i).toNat)
  case atStart => exact ⟨eb, 0, [], Nat.zero_le _, rfl, rfl, Put1.zero _, HM3.out⟩
  case round =>
    obtain ⟨eb1, j, L, hj, rfl, rfl, hP, hM⟩ := hrel
    obtain ⟨wo, hwo⟩ : ∃ wo : World, wo = wr := ⟨_, rfl⟩
    rw [← hwo] at hM ⊢
    clear hwo HM3
    by_cases hlt : j < len2
    · have jl : (j : Int) < (len2 : Int) := by omega
      have j0 : (0 : Int) ≤ (j : Int) := by omega
      have jb : (j : Int) ≤ 400 := by omega
      have jd : decide (j < len2) = true := decide_eq_true hlt
      have hjl : j < more.length := by rw [HLem.out]; exact hlt
      have hl16 := hP.len
      obtain ⟨nL, hnL⟩ : ∃ nL : Nat, L.length = nL := ⟨_, rfl⟩
      have nb : (nL : Int) ≤ 256 := by omega
      have nb0 : (0 : Int) ≤ (nL : Int) := by omega
      obtain ⟨g, o, hao, hc, hg⟩ := (HLow.out _ hM.low).2.at' j hjl
      have hnx := hP.next hjl 300 0
      have hpl := put_len more[j] 300 0 L 256
      obtain ⟨c, hcc⟩ : ∃ c, more[j] = c := ⟨_, rfl⟩
      rw [hcc] at hc hnx hpl
      subst hao
      have hput := hM.put c 300 0
      rw [hnL] at hpl ⊢
      have HX := Lib.hid hnx
      have HM := Lib.hid hM
      by_cases hin : isIn c L = true ∨ L.length = 256
      · have hE : (putE c L 256 == 0) = false := by
          rw [putE]
          cases hx : isIn c L
          · have : L.length = 256 := by rcases hin with h | h; rw [hx] at h; cases h; exact h
            rw [if_neg (by simp), if_pos this]; rfl
          · rw [if_pos rfl]; rfl
        rw [hnL] at hin
        rw [if_pos hin] at hpl
        obtain ⟨v, hv⟩ : ∃ v, putE c L 256 = v := ⟨_, rfl⟩
        rw [hv] at hput hE
        have HP := Lib.hid hput
        have HPL := Lib.hid hpl
        clear hput hpl hv hin hnx hP hM hcc hnL hjl hl16
        go_wp2_with (go_at_call 12; refine HP.out.mono ?_; rintro e w4 ⟨rfl, eb4, hm4⟩)
        all_goals first
          | (exfalso; have := beq_eq_false_iff_ne.1 hE; contradiction)
          | (go_roundw
             case rel => exact ⟨eb4, j + 1, _, by omega, by go_num, by rw [HPL.out], HX.out, hm4⟩
             case measure => simp [intOf] <;> omega)
      · have hE : putE c L 256 = 0 := by
          rw [putE, if_neg (fun h => hin (.inl h)), if_neg (fun h => hin (.inr h))]
        rw [hE] at hput
        have hin2 := hin
        rw [hnL] at hin2
        rw [if_neg hin2] at hpl
        have HP := Lib.hid hput
        have HPL := Lib.hid hpl
        clear hput hpl hin hin2 hnx hP hM hcc hnL hjl hl16 hE
        go_wp2_with (go_at_call 12; refine HP.out.mono ?_; rintro e w4 ⟨rfl, eb4, hm4⟩)
        go_roundw
        case rel => exact ⟨eb4, j + 1, _, by omega, by go_num, by rw [HPL.out]; go_num, HX.out, hm4⟩
        case measure => simp [intOf] <;> omega
    · obtain rfl : len2 = j := by omega
      have hT : Take1 more 0 L := Put1.all (by rw [HLem.out]; exact hP)
      have HM4 := Lib.hid (And.intro hT hM)
      clear hT hM hP
      go_wp2_with fail
      go_loopw [13, 15] (fun m i wr => ∃ (k : Nat) (L : List En), k ≤ len2 ∧ i = .int .i64 k ∧ m = .int .i64 (L.length : Int) ∧ Take1 more k L ∧ MidO w wr pa qa ea pb qb eb1 La L) (fun _ i _ => len2 - (intOf i).toNat)
      case atStart => exact ⟨0, L, Nat.zero_le _, rfl, rfl, HM4.out.1, HM4.out.2⟩
      case round =>
        obtain ⟨k, L2, hk, rfl, rfl, hP, hM⟩ := hrel
        obtain ⟨wo, hwo⟩ : ∃ wo : World, wo = wr := ⟨_, rfl⟩
        rw [← hwo] at hM ⊢
        clear hwo HM4
        by_cases hlt2 : k < len2
        · have jl : (k : Int) < (len2 : Int) := by omega
          have j0 : (0 : Int) ≤ (k : Int) := by omega
          have jb : (k : Int) ≤ 400 := by omega
          have jd : decide (k < len2) = true := decide_eq_true hlt2
          have hjl : k < more.length := by rw [HLem.out]; exact hlt2
          have hl16 := hP.len
          obtain ⟨nL, hnL⟩ : ∃ nL : Nat, L2.length = nL := ⟨_, rfl⟩
          have nb : (nL : Int) ≤ 256 := by omega
          have nb0 : (0 : Int) ≤ (nL : Int) := by omega
          obtain ⟨g, o, hao, hc, hg⟩ := (HLow.out _ hM.low).2.at' k hjl
          have hnx := hP.next hjl
          have hpl := take_len more[k] L2
          obtain ⟨c, hcc⟩ : ∃ c, more[k] = c := ⟨_, rfl⟩
          rw [hcc] at hc hnx hpl
          subst hao
          have hput := hM.take c
          obtain ⟨s, g', hsg⟩ := refOf_agg c L2
          rw [hsg] at hput
          rw [hnL] at hpl ⊢
          have HX := Lib.hid hnx
          have HM := Lib.hid hM
          cases hin : isIn c L2
          · rw [hin, if_neg (by simp)] at hput hpl
            have HP := Lib.hid hput
            have HPL := Lib.hid hpl
            clear hput hpl hin hnx hP hM hcc hnL hjl hl16 hsg hlt
            go_wp2_with (go_at_call 14; refine HP.out.mono ?_; rintro e w4 ⟨rfl, hm4⟩)
            go_roundw
            case rel => exact ⟨k + 1, _, by omega, by go_num, by rw [HPL.out], HX.out, hm4.below (Below.new (Below.refl _ _) _)⟩
            case measure => simp [intOf] <;> omega
          · have hpos := isIn_lt hin
            rw [hin, if_pos rfl] at hput hpl
            have HP := Lib.hid hput
            have HPL := Lib.hid hpl
            have HPos : Hid (0 < nL) := by show 0 < nL; omega
            clear hput hpl hin hnx hP hM hcc hnL hjl hl16 hsg hlt hpos
            go_wp2_with (go_at_call 14; refine HP.out.mono ?_; rintro e w4 ⟨rfl, hm4⟩)
            go_roundw
            case rel => exact ⟨k + 1, _, by omega, by go_num, by rw [HPL.out]; have := HPos.out; rw [show ((nL - 1 : Nat) : Int) = (nL : Int) - 1 from by omega], HX.out, hm4.below (Below.new (Below.refl _ _) _)⟩
            case measure => simp [intOf] <;> omega
        · obtain rfl : len2 = k := by omega
          obtain rfl := Take1.done (L := L2) (by rw [HLem.out]; exact hP)
          have HM5 := Lib.hid hM
          clear hM hP hlt hlt2
          rw [show ((([] : List En).length : Nat) : Int) = 0 from rfl]
          go_wp2_with fail

          obtain ⟨pk, hpk⟩ : ∃ pk : Nat, pk = (turn % (len : Int)).toNat := ⟨_, rfl⟩
          go_loopw [18, 19] (fun tw i wr => ∃ (eb : Nat) (k : Nat), k ≤ len ∧ i = .int .i64 k ∧ tw = .int .i64 ((k - (rowOf ((rot l pk).take k)).length : Nat) : Int) ∧ MidO w wr pa qa ea pb qb eb La (rowOf ((rot l pk).take k))) (fun _ i _ => len - (intOf i).toNat)
          case atStart => exact ⟨eb1, 0, Nat.zero_le _, rfl, rfl, HM5.out⟩
          case round =>
            obtain ⟨eb, k, hk, rfl, rfl, hM⟩ := hrel
            obtain ⟨wo, hwo⟩ : ∃ wo : World, wo = wr := ⟨_, rfl⟩
            rw [← hwo] at hM ⊢
            clear hwo HM5
            by_cases hlt : k < len
            · have jl : (k : Int) < (len : Int) := by omega
              have j0 : (0 : Int) ≤ (k : Int) := by omega
              have jb : (k : Int) ≤ 300 := by omega
              have jd : decide (k < len) = true := decide_eq_true hlt
              have hpos : 0 < len := by omega
              have hkl : k < l.length := by rw [HLen.out]; exact hlt
              have hml : (k + pk) % len < l.length := by rw [HLen.out]; exact Nat.mod_lt _ hpos
              have hpn : (turn % (len : Int)) = (pk : Int) := by
                have := Int.emod_nonneg turn (show (len : Int) ≠ 0 by omega)
                rw [hpk]; omega
              have hpl : (pk : Int) < (len : Int) := by rw [← hpn]; exact Int.emod_lt_of_pos _ (by omega)
              have hpk0 : (0 : Int) ≤ (pk : Int) := by omega
              have HPk : Hid (∀ W, Calls Try.prog 22 #[.int .i64 turn, .int .i64 (len : Int)] W fun e w' => e = .returned (.int .i64 (pk : Int)) ∧ w' = W) := Lib.hid fun W => by
                have := pick_any turn (len : Int) (by omega) (by omega) W
                rwa [hpn] at this
              obtain ⟨ix, hix⟩ : ∃ ix : Nat, (k + pk) % len = ix := ⟨_, rfl⟩
              have htm : ((k : Int) + (pk : Int)).tmod (len : Int) = (ix : Int) := by
                rw [Int.tmod_eq_emod_of_nonneg (by omega), ← hix, Int.natCast_emod, Int.natCast_add]
              rw [hix] at hml
              have ixl : (ix : Int) < (len : Int) := by have := HLen.out; omega
              have ix0 : (0 : Int) ≤ (ix : Int) := by omega
              have ixd : decide (ix < len) = true := decide_eq_true (by omega)
              obtain ⟨g, o, hao, hc, hg⟩ := (HLow.out _ hM.low).1.at' ix hml
              have hnx : rowOf ((rot l pk).take (k + 1)) = putS l[ix] (l[ix].toNat : Int) 1 (rowOf ((rot l pk).take k)) 256 := by
                rw [rowOf_take _ _ (by rw [rot_length]; exact hkl), rot_at l pk k hkl]
                simp only [HLen.out, hix]
              obtain ⟨c, hcc⟩ : ∃ c, l[ix] = c := ⟨_, rfl⟩
              rw [hcc] at hc hnx
              subst hao
              obtain ⟨L, hL⟩ : ∃ L, rowOf ((rot l pk).take k) = L := ⟨_, rfl⟩
              have hLl : L.length ≤ k := by rw [← hL]; have := rowOf_len ((rot l pk).take k); rw [List.length_take] at this; omega
              rw [hL] at hnx hM ⊢
              have HMS := Lib.hid hM.fb.srt
              have hput := hM.put c (c.toNat : Int) 1
              have hpln := put_len c (c.toNat : Int) 1 L 256
              have HNX := Lib.hid hnx
              have HLL := Lib.hid hLl
              have cw := wrap_byte c
              have c0 : (0 : Int) ≤ (c.toNat : Int) := by omega
              have c1 : (c.toNat : Int) ≤ 255 := by have := c.toNat_lt; omega
              have jb2 : ((k - L.length : Nat) : Int) ≤ 300 := by omega
              have jb3 : (0 : Int) ≤ ((k - L.length : Nat) : Int) := by omega
              have kp : (k : Int) + (pk : Int) ≤ 600 := by omega
              by_cases hin : isIn c L = true
              · have hE : (putE c L 256 == 0) = false := by rw [putE, if_pos hin]; rfl
                rw [if_pos (.inl hin)] at hpln
                obtain ⟨v, hv⟩ : ∃ v, putE c L 256 = v := ⟨_, rfl⟩
                rw [hv] at hput hE
                have HP := Lib.hid hput
                have HPL := Lib.hid hpln
                clear hput hpln hv hin hnx hM hcc hL hLl hkl hml hpn hpk hix
                go_wp2_with (first
                  | (go_at_call 22; refine (HPk.out _).mono ?_; rintro e w3 ⟨rfl, hw3⟩; replace hw3 := hw3.symm; subst hw3)
                  | (go_at_call 12; refine HP.out.mono ?_; rintro e w4 ⟨rfl, eb4, hm4⟩))
                go_roundw
                case rel => exact ⟨eb4, k + 1, by omega, by go_num, by rw [HNX.out, HPL.out]; have := HLL.out; rw [show ((k + 1 - L.length : Nat) : Int) = ((k - L.length : Nat) : Int) + 1 from by omega], by rw [HNX.out]; exact hm4⟩
                case measure => simp [intOf] <;> omega
              · have hL16 : L.length ≠ 256 := by have := not_full HMS.out (b := c) (by simpa using hin); omega
                have hE : putE c L 256 = 0 := by rw [putE, if_neg hin, if_neg hL16]
                rw [if_neg (by rintro (h | h); exact hin h; exact hL16 h)] at hpln
                rw [hE] at hput
                have HP := Lib.hid hput
                have HPL := Lib.hid hpln
                clear hput hpln hin hnx hM hcc hL hLl hkl hml hpn hpk hix hE hL16
                go_wp2_with (first
                  | (go_at_call 22; refine (HPk.out _).mono ?_; rintro e w3 ⟨rfl, hw3⟩; replace hw3 := hw3.symm; subst hw3)
                  | (go_at_call 12; refine HP.out.mono ?_; rintro e w4 ⟨rfl, eb4, hm4⟩))
                go_roundw
                case rel => exact ⟨eb4, k + 1, by omega, by go_num, by rw [HNX.out, HPL.out]; have := HLL.out; rw [show k + 1 - (L.length + 1) = k - L.length from by omega], by rw [HNX.out]; exact hm4⟩
                case measure => simp [intOf] <;> omega
            · obtain rfl : len = k := by omega
              have hr : rowOf ((rot l pk).take len) = La := by
                rw [List.take_of_length_le (by rw [rot_length, HLen.out]; exact Nat.le_refl _)]
                exact HRot.out pk
              rw [hr] at hM ⊢
              have hbd : len - La.length = bd := by have := HBD.out; omega
              rw [hbd]
              have HM6 := Lib.hid hM
              obtain ⟨na, hna⟩ : ∃ na : Nat, La.length = na := ⟨_, rfl⟩
              have hsum : (na : Int) = (len : Int) - (bd : Int) := by have := HBD.out; omega
              have HLa := Lib.hid (And.intro (len_any hM.fa) (len_any hM.fb))
              rw [hna] at HLa
              have qq : (len : Int) - (bd : Int) = (na : Int) := hsum.symm
              have HQQ := Lib.hid hsum
              have b0 : (0 : Int) ≤ (bd : Int) := by omega
              have b1 : (bd : Int) ≤ 300 := by have := HBD.out; omega
              clear hM hr hbd hsum hk hlt hpk
              go_upto_region 30 with (go_at_call 18; first | (with_reducible refine HLa.out.1.mono ?_; rintro e w3 ⟨rfl, hw3⟩; replace hw3 := hw3.symm; subst hw3) | (with_reducible refine HLa.out.2.mono ?_; rintro e w3 ⟨rfl, hw3⟩; replace hw3 := hw3.symm; subst hw3))
              go_upto_region 31 with fail
              obtain ⟨W31, hW31⟩ : ∃ W31, W31 = (wo.alloc (.cells #[.slice none 0 0] 57)).alloc (.cells #[.slice none 0 0] 57) := ⟨_, rfl⟩
              rw [← hW31]
              obtain ⟨X, hX⟩ : ∃ X, wo.heap.size = X := ⟨_, rfl⟩
              rw [hX]
              have s31 : W31.heap.size = X + 2 := by rw [hW31, ← hX]; simp
              have low31 : Below wo.heap.size wo W31 := by rw [hW31]; exact Below.new (Below.new (Below.refl _ _) _) _
              have FX : Fresh W31 X #[.slice none 0 0] 57 := by rw [hW31]; exact (Fresh.new _ _ _ _ hX).alloc _
              have FY : Fresh W31 (X + 1) #[.slice none 0 0] 57 := by rw [hW31]; exact Fresh.new _ _ _ _ (by simp; omega)
              have M31 : MidO w W31 pa qa ea pb qb eb La La := HM6.out.below low31
              have hq1 := HM6.out.fb.lt
              rw [hX] at hq1
              have HM31 := Lib.hid (And.intro s31 (And.intro FX (And.intro FY (And.intro M31 hq1))))
              clear hW31 hX low31 FX FY M31 s31 hq1 HM6 HLa HQQ
              go_wp2_with (go_at_call 13; refine (allv_any _ _).mono ?_; rintro e WL ⟨rfl, hWL⟩; have HWL := Lib.hid hWL; clear hWL)
              obtain ⟨iU, hU0, hU1, hU2, hU3⟩ := infoU
              have HU := Lib.hid (And.intro hU0 (And.intro hU1 (And.intro hU2 hU3)))
              clear hU0 hU1 hU2 hU3
              have szL : WL.heap.size = W31.heap.size + 1 := by rw [HWL.out]; simp
              have BL : Below W31.heap.size W31 WL := by rw [HWL.out]; exact Below.new (Below.refl _ _) _
              have fa : Fresh WL W31.heap.size #[.pointer (some ⟨pa, 0, none⟩)] 24 := by rw [HWL.out]; exact Fresh.new _ _ _ _ rfl
              obtain ⟨C, hC⟩ : ∃ C, C = WL.heap.size := ⟨_, rfl⟩
              have h31 := HM31.out.1
              have ML : MidX w WL pa qa ea pb qb eb X C La (.slice none 0 0) (.slice none 0 0) 0 0 :=
                ⟨HM31.out.2.2.2.1.below BL, HM31.out.2.1.below BL, HM31.out.2.2.1.below BL, ⟨rfl, .inl ⟨rfl, rfl⟩⟩, ⟨rfl, .inl ⟨rfl, rfl⟩⟩, by have := HM31.out.2.2.2.2; omega, fun k h => by cases h⟩
              obtain ⟨S, hS⟩ : ∃ S, S = [X, WL.heap.size + 1] := ⟨_, rfl⟩
              have SZ := Lib.hid (And.intro szL (And.intro hC h31))
              refine (wpIn_wide (n := 10)).1 ?_
              refine range_box rfl (by omega) (gf := 32) (lb := #[.pointer (some ⟨W31.heap.size, 0, none⟩)]) rfl trivial (enters_of Try.func32 (by kernel_rfl) rfl)
                (all_own kKeepT 9 (by omega) W31.heap.size S La 256 WL pa qa ea ML.mid.fa ((fa.cell 0).trans rfl) (fun k h => by rw [hS] at h; simp at h; omega))
                (fun h k => h.trans k) (fun Wc o _ => KeepT.put (by rw [hS]; simp) o) (Below.refl _ _) (fun _ => rfl)
                (fun pre Wc => ∃ (k : Nat) (vx : Value), k ≤ La.length ∧ pre = La.take k ∧ MidX w Wc pa qa ea pb qb eb X C La vx (.slice none 0 0) k 0)
                (fun _ _ _ => False)
                (fun pre Y Z row ⟨k, vx, h1, h2, h3⟩ hg hr => ⟨k, vx, h1, h2, h3.kept hg (fun r e => ⟨by have := (hr r e).1; have := h3.low; omega, (hr r e).2⟩)⟩)
                (fun _ _ _ _ _ h _ _ => h)
                ⟨0, _, Nat.zero_le _, rfl, ML⟩
                (fun x a' Wc => ∃ bx, a' = { tmps := #[.slice ao len cap, .int .i64 turn, .slice am len2 cap2, .int .i64 fr, undef, undef, undef, undef, .pointer (some ⟨w.heap.size, 0, none⟩), .pointer (some ⟨pa, 0, none⟩), .int .i64 (bd : Int), .pointer (some ⟨pb, 0, none⟩), .int .i64 0, .int .i64 0, .int .i64 (len2 : Int), .int .i64 (len2 : Int), u16, u17, .int .i64 (bd : Int), .int .i64 (len : Int), u20, .pointer (some ⟨X, 0, none⟩), .pointer (some ⟨X + 1, 0, none⟩), .int .u8 (x.1.toNat : Int), .pointer (some ⟨bx, 0, none⟩), undef, undef, undef, undef, undef, undef, undef, .bool true, .bool false, .slice ao len cap, .int .i64 (len : Int), .bool (decide (300 < (len : Int))), .bool (decide (300 < (len : Int))), .slice ao len cap, .int .i64 (len : Int), .slice am len2 cap2, .int .i64 (len2 : Int), .int .i64 ((len : Int) + (len2 : Int)), .bool (decide (400 < (len : Int) + (len2 : Int))), .bool (decide (300 < (len : Int)) || decide (400 < (len : Int) + (len2 : Int))), .tuple #[.pointer (some ⟨pa, 0, none⟩), .int .i64 (bd : Int)], .slice ao len cap, .tuple #[.pointer (some ⟨pa, 0, none⟩), .int .i64 (bd : Int)], .pointer (some ⟨pa, 0, none⟩), .int .i64 (bd : Int), .tuple #[.pointer (some ⟨pb, 0, none⟩), .int .i64 0], .tuple #[.pointer (some ⟨pb, 0, none⟩), .int .i64 0], .pointer (some ⟨pb, 0, none⟩), .int .i64 0, .pointer (some ⟨pa, 0, none⟩), .bool false, .bool false, .pointer (some ⟨pb, 0, none⟩), .bool false, .bool false, .int .i64 (len2 : Int), .slice am len2 cap2, .int .i64 (len2 : Int), .bool false, u64, u65, u66, u67, u68, u69, u70, u71, u72, u73, u74, u75, .int .i64 (len2 : Int), .slice am len2 cap2, .int .i64 (len2 : Int), .bool false, u80, u81, u82, u83, u84, u85, u86, u87, u88, u89, u90, u91, u92, u93, u94, .int .i64 (len : Int), .slice ao len cap, .int .i64 (len : Int), .bool false, u99, u100, u101, u102, u103, u104, u105, u106, u107, u108, u109, u110, u111, u112, u113, u114, u115, u116, u117, u118, u119, u120, u121, .int .i64 0, .bool false, .bool false, .int .i64 (bd : Int), .int .i64 (bd : Int), .bool false, .bool false, .bool false, .pointer (some ⟨pa, 0, none⟩), .int .i64 (na : Int), .slice ao len cap, .int .i64 (len : Int), .int .i64 (bd : Int), .int .i64 (na : Int), .bool false, .bool false, .bool false, .pointer (some ⟨pa, 0, none⟩), .int .i64 (na : Int), .pointer (some ⟨pb, 0, none⟩), .int .i64 (na : Int), .bool false, .bool false, .pointer (some ⟨pa, 0, none⟩), .func (.func 32) #[] #[.pointer (some ⟨W31.heap.size, 0, none⟩)], .int .u8 (x.1.toNat : Int), refV x.2.1 x.2.2, undef, undef, undef, undef, undef, undef, undef, undef, undef, undef, undef, undef, undef, undef, undef, undef, undef, undef, undef, undef, undef, undef, undef, undef, undef, undef, undef, undef, undef, undef, undef, undef, undef, undef, undef, undef, undef, undef, undef, undef, undef, undef, undef, undef, undef, undef, undef, undef, undef, undef, undef, undef, undef, undef, undef, undef, undef, undef, undef, undef, undef, undef, undef, undef, undef, undef, undef, undef], defers := [] } ∧ Fresh Wc bx #[.int .i64 x.2.1, .int .u32 x.2.2] 35)
                (fun x a' _ Y Z row ⟨bx, h1, h2⟩ hg hr => ⟨bx, h1, h2.kept hg (fun r e => (hr r e).2)⟩)
                ?assignment ?round ?done ?stop
              case assignment =>
                rintro l' pre x Wc K' hG ⟨k, vx, hk, hpre, hM⟩ hK
                have low : Below Wc.heap.size Wc (Wc.alloc (.cells #[.int .i64 x.2.1, .int .u32 x.2.2] 35)) := Below.new (Below.refl _ _) _
                have HK := Lib.hid (hK _ (Wc.alloc (.cells #[.int .i64 x.2.1, .int .u32 x.2.2] 35)) ((KeepsOthers.alloc _ _).from _) (KeepT.of_below low) ⟨k, vx, hk, hpre, hM.below low⟩ ⟨Wc.heap.size, rfl, Fresh.new _ _ _ _ rfl⟩)
                clear hK hM hG low szL BL fa ML h31
                unfold enV
                gi_wp2
                exact HK.out
              case round =>
                rintro l' pre x a' W5 hG ⟨k, vx, hk, hpre, hM⟩ ⟨bx, rfl, hbx⟩ hz
                obtain ⟨j, hj, hjx⟩ := hG
                obtain ⟨h4, h5⟩ := List.append_inj' hjx rfl
                obtain rfl : k = j := by
                  have := congrArg List.length (hpre.symm.trans h4)
                  rw [List.length_take, List.length_take] at this
                  omega
                have hx : x = La[k] := by simpa using h5
                have hnx : pre ++ [x] = La.take (k + 1) := by rw [hjx]; exact (List.take_succ_eq_append_getElem hj).symm
                have hxm := ((HMem.out x).1 (by rw [hx]; exact List.getElem_mem hj)).2
                have hbt : bytesOf (La.take (k + 1)) = bytesOf (La.take k) ++ [.int .u8 (x.1.toNat : Int)] := by
                  rw [List.take_succ_eq_append_getElem hj, ← hx]; simp [bytesOf]
                obtain ⟨c, s, g⟩ := x
                simp only [Prod.mk.injEq] at hxm
                obtain ⟨rfl, rfl⟩ := hxm
                dsimp only at hbx hbt ⊢
                have d2 := hbx.cell 0
                have d3 := hbx.cell 1
                have d1 := hM.fx.cell 0
                simp only [List.getElem?_toArray, List.getElem?_cons_zero, List.getElem?_cons_succ] at d1 d2 d3
                have hl1 := hM.fx.lt
                have hCW : C ≤ W5.heap.size := by rw [hC]; omega
                have cw := wrap_byte c
                have c0 : (0 : Int) ≤ (c.toNat : Int) := by omega
                have c1 : (c.toNat : Int) ≤ 255 := by have := c.toNat_lt; omega
                obtain ⟨ax, kx, rfl⟩ := row_form hM.ox
                have low : Below W5.heap.size W5 (W5.alloc (.cells #[.int .u8 (c.toNat : Int)] 5)) := Below.new (Below.refl _ _) _
                have d1' : (W5.alloc (.cells #[.int .u8 (c.toNat : Int)] 5)).cell? ⟨X, 0, none⟩ = some (.slice ax k kx) := ((hM.fx.below low).cell 0).trans rfl
                have o5 := Lib.hid (hM.below low).ox
                have N5 : Hid (∀ (j : Nat) u, [Value.int .u8 (c.toNat : Int)][j]? = some u → (W5.alloc (.cells #[.int .u8 (c.toNat : Int)] 5)).cell? ((⟨W5.heap.size, 0, none⟩ : Addr).add j) = some u) := by
                  intro j u hj
                  rw [Addr.add_lit, Nat.zero_add, (Fresh.new W5 W5.heap.size #[.int .u8 (c.toNat : Int)] 5 rfl).cell j]
                  simpa using hj
                have HM := Lib.hid (And.intro hM (And.intro hCW (And.intro hj (And.intro hnx hbt))))
                have hk16 : Hid (k ≤ 256) := by have := HL16.out; show k ≤ 256; omega
                have HC5 : Hid (C ≤ (W5.alloc (.cells #[.int .u8 (c.toNat : Int)] 5)).heap.size) := by show _ ≤ _; simp; omega
                clear hM hbx hj hjx h4 h5 hx hnx hpre hk low hCW hbt
                clear szL BL fa ML h31 hC
                gi_wp2_with (gi_at_builtin; refine wpListIn_append_own _ rfl (.tmp 154) (.tmp 156) 57 rfl C 5 iU (.int .u8 0) 1 1 Try.underlying57 HU.out.1 HU.out.2.1 HU.out.2.2.1 HU.out.2.2.2 rfl (by omega) (.slice ax k kx) k (bytesOf (La.take k)) rfl o5.out ⟨W5.heap.size, 0, none⟩ 1 1 [.int .u8 (c.toNat : Int)] rfl rfl N5.out (by intro u hu; simp at hu; rw [hu]; rfl) (by have := hk16.out; unfold maxLen; omega) (by have := hk16.out; omega) HC5.out ?_)
                intro v7 w7 hown hgrow hnn
                obtain ⟨a7, k7, rfl⟩ := row_form hown
                have HP := Lib.hid (HM.out.1.push hown hgrow HM.out.2.2.2.2 HM.out.2.1 rfl)
                obtain ⟨e1, e2, e3, e4, e5⟩ := HP.out
                have HP2 := Lib.hid (And.intro e3 (And.intro e4 e5))
                clear hown hgrow hnn e3 e4 e5 HP
                gi_wp2
                refine ⟨KeepsFrom.of_keepT HP2.out.2.2 (by intro k hk; simp at hk; have := SZ.out; omega), HP2.out.2.2.wide (by intro k hk; simp at hk; subst hk; rw [hS]; simp), k + 1, _, HM.out.2.2.1, HM.out.2.2.2.1, HP2.out.1⟩
              case done =>
                rintro D xs W5 hD hxs ⟨k, vx, hk, hpre, hM⟩ hK
                obtain rfl : k = La.length := by
                  have := congrArg List.length (hpre.symm.trans hxs)
                  rw [List.length_take] at this
                  omega
                have hlt5 : ∀ b, vx.ownBlock = some b → b < W5.heap.size := fun b hb => (hM.ox.lt b hb).2
                have hox := hM.ox
                rw [List.take_of_length_le (Nat.le_refl _)] at hox
                have HM5 := Lib.hid (And.intro hM (And.intro hox hlt5))
                have HK5 := Lib.hid hK
                have HD5 := Lib.hid hD
                clear hM hlt5 hox hK hD hk hpre szL BL fa ML h31 hC
                go_wp2_with (go_at_call 13; refine (allv_any _ _).mono ?_; rintro e WM ⟨rfl, hWM⟩; have HWM := Lib.hid hWM; clear hWM)
                have szM : WM.heap.size = W5.heap.size + 1 := by rw [HWM.out]; simp
                have BM : Below W5.heap.size W5 WM := by rw [HWM.out]; exact Below.new (Below.refl _ _) _
                have fb : Fresh WM W5.heap.size #[.pointer (some ⟨pb, 0, none⟩)] 24 := by rw [HWM.out]; exact Fresh.new _ _ _ _ rfl
                have hC0 := HM5.out.1.hC
                have hXlt := HM5.out.1.fy.lt
                have hCW : C ≤ W5.heap.size := by
                  have h1 := SZ.out
                  have h2 := HD5.out
                  have h3 : D < W5.heap.size := (Array.getElem?_eq_some_iff.1 HK5.out).1
                  omega
                obtain ⟨C2, hC2⟩ : ∃ C2, C2 = WM.heap.size := ⟨_, rfl⟩
                have hDM : WM.heap[D]? = some (.deferred (some [])) := (BM.block D (Array.getElem?_eq_some_iff.1 HK5.out).1).trans HK5.out
                have MM : MidY w WM pa qa ea pb qb eb X C C2 La vx (.slice none 0 0) 0 :=
                  have hb := HM5.out.1.below BM
                  ⟨hb.mid, hb.fx, hb.fy, row_keep HM5.out.2.1 (fun b h => BM.block b (HM5.out.2.2 b h)), ⟨rfl, .inl ⟨rfl, rfl⟩⟩, by omega, fun b h => by have := HM5.out.2.2 b h; omega⟩
                obtain ⟨S2, hS2⟩ : ∃ S2, S2 = [X + 1, WM.heap.size + 1] := ⟨_, rfl⟩
                have SM := Lib.hid (And.intro szM (And.intro hC2 (And.intro hCW hXlt)))
                refine (wpIn_wide (n := 10)).1 ?_
                refine range_own rfl (by omega) (gf := 32) (lb := #[.pointer (some ⟨W5.heap.size, 0, none⟩)]) rfl trivial (enters_of Try.func32 (by kernel_rfl) rfl)
                  (all_own kKeepT 9 (by omega) W5.heap.size S2 La 256 WM pb qb eb MM.mid.fb ((fb.cell 0).trans rfl) (fun k h => by rw [hS2] at h; simp at h; omega))
                  (KeepT.refl S2) (fun h k => h.trans k) (fun Wc o _ => KeepT.put (by rw [hS2]; simp) o) (Below.refl _ _) (fun _ => rfl)
                  (fun pre Wc => ∃ (k : Nat) (vy : Value), k ≤ La.length ∧ pre = La.take k ∧ MidY w Wc pa qa ea pb qb eb X C C2 La vx vy k ∧ Wc.heap[D]? = some (.deferred (some [])))
                  (fun _ _ _ => False)
                  (fun pre Y Z row ⟨k, vy, h1, h2, h3, h4⟩ hg hr => ⟨k, vy, h1, h2, h3.kept hg (fun r e => ⟨by have := (hr r e).1; have := h3.low; omega, (hr r e).2⟩), (hg.block D (Array.getElem?_eq_some_iff.1 h4).1 (fun e => by have := (hr D e.symm).1; have h5 := (Array.getElem?_eq_some_iff.1 hDM).1; omega)).trans h4⟩)
                  (fun _ _ _ _ _ h _ _ => h)
                  ⟨0, _, Nat.zero_le _, rfl, MM, hDM⟩
                  (fun x => { tmps := #[.slice ao len cap, .int .i64 turn, .slice am len2 cap2, .int .i64 fr, undef, undef, undef, undef, .pointer (some ⟨w.heap.size, 0, none⟩), .pointer (some ⟨pa, 0, none⟩), .int .i64 (bd : Int), .pointer (some ⟨pb, 0, none⟩), .int .i64 0, .int .i64 0, .int .i64 (len2 : Int), .int .i64 (len2 : Int), u16, u17, .int .i64 (bd : Int), .int .i64 (len : Int), u20, .pointer (some ⟨X, 0, none⟩), .pointer (some ⟨X + 1, 0, none⟩), undef, undef, .int .u8 (x.1.toNat : Int), undef, undef, undef, undef, undef, undef, .bool true, .bool false, .slice ao len cap, .int .i64 (len : Int), .bool (decide (300 < (len : Int))), .bool (decide (300 < (len : Int))), .slice ao len cap, .int .i64 (len : Int), .slice am len2 cap2, .int .i64 (len2 : Int), .int .i64 ((len : Int) + (len2 : Int)), .bool (decide (400 < (len : Int) + (len2 : Int))), .bool (decide (300 < (len : Int)) || decide (400 < (len : Int) + (len2 : Int))), .tuple #[.pointer (some ⟨pa, 0, none⟩), .int .i64 (bd : Int)], .slice ao len cap, .tuple #[.pointer (some ⟨pa, 0, none⟩), .int .i64 (bd : Int)], .pointer (some ⟨pa, 0, none⟩), .int .i64 (bd : Int), .tuple #[.pointer (some ⟨pb, 0, none⟩), .int .i64 0], .tuple #[.pointer (some ⟨pb, 0, none⟩), .int .i64 0], .pointer (some ⟨pb, 0, none⟩), .int .i64 0, .pointer (some ⟨pa, 0, none⟩), .bool false, .bool false, .pointer (some ⟨pb, 0, none⟩), .bool false, .bool false, .int .i64 (len2 : Int), .slice am len2 cap2, .int .i64 (len2 : Int), .bool false, u64, u65, u66, u67, u68, u69, u70, u71, u72, u73, u74, u75, .int .i64 (len2 : Int), .slice am len2 cap2, .int .i64 (len2 : Int), .bool false, u80, u81, u82, u83, u84, u85, u86, u87, u88, u89, u90, u91, u92, u93, u94, .int .i64 (len : Int), .slice ao len cap, .int .i64 (len : Int), .bool false, u99, u100, u101, u102, u103, u104, u105, u106, u107, u108, u109, u110, u111, u112, u113, u114, u115, u116, u117, u118, u119, u120, u121, .int .i64 0, .bool false, .bool false, .int .i64 (bd : Int), .int .i64 (bd : Int), .bool false, .bool false, .bool false, .pointer (some ⟨pa, 0, none⟩), .int .i64 (na : Int), .slice ao len cap, .int .i64 (len : Int), .int .i64 (bd : Int), .int .i64 (na : Int), .bool false, .bool false, .bool false, .pointer (some ⟨pa, 0, none⟩), .int .i64 (na : Int), .pointer (some ⟨pb, 0, none⟩), .int .i64 (na : Int), .bool false, .bool false, .pointer (some ⟨pa, 0, none⟩), .func (.func 32) #[] #[.pointer (some ⟨W31.heap.size, 0, none⟩)], undef, undef, undef, undef, undef, undef, undef, undef, undef, undef, undef, .pointer (some ⟨pb, 0, none⟩), .func (.func 32) #[] #[.pointer (some ⟨W5.heap.size, 0, none⟩)], .int .u8 (x.1.toNat : Int), refV x.2.1 x.2.2, undef, undef, undef, undef, undef, undef, undef, undef, undef, undef, undef, undef, undef, undef, undef, undef, undef, undef, undef, undef, undef, undef, undef, undef, undef, undef, undef, undef, undef, undef, undef, undef, undef, undef, undef, undef, undef, undef, undef, undef, undef, undef, undef, undef, undef, undef, undef, undef, undef, undef, undef, undef, undef, undef, undef], defers := [] })
                  ?assignment2 ?round2 ?done2 ?stop2
                case assignment2 =>
                  intro l' x Wc K' hK
                  clear szM BM fb hC0 hXlt hCW hC2 hDM MM
                  unfold enV
                  gi_wp2
                  exact hK
                case round2 =>
                  rintro l' pre x W6 hG ⟨k, vy, hk, hpre, hM, hKD⟩ hz
                  obtain ⟨j, hj, hjx⟩ := hG
                  obtain ⟨h4, h5⟩ := List.append_inj' hjx rfl
                  obtain rfl : k = j := by
                    have := congrArg List.length (hpre.symm.trans h4)
                    rw [List.length_take, List.length_take] at this
                    omega
                  have hx : x = La[k] := by simpa using h5
                  have hnx : pre ++ [x] = La.take (k + 1) := by rw [hjx]; exact (List.take_succ_eq_append_getElem hj).symm
                  have hbt : bytesOf (La.take (k + 1)) = bytesOf (La.take k) ++ [.int .u8 (x.1.toNat : Int)] := by
                    rw [List.take_succ_eq_append_getElem hj, ← hx]; simp [bytesOf]
                  obtain ⟨c, s, g⟩ := x
                  dsimp only at hbt ⊢
                  obtain ⟨ay, ky, rfl⟩ := row_form hM.oy
                  have low : Below W6.heap.size W6 (W6.alloc (.cells #[.int .u8 (c.toNat : Int)] 5)) := Below.new (Below.refl _ _) _
                  have d1 := hM.fy.cell 0
                  simp only [List.getElem?_toArray, List.getElem?_cons_zero] at d1
                  have d1' : (W6.alloc (.cells #[.int .u8 (c.toNat : Int)] 5)).cell? ⟨X + 1, 0, none⟩ = some (.slice ay k ky) := ((hM.fy.below low).cell 0).trans rfl
                  have o6 := Lib.hid (hM.below low).oy
                  have N6 : Hid (∀ (j : Nat) u, [Value.int .u8 (c.toNat : Int)][j]? = some u → (W6.alloc (.cells #[.int .u8 (c.toNat : Int)] 5)).cell? ((⟨W6.heap.size, 0, none⟩ : Addr).add j) = some u) := by
                    intro j u hj
                    rw [Addr.add_lit, Nat.zero_add, (Fresh.new W6 W6.heap.size #[.int .u8 (c.toNat : Int)] 5 rfl).cell j]
                    simpa using hj
                  have HM := Lib.hid (And.intro hM (And.intro hKD (And.intro hj (And.intro hnx hbt))))
                  have hk16 : Hid (k ≤ 256) := by have := HL16.out; show k ≤ 256; omega
                  have HC6 : Hid (C2 ≤ (W6.alloc (.cells #[.int .u8 (c.toNat : Int)] 5)).heap.size) := by show _ ≤ _; simp; omega
                  clear hM hj hjx h4 h5 hx hnx hpre hk low hbt hKD
                  clear szM BM fb hC0 hXlt hCW hC2 hDM MM
                  gi_wp2_with (gi_at_builtin; refine wpListIn_append_own _ rfl (.tmp 162) (.tmp 164) 57 rfl C2 5 iU (.int .u8 0) 1 1 Try.underlying57 HU.out.1 HU.out.2.1 HU.out.2.2.1 HU.out.2.2.2 rfl (by omega) (.slice ay k ky) k (bytesOf (La.take k)) rfl o6.out ⟨W6.heap.size, 0, none⟩ 1 1 [.int .u8 (c.toNat : Int)] rfl rfl N6.out (by intro u hu; simp at hu; rw [hu]; rfl) (by have := hk16.out; unfold maxLen; omega) (by have := hk16.out; omega) HC6.out ?_)
                  intro v7 w7 hown hgrow hnn
                  obtain ⟨a7, k7, rfl⟩ := row_form hown
                  have HP := Lib.hid (HM.out.1.push hown hgrow HM.out.2.2.2.2)
                  obtain ⟨e1, e2, e3, e4⟩ := HP.out
                  have HP2 := Lib.hid (And.intro e3 e4)
                  have hDX : Hid (D ≠ X + 1) := by
                    show D ≠ X + 1
                    rintro rfl
                    have h1 := HM.out.1.fy
                    unfold Fresh at h1
                    rw [HM.out.2.1] at h1
                    cases h1
                  clear hown hgrow hnn e3 e4 HP
                  gi_wp2
                  refine ⟨KeepsFrom.of_keepT HP2.out.2 (by intro k hk; simp at hk; have := SM.out; omega), HP2.out.2.wide (by intro k hk; simp at hk; subst hk; rw [hS2]; simp), k + 1, _, HM.out.2.2.1, HM.out.2.2.2.1, HP2.out.1, ?_⟩
                  exact (HP2.out.2.same (Array.getElem?_eq_some_iff.1 HM.out.2.1).1 (by simp; exact hDX.out) (by rintro ⟨c, f, e⟩; rw [HM.out.2.1] at e; cases e)).trans HM.out.2.1
                case done2 =>
                  rintro E ys W6 hE hys ⟨k, vy, hk, hpre, hM, hKD⟩ hKE
                  obtain rfl : k = La.length := by
                    have := congrArg List.length (hpre.symm.trans hys)
                    rw [List.length_take] at this
                    omega
                  have hoy := hM.oy
                  rw [List.take_of_length_le (Nat.le_refl _)] at hoy
                  have hED : D ≠ E := by have h1 := (Array.getElem?_eq_some_iff.1 hDM).1; omega
                  obtain ⟨c, s, g, u, hV, hu⟩ := nextV_form fr La
                  have HNa : Hid (∀ W, MidY w W pa qa ea pb qb eb X C C2 La vx vy La.length → Calls Try.prog 16 #[.pointer (some ⟨pa, 0, none⟩), .int .i64 fr] W fun e w' => e = .returned (.tuple #[.int .u8 (c.toNat : Int), .agg #[.int .i64 s, .int .u32 g], .bool u]) ∧ Below W.heap.size W w') := Lib.hid fun W h => by
                    rw [← hV]; exact next_any h.mid.fa fr
                  have HNb : Hid (∀ W, MidY w W pa qa ea pb qb eb X C C2 La vx vy La.length → Calls Try.prog 16 #[.pointer (some ⟨pb, 0, none⟩), .int .i64 fr] W fun e w' => e = .returned (.tuple #[.int .u8 (c.toNat : Int), .agg #[.int .i64 s, .int .u32 g], .bool u]) ∧ Below W.heap.size W w') := Lib.hid fun W h => by
                    rw [← hV]; exact next_any h.mid.fb fr
                  have HM6 := Lib.hid (And.intro hM (And.intro hoy (And.intro hKD (And.intro hKE hED))))
                  have HU6 := Lib.hid hu
                  have hEw : Hid (w.heap.size < D ∧ w.heap.size < E) := by
                    have h1 := HD5.out
                    have h2 := hM.low
                    have h3 := SZ.out
                    have h4 := SM.out
                    have h5 := HM5.out.1.hC
                    have h6 := BM.size
                    show _ ∧ _
                    omega
                  clear hM hoy hKD hKE hED hV hu hk hpre
                  clear szM BM fb hC0 hXlt hCW hC2 hDM MM
                  go_upto_region 41 with (go_at_call 16; with_reducible refine (HNa.out _ HM6.out.1).mono ?_; rintro e w7 ⟨rfl, hb7⟩)
                  obtain ⟨W7, hW7⟩ : ∃ W7, W7 = w7.alloc (.cells #[.int .i64 s, .int .u32 g] 35) := ⟨_, rfl⟩
                  rw [← hW7]
                  obtain ⟨B27, hB27⟩ : ∃ B, w7.heap.size = B := ⟨_, rfl⟩
                  rw [hB27]
                  have bb : Below W6.heap.size W6 W7 := by rw [hW7]; exact Below.new hb7 _
                  have X27 : Fresh W7 B27 #[.int .i64 s, .int .u32 g] 35 := by rw [hW7]; exact Fresh.new _ _ _ _ hB27
                  have lB27 : Hid (w.heap.size < B27) := by
                    have l1 := hb7.size
                    have l2 := HM6.out.1.mid.r0.lt
                    show _ < _
                    omega
                  have H7 := Lib.hid (And.intro bb X27)
                  have HM7 := Lib.hid (HM6.out.1.below bb)
                  clear hW7 hB27 bb X27 hb7
                  go_upto_region 42 with (go_at_call 16; with_reducible refine (HNb.out _ HM7.out).mono ?_; rintro e w8 ⟨rfl, hb8⟩)
                  obtain ⟨W8, hW8⟩ : ∃ W8, W8 = w8.alloc (.cells #[.int .i64 s, .int .u32 g] 35) := ⟨_, rfl⟩
                  rw [← hW8]
                  obtain ⟨B30, hB30⟩ : ∃ B, w8.heap.size = B := ⟨_, rfl⟩
                  rw [hB30]
                  have bb : Below W7.heap.size W7 W8 := by rw [hW8]; exact Below.new hb8 _
                  have M8 := HM7.out.below bb
                  have X27 := H7.out.2.below bb
                  have X30 : Fresh W8 B30 #[.int .i64 s, .int .u32 g] 35 := by rw [hW8]; exact Fresh.new _ _ _ _ hB30
                  have bb6 : Below W6.heap.size W6 W8 := Below.step H7.out.1 bb
                  have KD8 : W8.heap[D]? = some (.deferred (some [])) := (bb6.block D (Array.getElem?_eq_some_iff.1 HM6.out.2.2.1).1).trans HM6.out.2.2.1
                  have KE8 : W8.heap[E]? = some (.deferred (some [])) := (bb6.block E (Array.getElem?_eq_some_iff.1 HM6.out.2.2.2.1).1).trans HM6.out.2.2.2.1
                  have hoy8 := M8.oy
                  rw [List.take_of_length_le (Nat.le_refl _)] at hoy8
                  have sx : (convert 57 9 vx).run Try.prog W8.drew = .ok (.string ⟨(La.map (·.1)).toArray⟩) W8.drew := row_string (row_keep M8.ox fun _ _ => rfl)
                  have sy : (convert 57 9 vy).run Try.prog W8.drew = .ok (.string ⟨(La.map (·.1)).toArray⟩) W8.drew := row_string (row_keep hoy8 fun _ _ => rfl)
                  obtain ⟨Z, hZ⟩ : ∃ Z : ByteArray, (⟨(La.map (·.1)).toArray⟩ : ByteArray) = Z := ⟨_, rfl⟩
                  rw [hZ] at sx sy
                  obtain ⟨ax, kx, rfl⟩ := row_form M8.ox
                  obtain ⟨ay, ky, rfl⟩ := row_form hoy8
                  have x0 := M8.fx.cell 0
                  have y0 := M8.fy.cell 0
                  have a0 := X27.cell 0
                  have a1 := X27.cell 1
                  have b0 := X30.cell 0
                  have b1 := X30.cell 1
                  have r0 := M8.mid.r0.cell 0
                  have z0 := M8.mid.r0.thawed 0
                  simp only [List.getElem?_toArray, List.getElem?_cons_zero, List.getElem?_cons_succ] at x0 y0 a0 a1 b0 b1 r0
                  have HLn : Hid (∀ W, ManyAt W pa qa ea La 256 → Calls Try.prog 18 #[.pointer (some ⟨pa, 0, none⟩)] W fun e w' => e = .returned (.int .i64 (La.length : Int)) ∧ w' = W) := Lib.hid fun W h => len_any h
                  have HKS0 : (convert 57 9 (.slice ax La.length kx)).run Try.prog (W8.drew.setCell ⟨w.heap.size, 0, none⟩ (.bool true)) = .ok (.string Z) (W8.drew.setCell ⟨w.heap.size, 0, none⟩ (.bool true)) ∧ (convert 57 9 (.slice ay La.length ky)).run Try.prog (W8.drew.setCell ⟨w.heap.size, 0, none⟩ (.bool true)) = .ok (.string Z) (W8.drew.setCell ⟨w.heap.size, 0, none⟩ (.bool true)) := by
                    have l1 := M8.low
                    have l2 := M8.hC
                    have e1 := row_string (row_keep (W' := W8.drew.setCell ⟨w.heap.size, 0, none⟩ (.bool true)) M8.ox fun b hb => Below.heap_setCell W8.drew _ _ _ (by have := (M8.ox.lt b hb).1; show b ≠ w.heap.size; omega))
                    have e2 := row_string (row_keep (W' := W8.drew.setCell ⟨w.heap.size, 0, none⟩ (.bool true)) hoy8 fun b hb => Below.heap_setCell W8.drew _ _ _ (by have := (hoy8.lt b hb).1; show b ≠ w.heap.size; omega))
                    rw [hZ] at e1 e2
                    exact ⟨e1, e2⟩
                  have oth : ∀ {b o : Nat} {v : Value}, w.heap.size < b → W8.cell? ⟨b, o, none⟩ = some v → (W8.drew.setCell ⟨w.heap.size, 0, none⟩ (.bool true)).cell? ⟨b, o, none⟩ = some v := fun hb hv => by
                    rw [World.cell?_setCell_other _ _ _ _ (by intro e; injection e with e; omega)]; exact hv
                  have hB7 : w.heap.size < B27 ∧ w.heap.size < B30 := by
                    have l1 := hb8.size
                    have l2 := HM7.out.mid.r0.lt
                    have l3 := lB27.out
                    omega
                  have lX := M8.low
                  obtain ⟨nL, hnL⟩ : ∃ nL, La.length = nL := ⟨_, rfl⟩
                  rw [hnL] at HLn x0 y0 sx sy HKS0
                  have HKT : ((fun W' => W'.cell? ⟨X, 0, none⟩ = some (.slice ax nL kx) ∧ W'.cell? ⟨X + 1, 0, none⟩ = some (.slice ay nL ky) ∧ W'.cell? ⟨B27, 0, none⟩ = some (.int .i64 s) ∧ W'.cell? ⟨B27, 1, none⟩ = some (.int .u32 g) ∧ W'.cell? ⟨B30, 0, none⟩ = some (.int .i64 s) ∧ W'.cell? ⟨B30, 1, none⟩ = some (.int .u32 g) ∧ (convert 57 9 (.slice ax nL kx)).run Try.prog W' = .ok (.string Z) W' ∧ (convert 57 9 (.slice ay nL ky)).run Try.prog W' = .ok (.string Z) W') (W8.drew.setCell ⟨w.heap.size, 0, none⟩ (.bool true))) := ⟨oth (by omega) x0, oth (by omega) y0, oth (by omega) a0, oth (by omega) a1, oth (by omega) b0, oth (by omega) b1, HKS0.1, HKS0.2⟩
                  have HKS := Lib.hid (show (fun W' => W'.cell? ⟨X, 0, none⟩ = some (.slice ax nL kx) ∧ W'.cell? ⟨X + 1, 0, none⟩ = some (.slice ay nL ky) ∧ W'.cell? ⟨B27, 0, none⟩ = some (.int .i64 s) ∧ W'.cell? ⟨B27, 1, none⟩ = some (.int .u32 g) ∧ W'.cell? ⟨B30, 0, none⟩ = some (.int .i64 s) ∧ W'.cell? ⟨B30, 1, none⟩ = some (.int .u32 g) ∧ (convert 57 9 (.slice ax nL kx)).run Try.prog W' = .ok (.string Z) W' ∧ (convert 57 9 (.slice ay nL ky)).run Try.prog W' = .ok (.string Z) W') (W8.setCell ⟨w.heap.size, 0, none⟩ (.bool true)).drew from HKT)
                  clear HKT
                  clear HKS0 oth hB7 lX
                  have H8 := Lib.hid (And.intro M8.mid (And.intro KD8 KE8))
                  have HF : Hid ((W8.setCell ⟨w.heap.size, 0, none⟩ (.bool true)).drew.heap[D]? = some (.deferred (some [])) ∧ (W8.setCell ⟨w.heap.size, 0, none⟩ (.bool true)).drew.heap[E]? = some (.deferred (some [])) ∧ Below w.heap.size w (((W8.setCell ⟨w.heap.size, 0, none⟩ (.bool true)).drew.putObj E (.deferred none)).putObj D (.deferred none)) ∧ (((W8.setCell ⟨w.heap.size, 0, none⟩ (.bool true)).drew.putObj E (.deferred none)).putObj D (.deferred none)).cell? ⟨w.heap.size, 0, none⟩ = some (.bool true)) := by
                    have l1 := hEw.out
                    have b1 : Below w.heap.size w (W8.setCell ⟨w.heap.size, 0, none⟩ (.bool true)).drew := (M8.mid.low.setCell (Nat.le_refl _) _).drew
                    refine ⟨(Below.heap_setCell W8 ⟨w.heap.size, 0, none⟩ _ D (by show D ≠ w.heap.size; omega)).trans KD8, (Below.heap_setCell W8 ⟨w.heap.size, 0, none⟩ _ E (by show E ≠ w.heap.size; omega)).trans KE8, below_put (below_put b1 (by omega)) (by omega), ?_⟩
                    rw [cell_same (p := ⟨w.heap.size, 0, none⟩) (World.putObj_heap_other (by show w.heap.size ≠ D; omega)), cell_same (p := ⟨w.heap.size, 0, none⟩) (World.putObj_heap_other (by show w.heap.size ≠ E; omega))]
                    exact ((M8.mid.r0.set 0 (.bool true)).cell 0).trans rfl
                  clear hW8 hB30 bb bb6 M8 X27 X30 KD8 KE8 hoy8 hZ hb8 HNa HNb
                  have cw := wrap_byte c
                  have c0 : (0 : Int) ≤ (c.toNat : Int) := by omega
                  have c1 : (c.toNat : Int) ≤ 255 := by have := c.toNat_lt; omega
                  cases u
                  · refine wp_region_held_drew (S := (fun W' => W'.cell? ⟨X, 0, none⟩ = some (.slice ax nL kx) ∧ W'.cell? ⟨X + 1, 0, none⟩ = some (.slice ay nL ky) ∧ W'.cell? ⟨B27, 0, none⟩ = some (.int .i64 s) ∧ W'.cell? ⟨B27, 1, none⟩ = some (.int .u32 g) ∧ W'.cell? ⟨B30, 0, none⟩ = some (.int .i64 s) ∧ W'.cell? ⟨B30, 1, none⟩ = some (.int .u32 g) ∧ (convert 57 9 (.slice ax nL kx)).run Try.prog W' = .ok (.string Z) W' ∧ (convert 57 9 (.slice ay nL ky)).run Try.prog W' = .ok (.string Z) W')) (by kernel_rfl) ?_ (fun hHeld => ?_)
                    · (try dsimp only)
                      first | exact HKS.out | go_keep
                    refine wpAnyH_take (i := 0) (oi := ?_) (v := ?_) ?_ (by kernel_rfl) (by kernel_rfl) (by kernel_rfl) ?_ (Or.inl ⟨?_, ?_⟩) (by assumption) ?_
                    rotate_left 2
                    · simp only [List.getElem?_toArray, List.getElem?_cons_succ, List.getElem?_cons_zero] <;> rfl
                    · exact fun _ _ _ h => h
                    · rfl
                    · (intro w hSw; (try dsimp only at hSw); go_simp; try (with_reducible rfl))
                    try simp only [Act.put, List.setIfInBounds_toArray, List.set_cons_zero, List.set_cons_succ]
                    refine wpAnyH_take (i := 1) (oi := ?_) (v := ?_) ?_ (by kernel_rfl) (by kernel_rfl) (by kernel_rfl) ?_ (Or.inl ⟨?_, ?_⟩) (by assumption) ?_
                    rotate_left 2
                    · simp only [List.getElem?_toArray, List.getElem?_cons_succ, List.getElem?_cons_zero] <;> rfl
                    · exact fun _ _ _ h => h
                    · rfl
                    · (intro w hSw; (try dsimp only at hSw); go_simp; try (with_reducible rfl))
                    try simp only [Act.put, List.setIfInBounds_toArray, List.set_cons_zero, List.set_cons_succ]
                    refine wpAnyH_take (i := 2) (oi := ?_) (v := ?_) ?_ (by kernel_rfl) (by kernel_rfl) (by kernel_rfl) ?_ (Or.inl ⟨?_, ?_⟩) (by assumption) ?_
                    rotate_left 2
                    · simp only [List.getElem?_toArray, List.getElem?_cons_succ, List.getElem?_cons_zero] <;> rfl
                    · exact fun _ _ _ h => h
                    · rfl
                    · (intro w hSw; (try dsimp only at hSw); go_simp; try (with_reducible rfl))
                    try simp only [Act.put, List.setIfInBounds_toArray, List.set_cons_zero, List.set_cons_succ]
                    refine wpAnyH_take (i := 3) (oi := ?_) (v := ?_) ?_ (by kernel_rfl) (by kernel_rfl) (by kernel_rfl) ?_ (Or.inl ⟨?_, ?_⟩) (by assumption) ?_
                    rotate_left 2
                    · simp only [List.getElem?_toArray, List.getElem?_cons_succ, List.getElem?_cons_zero] <;> rfl
                    · exact fun _ _ _ h => h
                    · rfl
                    · (intro w hSw; (try dsimp only at hSw); go_simp; try (with_reducible rfl))
                    try simp only [Act.put, List.setIfInBounds_toArray, List.set_cons_zero, List.set_cons_succ]
                    refine wpAnyH_take (i := 4) (oi := ?_) (v := ?_) ?_ (by kernel_rfl) (by kernel_rfl) (by kernel_rfl) ?_ (Or.inl ⟨?_, ?_⟩) (by assumption) ?_
                    rotate_left 2
                    · simp only [List.getElem?_toArray, List.getElem?_cons_succ, List.getElem?_cons_zero] <;> rfl
                    · exact fun _ _ _ h => h
                    · rfl
                    · (intro w hSw; (try dsimp only at hSw); go_simp; try (with_reducible rfl))
                    try simp only [Act.put, List.setIfInBounds_toArray, List.set_cons_zero, List.set_cons_succ]
                    refine wpAnyH_take (i := 5) (oi := ?_) (v := ?_) ?_ (by kernel_rfl) (by kernel_rfl) (by kernel_rfl) ?_ (Or.inl ⟨?_, ?_⟩) (by assumption) ?_
                    rotate_left 2
                    · simp only [List.getElem?_toArray, List.getElem?_cons_succ, List.getElem?_cons_zero] <;> rfl
                    · exact fun _ _ _ h => h
                    · rfl
                    · (intro w hSw; (try dsimp only at hSw); go_simp; try (with_reducible rfl))
                    try simp only [Act.put, List.setIfInBounds_toArray, List.set_cons_zero, List.set_cons_succ]
                    refine wpAnyH_take (i := 6) (oi := ?_) (v := ?_) ?_ (by kernel_rfl) (by kernel_rfl) (by kernel_rfl) ?_ (Or.inl ⟨?_, ?_⟩) (by assumption) ?_
                    rotate_left 2
                    · simp only [List.getElem?_toArray, List.getElem?_cons_succ, List.getElem?_cons_zero] <;> rfl
                    · exact fun _ _ _ h => h
                    · rfl
                    · (intro w hSw; (try dsimp only at hSw); go_simp; try (with_reducible rfl))
                    try simp only [Act.put, List.setIfInBounds_toArray, List.set_cons_zero, List.set_cons_succ]
                    refine wpAnyH_take (i := 7) (oi := ?_) (v := ?_) ?_ (by kernel_rfl) (by kernel_rfl) (by kernel_rfl) ?_ (Or.inl ⟨?_, ?_⟩) (by assumption) ?_
                    rotate_left 2
                    · simp only [List.getElem?_toArray, List.getElem?_cons_succ, List.getElem?_cons_zero] <;> rfl
                    · exact fun _ _ _ h => h
                    · rfl
                    · (intro w hSw; (try dsimp only at hSw); go_simp; try (with_reducible rfl))
                    try simp only [Act.put, List.setIfInBounds_toArray, List.set_cons_zero, List.set_cons_succ]
                    refine wpAnyH_take (i := 8) (oi := ?_) (v := ?_) ?_ (by kernel_rfl) (by kernel_rfl) (by kernel_rfl) ?_ (Or.inl ⟨?_, ?_⟩) (by assumption) ?_
                    rotate_left 2
                    · simp only [List.getElem?_toArray, List.getElem?_cons_succ, List.getElem?_cons_zero] <;> rfl
                    · exact fun _ _ _ h => h
                    · rfl
                    · (intro w hSw; (try dsimp only at hSw); go_simp; try (with_reducible rfl))
                    try simp only [Act.put, List.setIfInBounds_toArray, List.set_cons_zero, List.set_cons_succ]
                    refine wpAnyH_ready (rs := [9]) (by kernel_rfl) (by simp) ?_
                    refine AllReadyH.cons (o := _) (by simp only [List.getElem?_toArray, List.getElem?_cons_succ, List.getElem?_cons_zero] <;> rfl) (fun K hK => ?_) ?_
                    · go_simp
                      refine (HLn.out _ H8.out.1.fa.drew).mono ?_
                      rintro e w9 ⟨rfl, hw9⟩
                      replace hw9 := hw9.symm
                      subst hw9
                      go_wp2_with fail
                      refine hK.out _ _ ?_ (fun hHeld => ?_)
                      · (try dsimp only)
                        first | exact HKS.out | go_keep
                      clear hK K
                      try simp only [Act.put, List.setIfInBounds_toArray, List.set_cons_zero, List.set_cons_succ]
                      refine wpAnyH_take (i := 10) (oi := ?_) (v := ?_) ?_ (by kernel_rfl) (by kernel_rfl) (by kernel_rfl) ?_ (Or.inl ⟨?_, ?_⟩) (by assumption) ?_
                      rotate_left 2
                      · simp only [List.getElem?_toArray, List.getElem?_cons_succ, List.getElem?_cons_zero] <;> rfl
                      · exact fun _ _ _ h => h
                      · rfl
                      · (intro w hSw; (try dsimp only at hSw); go_simp; try (with_reducible rfl))
                      try simp only [Act.put, List.setIfInBounds_toArray, List.set_cons_zero, List.set_cons_succ]
                      refine wpAnyH_take (i := 11) (oi := ?_) (v := ?_) ?_ (by kernel_rfl) (by kernel_rfl) (by kernel_rfl) ?_ (Or.inl ⟨?_, ?_⟩) (by assumption) ?_
                      rotate_left 2
                      · simp only [List.getElem?_toArray, List.getElem?_cons_succ, List.getElem?_cons_zero] <;> rfl
                      · exact fun _ _ _ h => h
                      · rfl
                      · (intro w hSw; (try dsimp only at hSw); go_simp; try (with_reducible rfl))
                      try simp only [Act.put, List.setIfInBounds_toArray, List.set_cons_zero, List.set_cons_succ]
                      refine wpAnyH_take (i := 12) (oi := ?_) (v := ?_) ?_ (by kernel_rfl) (by kernel_rfl) (by kernel_rfl) ?_ (Or.inl ⟨?_, ?_⟩) (by assumption) ?_
                      rotate_left 2
                      · simp only [List.getElem?_toArray, List.getElem?_cons_succ, List.getElem?_cons_zero] <;> rfl
                      · exact fun _ _ _ h => h
                      · rfl
                      · (intro w hSw; (try dsimp only at hSw); go_simp; try (with_reducible rfl))
                      try simp only [Act.put, List.setIfInBounds_toArray, List.set_cons_zero, List.set_cons_succ]
                      refine wpAnyH_take (i := 13) (oi := ?_) (v := ?_) ?_ (by kernel_rfl) (by kernel_rfl) (by kernel_rfl) ?_ (Or.inl ⟨?_, ?_⟩) (by assumption) ?_
                      rotate_left 2
                      · simp only [List.getElem?_toArray, List.getElem?_cons_succ, List.getElem?_cons_zero] <;> rfl
                      · exact fun _ _ _ h => h
                      · rfl
                      · (intro w hSw; (try dsimp only at hSw); go_simp; try (with_reducible rfl))
                      try simp only [Act.put, List.setIfInBounds_toArray, List.set_cons_zero, List.set_cons_succ]
                      refine wpAnyH_take (i := 14) (oi := ?_) (v := ?_) ?_ (by kernel_rfl) (by kernel_rfl) (by kernel_rfl) ?_ (Or.inl ⟨?_, ?_⟩) (by assumption) ?_
                      rotate_left 2
                      · simp only [List.getElem?_toArray, List.getElem?_cons_succ, List.getElem?_cons_zero] <;> rfl
                      · exact fun _ _ _ h => h
                      · rfl
                      · (intro w hSw; (try dsimp only at hSw); go_simp; try (with_reducible rfl))
                      try simp only [Act.put, List.setIfInBounds_toArray, List.set_cons_zero, List.set_cons_succ]
                      refine wpAnyH_take (i := 15) (oi := ?_) (v := ?_) ?_ (by kernel_rfl) (by kernel_rfl) (by kernel_rfl) ?_ (Or.inl ⟨?_, ?_⟩) (by assumption) ?_
                      rotate_left 2
                      · simp only [List.getElem?_toArray, List.getElem?_cons_succ, List.getElem?_cons_zero] <;> rfl
                      · exact fun _ _ _ h => h
                      · rfl
                      · (intro w hSw; (try dsimp only at hSw); go_simp; try (with_reducible rfl))
                      try simp only [Act.put, List.setIfInBounds_toArray, List.set_cons_zero, List.set_cons_succ]
                      refine wpAnyH_take (i := 16) (oi := ?_) (v := ?_) ?_ (by kernel_rfl) (by kernel_rfl) (by kernel_rfl) ?_ (Or.inl ⟨?_, ?_⟩) (by assumption) ?_
                      rotate_left 2
                      · simp only [List.getElem?_toArray, List.getElem?_cons_succ, List.getElem?_cons_zero] <;> rfl
                      · exact fun _ _ _ h => h
                      · rfl
                      · (intro w hSw; (try dsimp only at hSw); go_simp; try (with_reducible rfl))
                      try simp only [Act.put, List.setIfInBounds_toArray, List.set_cons_zero, List.set_cons_succ]
                      refine wpAnyH_take (i := 17) (oi := ?_) (v := ?_) ?_ (by kernel_rfl) (by kernel_rfl) (by kernel_rfl) ?_ (Or.inl ⟨?_, ?_⟩) (by assumption) ?_
                      rotate_left 2
                      · simp only [List.getElem?_toArray, List.getElem?_cons_succ, List.getElem?_cons_zero] <;> rfl
                      · exact fun _ _ _ h => h
                      · rfl
                      · (intro w hSw; (try dsimp only at hSw); go_simp; try (with_reducible rfl))
                      try simp only [Act.put, List.setIfInBounds_toArray, List.set_cons_zero, List.set_cons_succ]
                      refine wpAnyH_take (i := 18) (oi := ?_) (v := ?_) ?_ (by kernel_rfl) (by kernel_rfl) (by kernel_rfl) ?_ (Or.inl ⟨?_, ?_⟩) (by assumption) ?_
                      rotate_left 2
                      · simp only [List.getElem?_toArray, List.getElem?_cons_succ, List.getElem?_cons_zero] <;> rfl
                      · exact fun _ _ _ h => h
                      · rfl
                      · (intro w hSw; (try dsimp only at hSw); go_simp; try (with_reducible rfl))
                      try simp only [Act.put, List.setIfInBounds_toArray, List.set_cons_zero, List.set_cons_succ]
                      refine wpAnyH_take (i := 19) (oi := ?_) (v := ?_) ?_ (by kernel_rfl) (by kernel_rfl) (by kernel_rfl) ?_ (Or.inl ⟨?_, ?_⟩) (by assumption) ?_
                      rotate_left 2
                      · simp only [List.getElem?_toArray, List.getElem?_cons_succ, List.getElem?_cons_zero] <;> rfl
                      · exact fun _ _ _ h => h
                      · rfl
                      · (intro w hSw; (try dsimp only at hSw); go_simp; try (with_reducible rfl))
                      try simp only [Act.put, List.setIfInBounds_toArray, List.set_cons_zero, List.set_cons_succ]
                      refine wpAnyH_take (i := 20) (oi := ?_) (v := ?_) ?_ (by kernel_rfl) (by kernel_rfl) (by kernel_rfl) ?_ (Or.inl ⟨?_, ?_⟩) (by assumption) ?_
                      rotate_left 2
                      · simp only [List.getElem?_toArray, List.getElem?_cons_succ, List.getElem?_cons_zero] <;> rfl
                      · exact fun _ _ _ h => h
                      · rfl
                      · (intro w hSw; (try dsimp only at hSw); go_simp; try (with_reducible rfl))
                      try simp only [Act.put, List.setIfInBounds_toArray, List.set_cons_zero, List.set_cons_succ]
                      refine wpAnyH_take (i := 21) (oi := ?_) (v := ?_) ?_ (by kernel_rfl) (by kernel_rfl) (by kernel_rfl) ?_ (Or.inl ⟨?_, ?_⟩) (by assumption) ?_
                      rotate_left 2
                      · simp only [List.getElem?_toArray, List.getElem?_cons_succ, List.getElem?_cons_zero] <;> rfl
                      · exact fun _ _ _ h => h
                      · rfl
                      · (intro w hSw; (try dsimp only at hSw); go_simp; try (with_reducible rfl))
                      try simp only [Act.put, List.setIfInBounds_toArray, List.set_cons_zero, List.set_cons_succ]
                      refine wpAnyH_take (i := 22) (oi := ?_) (v := ?_) ?_ (by kernel_rfl) (by kernel_rfl) (by kernel_rfl) ?_ (Or.inl ⟨?_, ?_⟩) (by assumption) ?_
                      rotate_left 2
                      · simp only [List.getElem?_toArray, List.getElem?_cons_succ, List.getElem?_cons_zero] <;> rfl
                      · exact fun _ _ _ h => h
                      · rfl
                      · (intro w hSw; (try dsimp only at hSw); go_simp; try (with_reducible rfl))
                      try simp only [Act.put, List.setIfInBounds_toArray, List.set_cons_zero, List.set_cons_succ]
                      refine wpAnyH_take (i := 23) (oi := ?_) (v := ?_) ?_ (by kernel_rfl) (by kernel_rfl) (by kernel_rfl) ?_ (Or.inl ⟨?_, ?_⟩) (by assumption) ?_
                      rotate_left 2
                      · simp only [List.getElem?_toArray, List.getElem?_cons_succ, List.getElem?_cons_zero] <;> rfl
                      · exact fun _ _ _ h => h
                      · rfl
                      · (intro w hSw; (try dsimp only at hSw); go_simp; try (with_reducible rfl))
                      try simp only [Act.put, List.setIfInBounds_toArray, List.set_cons_zero, List.set_cons_succ]
                      refine wpAnyH_take (i := 24) (oi := ?_) (v := ?_) ?_ (by kernel_rfl) (by kernel_rfl) (by kernel_rfl) ?_ (Or.inl ⟨?_, ?_⟩) (by assumption) ?_
                      rotate_left 2
                      · simp only [List.getElem?_toArray, List.getElem?_cons_succ, List.getElem?_cons_zero] <;> rfl
                      · exact fun _ _ _ h => h
                      · rfl
                      · (intro w hSw; (try dsimp only at hSw); go_simp; try (with_reducible rfl))
                      try simp only [Act.put, List.setIfInBounds_toArray, List.set_cons_zero, List.set_cons_succ]
                      refine wpAnyH_take (i := 25) (oi := ?_) (v := ?_) ?_ (by kernel_rfl) (by kernel_rfl) (by kernel_rfl) ?_ (Or.inl ⟨?_, ?_⟩) (by assumption) ?_
                      rotate_left 2
                      · simp only [List.getElem?_toArray, List.getElem?_cons_succ, List.getElem?_cons_zero] <;> rfl
                      · exact fun _ _ _ h => h
                      · rfl
                      · (intro w hSw; (try dsimp only at hSw); go_simp; try (with_reducible rfl))
                      try simp only [Act.put, List.setIfInBounds_toArray, List.set_cons_zero, List.set_cons_succ]
                      refine wpAnyH_take (i := 26) (oi := ?_) (v := ?_) ?_ (by kernel_rfl) (by kernel_rfl) (by kernel_rfl) ?_ (Or.inl ⟨?_, ?_⟩) (by assumption) ?_
                      rotate_left 2
                      · simp only [List.getElem?_toArray, List.getElem?_cons_succ, List.getElem?_cons_zero] <;> rfl
                      · exact fun _ _ _ h => h
                      · rfl
                      · (intro w hSw; (try dsimp only at hSw); go_simp; try (with_reducible rfl))
                      try simp only [Act.put, List.setIfInBounds_toArray, List.set_cons_zero, List.set_cons_succ]
                      refine wpAnyH_take (i := 27) (oi := ?_) (v := ?_) ?_ (by kernel_rfl) (by kernel_rfl) (by kernel_rfl) ?_ (Or.inl ⟨?_, ?_⟩) (by assumption) ?_
                      rotate_left 2
                      · simp only [List.getElem?_toArray, List.getElem?_cons_succ, List.getElem?_cons_zero] <;> rfl
                      · exact fun _ _ _ h => h
                      · rfl
                      · (intro w hSw; (try dsimp only at hSw); go_simp; try (with_reducible rfl))
                      try simp only [Act.put, List.setIfInBounds_toArray, List.set_cons_zero, List.set_cons_succ]
                      refine wpAnyH_take (i := 28) (oi := ?_) (v := ?_) ?_ (by kernel_rfl) (by kernel_rfl) (by kernel_rfl) ?_ (Or.inl ⟨?_, ?_⟩) (by assumption) ?_
                      rotate_left 2
                      · simp only [List.getElem?_toArray, List.getElem?_cons_succ, List.getElem?_cons_zero] <;> rfl
                      · exact fun _ _ _ h => h
                      · rfl
                      · (intro w hSw; (try dsimp only at hSw); go_simp; try (with_reducible rfl))
                      try simp only [Act.put, List.setIfInBounds_toArray, List.set_cons_zero, List.set_cons_succ]
                      refine wpAnyH_take (i := 29) (oi := ?_) (v := ?_) ?_ (by kernel_rfl) (by kernel_rfl) (by kernel_rfl) ?_ (Or.inl ⟨?_, ?_⟩) (by assumption) ?_
                      rotate_left 2
                      · simp only [List.getElem?_toArray, List.getElem?_cons_succ, List.getElem?_cons_zero] <;> rfl
                      · exact fun _ _ _ h => h
                      · rfl
                      · (intro w hSw; (try dsimp only at hSw); go_simp; try (with_reducible rfl))
                      try simp only [Act.put, List.setIfInBounds_toArray, List.set_cons_zero, List.set_cons_succ]
                      refine wpAnyH_take (i := 30) (oi := ?_) (v := ?_) ?_ (by kernel_rfl) (by kernel_rfl) (by kernel_rfl) ?_ (Or.inl ⟨?_, ?_⟩) (by assumption) ?_
                      rotate_left 2
                      · simp only [List.getElem?_toArray, List.getElem?_cons_succ, List.getElem?_cons_zero] <;> rfl
                      · exact fun _ _ _ h => h
                      · rfl
                      · (intro w hSw; (try dsimp only at hSw); go_simp; try (with_reducible rfl))
                      try simp only [Act.put, List.setIfInBounds_toArray, List.set_cons_zero, List.set_cons_succ]
                      refine wpAnyH_take (i := 31) (oi := ?_) (v := undef) ?_ (by kernel_rfl) (by kernel_rfl) (by kernel_rfl) ?_ (Or.inr ⟨?_, rfl⟩) (by assumption) ?_
                      rotate_left 1
                      · simp only [List.getElem?_toArray, List.getElem?_cons_succ, List.getElem?_cons_zero] <;> rfl
                      · exact fun _ _ _ h => h
                      · rfl
                      try simp only [Act.put, List.setIfInBounds_toArray, List.set_cons_zero, List.set_cons_succ]
                      refine wpAnyH_take (i := 32) (oi := ?_) (v := undef) ?_ (by kernel_rfl) (by kernel_rfl) (by kernel_rfl) ?_ (Or.inr ⟨?_, rfl⟩) (by assumption) ?_
                      rotate_left 1
                      · simp only [List.getElem?_toArray, List.getElem?_cons_succ, List.getElem?_cons_zero] <;> rfl
                      · exact fun _ _ _ h => h
                      · rfl
                      try simp only [Act.put, List.setIfInBounds_toArray, List.set_cons_zero, List.set_cons_succ]
                      refine wpAnyH_take (i := 33) (oi := ?_) (v := undef) ?_ (by kernel_rfl) (by kernel_rfl) (by kernel_rfl) ?_ (Or.inr ⟨?_, rfl⟩) (by assumption) ?_
                      rotate_left 1
                      · simp only [List.getElem?_toArray, List.getElem?_cons_succ, List.getElem?_cons_zero] <;> rfl
                      · exact fun _ _ _ h => h
                      · rfl
                      try simp only [Act.put, List.setIfInBounds_toArray, List.set_cons_zero, List.set_cons_succ]
                      refine wpAnyH_take (i := 34) (oi := ?_) (v := undef) ?_ (by kernel_rfl) (by kernel_rfl) (by kernel_rfl) ?_ (Or.inr ⟨?_, rfl⟩) (by assumption) ?_
                      rotate_left 1
                      · simp only [List.getElem?_toArray, List.getElem?_cons_succ, List.getElem?_cons_zero] <;> rfl
                      · exact fun _ _ _ h => h
                      · rfl
                      try simp only [Act.put, List.setIfInBounds_toArray, List.set_cons_zero, List.set_cons_succ]
                      refine wpAnyH_take (i := 35) (oi := ?_) (v := ?_) ?_ (by kernel_rfl) (by kernel_rfl) (by kernel_rfl) ?_ (Or.inl ⟨?_, ?_⟩) (by assumption) ?_
                      rotate_left 2
                      · simp only [List.getElem?_toArray, List.getElem?_cons_succ, List.getElem?_cons_zero] <;> rfl
                      · exact fun _ _ _ h => h
                      · rfl
                      · (intro w hSw; (try dsimp only at hSw); go_simp; try (with_reducible rfl))
                      try simp only [Act.put, List.setIfInBounds_toArray, List.set_cons_zero, List.set_cons_succ]
                      refine wpAnyH_take (i := 36) (oi := ?_) (v := ?_) ?_ (by kernel_rfl) (by kernel_rfl) (by kernel_rfl) ?_ (Or.inl ⟨?_, ?_⟩) (by assumption) ?_
                      rotate_left 2
                      · simp only [List.getElem?_toArray, List.getElem?_cons_succ, List.getElem?_cons_zero] <;> rfl
                      · exact fun _ _ _ h => h
                      · rfl
                      · (intro w hSw; (try dsimp only at hSw); go_simp; try (with_reducible rfl))
                      try simp only [Act.put, List.setIfInBounds_toArray, List.set_cons_zero, List.set_cons_succ]
                      refine wpAnyH_ready (rs := [37]) (by kernel_rfl) (by simp) ?_
                      refine AllReadyH.cons (o := _) (by simp only [List.getElem?_toArray, List.getElem?_cons_succ, List.getElem?_cons_zero] <;> rfl) (fun K hK => ?_) ?_
                      · go_simp
                        refine hK.out _ _ ?_ (fun hHeld => ?_)
                        · (try dsimp only)
                          first | exact HKS.out | go_keep
                        clear hK K
                        try simp only [Act.put, List.setIfInBounds_toArray, List.set_cons_zero, List.set_cons_succ]
                        refine wpAnyH_done (by kernel_rfl) ?_ _
                        go_wp2_with fail
                        have rc := HF.out.2.2.2
                        refine calm_ret2 (v := .bool true) rfl HF.out.2.1 HF.out.1 HM6.out.2.2.2.2 ?_ ⟨rfl, HF.out.2.2.1⟩
                        rw [results_cell1 rfl]
                        go_simp
                      exact AllReadyH.nil
                    exact AllReadyH.nil
                  · have hfc := HU6.out rfl
                    have hfd : decide (fr ≤ (c.toNat : Int)) = true := decide_eq_true hfc
                    go_region_held3 (fun W' => W'.cell? ⟨X, 0, none⟩ = some (.slice ax nL kx) ∧ W'.cell? ⟨X + 1, 0, none⟩ = some (.slice ay nL ky) ∧ W'.cell? ⟨B27, 0, none⟩ = some (.int .i64 s) ∧ W'.cell? ⟨B27, 1, none⟩ = some (.int .u32 g) ∧ W'.cell? ⟨B30, 0, none⟩ = some (.int .i64 s) ∧ W'.cell? ⟨B30, 1, none⟩ = some (.int .u32 g) ∧ (convert 57 9 (.slice ax nL kx)).run Try.prog W' = .ok (.string Z) W' ∧ (convert 57 9 (.slice ay nL ky)).run Try.prog W' = .ok (.string Z) W')
                      (first | exact HKS.out | go_keep)
                      (first
                        | (go_at_call 18
                           refine (HLn.out _ H8.out.1.fa.drew).mono ?_
                           rintro e w9 ⟨rfl, hw9⟩
                           replace hw9 := hw9.symm
                           subst hw9))
                    all_goals
                      go_wp2_with fail
                      have rc := HF.out.2.2.2
                      refine calm_ret2 (v := .bool true) rfl HF.out.2.1 HF.out.1 HM6.out.2.2.2.2 ?_ ⟨rfl, HF.out.2.2.1⟩
                      rw [results_cell1 rfl]
                      go_simp
                case stop2 =>
                  rintro D c pre W5 hD hS h hK
                  exact h.elim
              case stop =>
                rintro D c pre W5 hD hS h hK
                exact h.elim
end Go.Proofs.Ytiifogbdoajnoaa
