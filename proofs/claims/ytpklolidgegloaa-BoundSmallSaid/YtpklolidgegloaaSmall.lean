/- The walk of BoundSmall. -/
import Derived.Test.YtpklolidgegloaaBTells
import Derived.Maps.AppendAt
namespace Go.Proofs.Ytpklolidgegloaa
open Go.RowKit
set_option maxRecDepth 100000

/-- A block of the call's own, known whole. -/
def Fresh (W : World) (p : Nat) (cs : Array Value) (t : TypeId) : Prop := W.heap[p]? = some (.cells cs t (0, 0))
theorem Fresh.new (W : World) (p : Nat) (cs : Array Value) (t : TypeId) (hp : W.heap.size = p) : Fresh (W.alloc (.cells cs t)) p cs t := by subst hp; exact World.alloc_heap_new W _
theorem Fresh.lt {W : World} {p : Nat} {cs : Array Value} {t : TypeId} (h : Fresh W p cs t) : p < W.heap.size := (Array.getElem?_eq_some_iff.1 h).1
theorem Fresh.below {W W' : World} {p : Nat} {cs : Array Value} {t : TypeId} (h : Fresh W p cs t) (hb : Below W.heap.size W W') : Fresh W' p cs t := (hb.block p h.lt).trans h
theorem Fresh.alloc {W : World} {p : Nat} {cs : Array Value} {t : TypeId} (h : Fresh W p cs t) (o : Obj) : Fresh (W.alloc o) p cs t := h.below ((Below.refl _ _).alloc (Nat.le_refl _) o)
theorem Fresh.drew {W : World} {p : Nat} {cs : Array Value} {t : TypeId} (h : Fresh W p cs t) : Fresh W.drew p cs t := h
theorem Fresh.cell {W : World} {p : Nat} {cs : Array Value} {t : TypeId} (h : Fresh W p cs t) (i : Nat) : W.cell? ⟨p, i, none⟩ = cs[i]? := by simp [World.cell?, show W.heap[p]? = _ from h]

theorem fresh_strs {W : World} {p : Nat} {ys : List ByteArray} (h : Fresh W p (strVals ys).toArray 9) (n : Nat) (hn : ys.length = n) (hs : n ≤ 1000) (hz : ∀ s ∈ ys, s.size ≤ maxLen) : IsStrs W (some ⟨p, 0, none⟩) n n ys := by
  refine .inr ⟨_, rfl, Nat.le_refl _, by unfold maxLen; omega, hn, fun i hi => ?_, hz⟩
  rw [Addr.add_lit, Nat.zero_add, h.cell i]
  simp [strVals, List.getElem?_map, List.getElem?_eq_getElem hi, List.getD_eq_getElem?_getD]

theorem bl_empty (m : ByteArray) : bl m.data.toList (⟨#[]⟩ : ByteArray).data.toList = false := bl_nil _
theorem max3_any (a b : ByteArray) (p : Nat) (W : World) (ha : a.size ≤ maxLen) (hb : b.size ≤ maxLen) (h : Fresh W p #[.string a, .string b, .string ⟨#[]⟩] 9) :
    Calls Try.prog 10 #[.slice (some ⟨p, 0, none⟩) 3 3] W fun e w' => e = .returned (.string (maxL [a, b])) ∧ Below W.heap.size W w' := by
  have e : maxL [a, b, ⟨#[]⟩] = maxL [a, b] := by
    show (if bl (maxL [a, b]).data.toList _ then _ else maxL [a, b]) = _
    rw [bl_empty]; rfl
  rw [← e]
  exact max_any _ _ _ [a, b, ⟨#[]⟩] W (fresh_strs (ys := [a, b, ⟨#[]⟩]) h 3 rfl (by omega) (by intro s hs; simp at hs; rcases hs with rfl | rfl | rfl <;> first | assumption | exact Nat.zero_le _)) (by omega)
theorem rmax2_any (a b : ByteArray) (p : Nat) (W : World) (ha : a.size ≤ maxLen) (hb : b.size ≤ maxLen) (h : Fresh W p #[.string a, .string b] 9) :
    Calls Try.prog 11 #[.slice (some ⟨p, 0, none⟩) 2 2] W fun e w' => e = .returned (.string (maxL [a, b])) ∧ Below W.heap.size W w' :=
  rmax_any _ _ _ [a, b] W (fresh_strs (ys := [a, b]) h 2 rfl (by omega) (by intro s hs; simp at hs; rcases hs with rfl | rfl <;> assumption)) (by omega)

theorem own_view {w : World} {B n : Nat} {v : Value} {ys : List ByteArray} (h : w.ownsRow B 9 1 v n (strVals ys)) (hz : ∀ s ∈ ys, s.size ≤ maxLen) : ∃ ao cap, v = .slice ao n cap ∧ IsStrs w ao n cap ys := by
  obtain ⟨h1, h2⟩ := id h
  have hl : ys.length = n := by simpa [strVals] using h1
  rcases h2 with ⟨rfl, rfl⟩ | ⟨g, cap, cur, rfl, _, _, hc1, hc2, _⟩
  · exact ⟨none, 0, rfl, .inl ⟨rfl, rfl, rfl, List.eq_nil_of_length_eq_zero hl⟩⟩
  · refine ⟨_, cap, rfl, .inr ⟨_, rfl, hc1, hc2, hl, fun i hi => ?_, hz⟩⟩
    rw [Addr.add_lit, Nat.zero_add, h.cellAt i (by omega)]
    simp [strVals, List.getElem?_map, List.getElem?_eq_getElem hi, List.getD_eq_getElem?_getD]

/-- The lengths at which texts are cut. -/
def cutVals : Array Value := #[.int .i64 (-9223372036854775808), .int .i64 (-1), .int .i64 0, .int .i64 1, .int .i64 2, .int .i64 3, .int .i64 4, .int .i64 9223372036854775807]
theorem cutVals_at (q : Nat) (h : q < 8) : ∃ z : Int, cutVals[q]? = some (.int .i64 z) := by
  match q, h with
  | 0, _ => exact ⟨_, rfl⟩
  | 1, _ => exact ⟨_, rfl⟩
  | 2, _ => exact ⟨_, rfl⟩
  | 3, _ => exact ⟨_, rfl⟩
  | 4, _ => exact ⟨_, rfl⟩
  | 5, _ => exact ⟨_, rfl⟩
  | 6, _ => exact ⟨_, rfl⟩
  | 7, _ => exact ⟨_, rfl⟩

/-- What the loops that build the list keep. -/
def Built (w wr : World) (v : Value) (m : Nat) : Prop := ∃ k ys, k ≤ m ∧ wr.ownsRow w.heap.size 9 1 v k (strVals ys) ∧ (∀ s ∈ ys, s.size ≤ 3) ∧ Below w.heap.size w wr
theorem Built.step {w wr w1 : World} {v v' : Value} {m k : Nat} {ys : List ByteArray} {x : ByteArray} {o : Obj} (hk : k ≤ m) (hys : ∀ s ∈ ys, s.size ≤ 3) (hB : Below w.heap.size w wr) (hx : x.size ≤ 3)
    (hv : wr.ownsRow w.heap.size 9 1 v k (strVals ys)) (hown : w1.ownsRow w.heap.size 9 1 v' (k + 1) (strVals ys ++ [.string x])) (hg : (wr.alloc o).grownBy w1 v.ownBlock) : Built w w1 v' (m + 1) := by
  refine ⟨k + 1, ys ++ [x], by omega, by simpa [strVals] using hown, ?_, ?_⟩
  · intro s hs
    rcases List.mem_append.1 hs with h | h
    · exact hys s h
    · rw [List.mem_singleton.1 h]; exact hx
  · exact (Below.new hB o).grown hg (by have := hB.size; simp; omega) (fun j hj => (hv.lt j hj).1)

theorem Built.drewN {w wr : World} {v : Value} {m : Nat} (h : Built w wr v m) (q : Nat) : Built w (wr.drewN q) v m := by
  obtain ⟨k, ys, h1, h2, h3, h4⟩ := h
  exact ⟨k, ys, h1, own_below h2 (below_drewN (Below.refl _ _) q), h3, below_drewN h4 q⟩

set_option maxHeartbeats 4000000 in
theorem small_walk (w : World) : Calls Try.prog 4 #[] w fun e w' => e = .returned (.bool true) ∧ Below w.heap.size w w' := by
  obtain ⟨i0, hi, hz0, hz1, hz2⟩ := info_parts infoS
  go_enter Try.func4, Try.ntmps4
  go_wp2_with fail
  go_loopw [2, 3] (fun v i wr => ∃ n : Nat, n ≤ 64 ∧ i = .int .i64 n ∧ Built w wr v (4 * n)) (fun _ i _ => 64 - (intOf i).toNat)
  case atStart => exact ⟨0, by omega, rfl, 0, [], by omega, World.ownsRow_nil _ _ _ _, by simp, Below.refl _ _⟩
  case round =>
    obtain ⟨n, hn, rfl, HB⟩ := hrel
    obtain ⟨wo, hwo⟩ : ∃ wo : World, wo = wr := ⟨_, rfl⟩
    rw [← hwo] at HB ⊢
    clear hwo
    by_cases hlt : n < 64
    · have nl : (n : Int) < 64 := by omega
      have n0 : (0 : Int) ≤ (n : Int) % 4 := by omega
      have n1 : (n : Int) % 4 + 1 ≤ 4 := by omega
      have n2 : (0 : Int) ≤ (n : Int) / 4 % 4 := by omega
      have n3 : (n : Int) / 4 % 4 + 1 ≤ 4 := by omega
      have n4 : (0 : Int) ≤ (n : Int) / 16 := by omega
      have n5 : (n : Int) / 16 + 1 ≤ 4 := by omega
      have n6 : (0 : Int) ≤ (n : Int) / 4 := by omega
      go_wp2_with fail
      go_quiet (fail)
      go_wp2_with fail
      rename_i nq
      generalize hx : ((⟨#[0, 97, 254, 255]⟩ : ByteArray).extract (n % 4) (n % 4 + 1) ++ (⟨#[0, 97, 254, 255]⟩ : ByteArray).extract (n / 4 % 4) (n / 4 % 4 + 1) ++ (⟨#[0, 97, 254, 255]⟩ : ByteArray).extract (n / 16) (n / 16 + 1)) = x
      have hxs : x.size = 3 := by
        have e : (⟨#[0, 97, 254, 255]⟩ : ByteArray).size = 4 := rfl
        rw [← hx, append_size, append_size]; simp [e]; omega
      clear hx
      have HBq := HB.drewN nq
      generalize wo.drewN nq = W at *
      clear HB
      go_loopw [2, 5] (fun v i wr => ∃ k : Nat, k ≤ 4 ∧ i = .int .i64 k ∧ Built w wr v (4 * n + k)) (fun _ i _ => 4 - (intOf i).toNat)
      case atStart => exact ⟨0, by omega, rfl, HBq⟩
      case round =>
        obtain ⟨k, hk, rfl, HB⟩ := hrel
        clear HBq
        by_cases hlk : k < 4
        · obtain ⟨m, ys, hm, hown, hys, hB⟩ := HB
          have hsz := hB.size
          have hxk : (x.extract 0 k).size ≤ 3 := by simp; omega
          have k0 : (0 : Int) ≤ (k : Int) := by omega
          have k1 : (k : Int) ≤ (x.size : Int) := by omega
          go_wp2_with (at_builtin; refine wpList_append_own _ rfl (.tmp 42) (.tmp 46) 22 rfl w.heap.size 9 i0 (.string ⟨#[]⟩) 1 16 Try.underlying22 hi hz0 hz1 hz2 rfl (by omega) u2 m (strVals ys) rfl (hown.alloc _) ⟨wr.heap.size, 0, none⟩ 1 1 [.string (x.extract 0 k)] rfl rfl (cell_one_new _ _ _) (by intro u hu; simp at hu; subst hu; rfl) (by unfold maxLen; omega) (by omega) (by simp; omega) ?_)
          intro v' w1 hown' hgrow _
          have R := Built.step hm hys hB hxk hown hown' hgrow
          clear hown' hgrow hown hB hsz
          go_wp2
          go_roundw
          case rel => exact ⟨k + 1, by omega, by go_num, R⟩
          case measure => simp [intOf]; omega
        · obtain rfl : k = 4 := by omega
          go_wp2_with fail
          go_roundw
          case rel => exact ⟨n + 1, by omega, by go_num, HB⟩
          case measure => simp [intOf]; omega
    · obtain rfl : n = 64 := by omega
      rw [show ((64 : Nat) : Int) = 64 from rfl]
      obtain ⟨m, ys, hm, hown, hys, hB⟩ := HB
      go_wp2_with fail
      obtain ⟨WC, hWC⟩ : ∃ WC, WC = wo.alloc (.cells cutVals 3) := ⟨_, rfl⟩
      have FC : Fresh WC wo.heap.size cutVals 3 := by rw [hWC]; exact Fresh.new _ _ _ _ rfl
      have hBC : Below w.heap.size w WC := by rw [hWC]; exact Below.new hB _
      have hbc : Below wo.heap.size wo WC := by rw [hWC]; exact (Below.refl _ _).alloc (Nat.le_refl _) _
      obtain ⟨ao, cap, rfl, IS0⟩ := own_view hown (fun s hs => Nat.le_trans (hys s hs) (by decide))
      have IS := Lib.hid (IS0.kept hbc)
      have HY := Lib.hid hys
      have HF := Lib.hid FC
      rw [show wo.alloc (.cells #[.int .i64 (-9223372036854775808), .int .i64 (-1), .int .i64 0, .int .i64 1, .int .i64 2, .int .i64 3, .int .i64 4, .int .i64 9223372036854775807] 3) = WC from hWC.symm]
      clear hWC hown IS0 hys FC hB hbc
      have hm3 : m ≤ 256 := by omega
      clear hm
      go_loopw [7] (fun i wr => ∃ a : Nat, a ≤ m ∧ i = .int .i64 a ∧ Below WC.heap.size WC wr) (fun i _ => m - (intOf i).toNat)
      case atStart => exact ⟨0, by omega, rfl, Below.refl _ _⟩
      case round =>
        obtain ⟨a, ha, rfl, hBa⟩ := hrel
        obtain ⟨wp, hwp⟩ : ∃ wp : World, wp = wr := ⟨_, rfl⟩
        rw [← hwp] at hBa ⊢
        clear hwp
        by_cases hlt : a < m
        · have al : (a : Int) < (m : Int) := by omega
          have al2 : decide (a < m) = true := by simpa using hlt
          go_wp2_with fail
          go_loopw [8] (fun i wr => ∃ c : Nat, c ≤ m ∧ i = .int .i64 c ∧ Below WC.heap.size WC wr) (fun i _ => m - (intOf i).toNat)
          case atStart => exact ⟨0, by omega, rfl, hBa⟩
          case round =>
            obtain ⟨c, hc, rfl, hBq⟩ := hrel
            clear hBa
            by_cases hlc : c < m
            · obtain ⟨g, off, rfl, hg, hcell⟩ := IS.out.at (by omega)
              have hgq : g < wr.heap.size := Nat.lt_of_lt_of_le hg hBq.size
              have hwq : wo.heap.size < wr.heap.size := Nat.lt_of_lt_of_le HF.out.lt hBq.size
              have HXa := hcell a hlt
              have HXc := hcell c hlc
              have za : Hid ((ys.getD a ByteArray.empty).size ≤ 3) := HY.out _ (getD_mem' _ _ (by rw [IS.out.length]; exact hlt))
              have zc : Hid ((ys.getD c ByteArray.empty).size ≤ 3) := HY.out _ (getD_mem' _ _ (by rw [IS.out.length]; exact hlc))
              obtain ⟨q, hq⟩ : ∃ q, q = (a + c) % 8 := ⟨_, rfl⟩
              have hq8 : q < 8 := by omega
              have w1 : IntKind.i64.wrap ((a : Int) + (c : Int)) = (a : Int) + (c : Int) := IntWalk.i64_in _ (by omega)
              have w2 : ((a : Int) + (c : Int)).tmod 8 = (q : Int) := by rw [Int.tmod_eq_emod_of_nonneg (by omega)]; omega
              clear hq
              obtain ⟨z, hz⟩ := cutVals_at q hq8
              have HXz : WC.cell? ⟨wo.heap.size, q, none⟩ = some (.int .i64 z) := by rw [HF.out.cell]; exact hz
              rw [← hBq.cell (p := ⟨g, off + a, none⟩) hg] at HXa
              rw [← hBq.cell (p := ⟨g, off + c, none⟩) hg] at HXc
              rw [← hBq.cell (p := ⟨wo.heap.size, q, none⟩) HF.out.lt] at HXz
              generalize ys.getD a ByteArray.empty = xa at *
              generalize ys.getD c ByteArray.empty = xc at *
              have KS : Hid (∀ W, Below wr.heap.size wr W → W.cell? ⟨g, off + a, none⟩ = some (.string xa) ∧ W.cell? ⟨g, off + c, none⟩ = some (.string xc) ∧ W.cell? ⟨wo.heap.size, q, none⟩ = some (.int .i64 z)) := fun W hW =>
                ⟨(hW.cell (p := ⟨g, off + a, none⟩) hgq).trans HXa, (hW.cell (p := ⟨g, off + c, none⟩) hgq).trans HXc, (hW.cell (p := ⟨wo.heap.size, q, none⟩) hwq).trans HXz⟩
              have ya : Hid (xa.size ≤ 1000) := Nat.le_trans za.out (by decide)
              have yc : Hid (xc.size ≤ 1000) := Nat.le_trans zc.out (by decide)
              have va : Hid (xa.size ≤ maxLen) := Nat.le_trans za.out (by decide)
              have vc : Hid (xc.size ≤ maxLen) := Nat.le_trans zc.out (by decide)
              have BD : Hid (Below wr.heap.size wr wr.drew) := (Below.refl _ _).drew
              clear hcell hz za zc
              obtain ⟨mx, hmx⟩ : ∃ mx, maxL [xa, xc] = mx := ⟨_, rfl⟩
              have HM := Lib.hid hmx
              clear hmx
              have a0 : (0 : Int) ≤ (a : Int) := by omega
              have a1 : (a : Int) < (m : Int) := by omega
              have c0 : (0 : Int) ≤ (c : Int) := by omega
              have c1 : (c : Int) < (m : Int) := by omega
              have d0 : (0 : Int) ≤ (q : Int) := by omega
              have d1 : (q : Int) < 8 := by omega
              have W1 := Lib.hid w1
              have W2 := Lib.hid w2
              clear w1 w2
              go_wp2_with fail
              have w1 := W1.out
              have w2 := W2.out
              go_region_held3 (fun W => W.cell? ⟨g, off + a, none⟩ = some (.string xa) ∧ W.cell? ⟨g, off + c, none⟩ = some (.string xc) ∧ W.cell? ⟨wo.heap.size, q, none⟩ = some (.int .i64 z))
                (first | go_keep | exact KS.out _ hqM | exact KS.out _ hqR | exact KS.out _ hqT)
                (first
                  | (go_at_call 9
                     refine (tells_any xa xc z _ ya.out yc.out).mono ?_
                     rintro e wT ⟨rfl, hbT⟩
                     have hqT : Below wr.heap.size wr wT := Below.step BD.out hbT)
                  | (go_at_call 10
                     refine (max3_any xa xc _ _ va.out vc.out ?_).mono ?_
                     · first
                       | exact Fresh.new _ _ _ _ rfl
                       | exact (Fresh.new _ _ _ _ rfl).alloc _
                       | exact Fresh.new _ _ _ _ (by simp)
                       | exact ((Fresh.new _ _ _ _ rfl).alloc _).below hbR
                       | exact (Fresh.new _ _ _ _ (by simp)).below hbR
                     rw [HM.out]
                     rintro e wM ⟨rfl, hbM⟩
                     have hqM : Below wr.heap.size wr wM := by
                       first
                       | exact Below.step hqR hbM
                       | exact Below.step (Below.new hqR _) hbM
                       | exact Below.step (Below.new hqT _) hbM
                       | exact Below.step (Below.new (Below.new hqT _) _) hbM)
                  | (go_at_call 11
                     refine (rmax2_any xa xc _ _ va.out vc.out ?_).mono ?_
                     · first
                       | exact Fresh.new _ _ _ _ rfl
                       | exact (Fresh.new _ _ _ _ rfl).alloc _
                       | exact Fresh.new _ _ _ _ (by simp)
                       | exact ((Fresh.new _ _ _ _ rfl).alloc _).below hbM
                       | exact (Fresh.new _ _ _ _ (by simp)).below hbM
                     rw [HM.out]
                     rintro e wR ⟨rfl, hbR⟩
                     have hqR : Below wr.heap.size wr wR := by
                       first
                       | exact Below.step hqM hbR
                       | exact Below.step (Below.new hqM _) hbR
                       | exact Below.step (Below.new hqT _) hbR
                       | exact Below.step (Below.new (Below.new hqT _) _) hbR))
              all_goals
                have hend : ∀ W, Below wr.heap.size wr W → Below WC.heap.size WC W := fun W hW => hBq.trans (hW.mono hBq.size)
                have HE := Lib.hid hend
                clear hend
                go_wp2_with fail
                go_roundw
                case rel => exact ⟨c + 1, by omega, by go_num, by first | exact HE.out _ hqR | exact HE.out _ hqM⟩
                case measure => simp [intOf]; omega
            · obtain rfl : c = m := by omega
              go_wp2_with fail
              go_roundw
              case rel => exact ⟨a + 1, by omega, by go_num, hBq⟩
              case measure => simp [intOf]; omega
        · obtain rfl : a = m := by omega
          have n0 : Hid (IsStrs wp none 0 0 []) := .inl ⟨rfl, rfl, rfl, rfl⟩
          go_wp2_with fail
          refine (max_any none 0 0 [] _ n0.out (by decide)).mono ?_
          rw [show maxL [] = ⟨#[]⟩ from rfl]
          rintro e w1 ⟨rfl, hb1⟩
          go_wp2_with fail
          refine (awake_any _).mono ?_
          rintro e w2 ⟨rfl, hb2⟩
          go_wp2_with fail
          go_ret
          exact ⟨rfl, Below.step (Below.step (Below.step hBC hBa) hb1) hb2⟩

end Go.Proofs.Ytpklolidgegloaa
