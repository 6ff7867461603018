/- The reference's row: Next and New. -/
import Derived.Test.YtiifogbdoajnoaaRefF2
import Derived.Laws.Cover1
import Derived.Laws.ResultCell
namespace Go.Proofs.Ytiifogbdoajnoaa
open Go.RowKit
set_option maxRecDepth 100000
set_option maxHeartbeats 2000000

theorem nextIx_upTo (f : Int) (m : Nat) (hm : (if f < 0 then (0 : Int) else f) = (m : Int)) (l : List En) : nextIx f l = upTo m l := by
  unfold nextIx upTo
  congr 1
  funext c
  have := c.toNat_lt
  rw [Bool.eq_iff_iff, decide_eq_true_iff, decide_eq_true_iff]
  split at hm <;> omega
theorem nextV_at {l : List En} (f : Int) {i : Nat} {x : En} (h : nextIx f l = i) (hx : l[i]? = some x) : nextV f l = .tuple #[.int .u8 (x.1.toNat : Int), refV x.2.1 x.2.2, .bool true] := by
  rw [nextV, h, hx]
theorem wrap_u8 (c : UInt8) : IntKind.u8.wrap (c.toNat : Int) = (c.toNat : Int) := by
  have := c.toNat_lt
  simp [IntKind.wrap, IntKind.bits, IntKind.signed] <;> omega
theorem rnext_any {W : World} {B : Nat} {l : List En} {room : Int} (h : RefAt W B l room) (hs : Srt l) (f : Int) :
    Calls Try.prog 26 #[.pointer (some ⟨B, 0, none⟩), .int .i64 f] W fun e w' => e = .returned (nextV f l) ∧ Below W.heap.size W w' := by
  obtain ⟨W0, hW0⟩ : ∃ W0, W0 = W.alloc (.cells #[.int .i64 0, .int .u32 0] 35) := ⟨_, rfl⟩
  have hB0 : Below W.heap.size W W0 := by rw [hW0]; exact Below.new (Below.refl _ _) _
  have hbox : Fresh W0 W.heap.size #[.int .i64 0, .int .u32 0] 35 := by rw [hW0]; exact Fresh.new _ _ _ _ rfl
  have h0 := h.below hB0
  obtain ⟨m, hm⟩ : ∃ m : Nat, (if f < 0 then (0 : Int) else f) = (m : Int) := ⟨(if f < 0 then (0 : Int) else f).toNat, by split <;> omega⟩
  have hX := nextIx_upTo f m hm l
  have HW0 := Lib.hid hW0
  have H := Lib.hid (And.intro h0 (And.intro hbox hB0))
  have HS := Lib.hid hs
  obtain ⟨V, hV⟩ : ∃ V, nextV f l = V := ⟨_, rfl⟩
  rw [hV]
  have HX := Lib.hid (And.intro hX hV)
  clear hW0 hbox hB0 h0 h hs hX hV
  go_enter Try.func26, Try.ntmps26
  go_wp2_with (rw [← HW0.out])
  go_loopw [7] (fun i wr => ∃ k : Nat, m ≤ k ∧ upTo k l = upTo m l ∧ i = .int .i64 (k : Int) ∧ Below W0.heap.size W0 wr) (fun i _ => 256 - (intOf i).toNat)
  case atStart => exact ⟨m, by omega, rfl, by first | rfl | (rw [hm]), Below.refl _ _⟩
  case round =>
    obtain ⟨k, hk, hu, rfl, hB⟩ := hrel
    have HB := Lib.hid hB
    have HU := Lib.hid hu
    clear hB hu
    by_cases hlt : k < 256
    · obtain ⟨c, rfl⟩ := byte_of hlt
      have il : (c.toNat : Int) < 256 := by omega
      have i0 : (0 : Int) ≤ (c.toNat : Int) := by omega
      have h1 := H.out.1.below HB.out
      have hc := h1.is c
      have hN := upTo_next c HS.out
      obtain ⟨u, hu⟩ : ∃ u, isIn c l = u := ⟨_, rfl⟩
      rw [hu] at hc hN
      have HUU := Lib.hid hu
      have HN := Lib.hid hN
      obtain ⟨s, g, hss, hgg, hat⟩ := h1.ref c
      have HA := Lib.hid hat
      have cw := wrap_u8 c
      obtain ⟨c0, c1, f0, f1⟩ := (H.out.2.1.below HB.out).box2
      clear hu hN h1 hat
      cases u
      · go_wp2_with fail
        go_roundw
        case rel => exact ⟨c.toNat + 1, by omega, by have := HN.out; rw [if_neg (by simp)] at this; exact this.trans HU.out, by go_num, HB.out⟩
        case measure => simp [intOf] <;> omega
      · have HV : Hid (V = .tuple #[.int .u8 (c.toNat : Int), refV s g, .bool true]) := by
          show V = _
          obtain ⟨s', g', ha, he⟩ := isIn_at HUU.out
          have e2 := HA.out HUU.out
          rw [he] at e2
          cases e2
          rw [← HX.out.2]
          exact nextV_at f (HX.out.1.trans HU.out.symm) ha
        go_upto_region 5 with fail
        go_region
        obtain ⟨W3, hW3⟩ : ∃ W3, W3 = ((wr.setCell ⟨W.heap.size, 0, none⟩ (.int .i64 s)).setCell ⟨W.heap.size, 1, none⟩ (.int .u32 g)).drew := ⟨_, rfl⟩
        have F3 : Fresh W3 W.heap.size #[.int .i64 s, .int .u32 g] 35 := by rw [hW3]; exact (((H.out.2.1.below HB.out).set 0 _).set 1 _).drew
        obtain ⟨g0, g1, _, _⟩ := F3.box2
        have B3 : Hid (Below W.heap.size W W3) := by
          show Below _ _ _
          rw [hW3]; exact (((Below.step H.out.2.2 HB.out).setCell (Nat.le_refl _) _).setCell (Nat.le_refl _) _).drew
        have HW3 := Lib.hid hW3
        clear hW3 F3
        go_wp2_with fail
        rw [← HW3.out, HV.out]
        refine bodyPost_ret (v := .tuple #[.int .u8 (c.toNat : Int), refV s g, .bool true]) ?_ rfl ⟨rfl, B3.out⟩
        rw [results_tmp_cell_tmp rfl]
        go_simp
    · have hl := upTo_all k (by omega) l
      have HV : Hid (V = .tuple #[.int .u8 0, refV 0 0, .bool false]) := by
        show V = _
        rw [← HX.out.2, nextV, HX.out.1, ← HU.out, hl, List.getElem?_eq_none (Nat.le_refl _)]
      obtain ⟨c0, c1, f0, f1⟩ := (H.out.2.1.below HB.out).box2
      clear hl
      go_wp2_with fail
      obtain ⟨W3, hW3⟩ : ∃ W3, W3 = (wr.setCell ⟨W.heap.size, 0, none⟩ (.int .i64 0)).setCell ⟨W.heap.size, 1, none⟩ (.int .u32 0) := ⟨_, rfl⟩
      have F3 : Fresh W3 W.heap.size #[.int .i64 0, .int .u32 0] 35 := by rw [hW3]; exact ((H.out.2.1.below HB.out).set 0 _).set 1 _
      obtain ⟨g0, g1, _, _⟩ := F3.box2
      have B3 : Below W.heap.size W W3 := by
        rw [hW3]; exact ((Below.step H.out.2.2 HB.out).setCell (Nat.le_refl _) _).setCell (Nat.le_refl _) _
      rw [← hW3]
      clear hW3 F3
      rw [HV.out]
      refine bodyPost_ret (v := .tuple #[.int .u8 0, refV 0 0, .bool false]) ?_ rfl ⟨rfl, B3⟩
      rw [results_tmp_cell_tmp rfl]
      go_simp

/-- The cells of a new row. -/
def rowR (r : Int) : Array Value := #[.int .i64 r] ++ Array.replicate 256 (.bool false) ++ (List.replicate 256 [Value.int .i64 0, Value.int .u32 0]).flatten.toArray
theorem rowR_room (r : Int) : (rowR r)[0]? = some (.int .i64 r) := by
  rw [rowR, Array.getElem?_append_left (by simp), Array.getElem?_append_left (by simp)]
  rfl
theorem rowR_is (r : Int) : ∀ j, j < 256 → (rowR r)[1 + j]? = some (.bool false) := by
  intro j hj
  have h1 : (#[Value.int .i64 r] ++ Array.replicate 256 (Value.bool false)).size = 257 := by simp
  rw [rowR, Array.getElem?_append_left (by rw [h1]; omega), Array.getElem?_append_right (by simp)]
  simp [hj]
theorem flat_pair (x y : Value) : ∀ n j, j < n → (List.replicate n [x, y]).flatten[j * 2]? = some x ∧ (List.replicate n [x, y]).flatten[j * 2 + 1]? = some y
  | 0, j, h => by omega
  | n + 1, 0, _ => by simp [List.replicate_succ]
  | n + 1, j + 1, h => by
    have := flat_pair x y n j (by omega)
    rw [List.replicate_succ, List.flatten_cons, show (j + 1) * 2 = (j * 2) + 2 from by omega, show (j * 2) + 2 + 1 = (j * 2 + 1) + 2 from by omega]
    exact this
theorem rowR_ref (r : Int) (j : Nat) (hj : j < 256) : (rowR r)[257 + j * 2]? = some (.int .i64 0) ∧ (rowR r)[257 + j * 2 + 1]? = some (.int .u32 0) := by
  have h1 : (#[Value.int .i64 r] ++ Array.replicate 256 (Value.bool false)).size = 257 := by simp
  obtain ⟨a, b⟩ := flat_pair (.int .i64 0) (.int .u32 0) 256 j hj
  unfold rowR
  rw [Array.getElem?_append_right (by rw [h1]; omega), Array.getElem?_append_right (by rw [h1]; omega), h1]
  rw [show 257 + j * 2 - 257 = j * 2 from by omega, show 257 + j * 2 + 1 - 257 = j * 2 + 1 from by omega]
  exact ⟨by simpa using a, by simpa using b⟩
theorem rowR_at {W : World} {B : Nat} {T : TypeId} (r : Int) (h : Fresh W B (rowR r) T) : RefAt W B [] r where
  room := (h.cell 0).trans (rowR_room r)
  is c := (h.cell _).trans (rowR_is r _ c.toNat_lt)
  ref c := ⟨0, 0, (h.cell _).trans (rowR_ref r _ c.toNat_lt).1, (h.cell _).trans (rowR_ref r _ c.toNat_lt).2, fun h => by simp [isIn, placeIx, firstIx] at h⟩
  thaw j _ := h.thawed j
theorem rowR_zero (W : World) : (zeroValue 71).run Try.prog W = .ok (.agg (rowR 0)) W := by
  kernel_rfl
theorem rowR_set (r : Int) : (rowR 0).setIfInBounds 0 (.int .i64 r) = rowR r := by
  unfold rowR
  simp only [Array.append_assoc]
  rw [Array.setIfInBounds_append_left (by simp)]
  rfl
theorem rowR_ne : ¬ rowR 0 = #[] := fun h => by
  have := rowR_room 0
  rw [h] at this
  cases this
theorem rnew_any (r : Int) (w : World) :
    Calls Try.prog 9 #[.int .i64 r] w fun e w' => e = .returned (.tuple #[.pointer (some ⟨w.heap.size, 0, none⟩), .bool (decide (r = 48 ∨ r = 256))]) ∧ Below w.heap.size w w' ∧ RefAt w' w.heap.size [] r := by
  have hz := rowR_zero
  have hs := rowR_set r
  have hn := rowR_ne
  obtain ⟨zs, hzs⟩ : ∃ zs, rowR 0 = zs := ⟨_, rfl⟩
  rw [hzs] at hs hn
  simp only [hzs] at hz
  obtain ⟨cs, hcs⟩ : ∃ cs, rowR r = cs := ⟨_, rfl⟩
  have HC := Lib.hid hcs
  rw [hcs] at hs
  clear hcs hzs
  have FIN : Hid (Below w.heap.size w (w.alloc (.cells cs 71)) ∧ RefAt (w.alloc (.cells cs 71)) w.heap.size [] r) :=
    Lib.hid ⟨Below.new (Below.refl _ _) _, rowR_at r (by rw [HC.out]; exact Fresh.new _ _ _ _ rfl)⟩
  by_cases h4 : r = 48
  · subst h4
    go_enter Try.func9, Try.ntmps9
    go_wp2_with fail
    go_ret2
    exact ⟨rfl, FIN.out⟩
  · have q4 : (r == 48) = false := by simpa using h4
    cases h16 : decide (r = 256)
    · have q16 : (r == 256) = false := by simpa using h16
      have HE : Hid (decide (r = 48 ∨ r = 256) = false) := by
        show _ = _
        simp_all
      rw [HE.out]
      clear h4 h16
      go_enter Try.func9, Try.ntmps9
      go_wp2_with fail
      go_ret2
      exact ⟨rfl, FIN.out⟩
    · have h16 := of_decide_eq_true h16
      subst h16
      go_enter Try.func9, Try.ntmps9
      go_wp2_with fail
      go_ret2
      exact ⟨rfl, FIN.out⟩
end Go.Proofs.Ytiifogbdoajnoaa
