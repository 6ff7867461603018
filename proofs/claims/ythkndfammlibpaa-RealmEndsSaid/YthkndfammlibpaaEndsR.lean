/- The walk of the law RealmEnds. -/
import Derived.Test.YthkndfammlibpaaRTells
import Derived.BigRegion
import Derived.Deep.DeepCutAuto
import Derived.Lib.ConvBytes
import Derived.Laws.IdiomStrings
namespace Go.Proofs.Ythkndfammlibpaa
open Go.RowKit
set_option maxRecDepth 100000
set_option maxHeartbeats 2000000

/-- The law's two tables lie behind w. -/
structure Tab (w W : World) : Prop where
  ints : ∀ i, i < 10 → ∃ z : Int, W.cell? ⟨w.heap.size, i, none⟩ = some (.int .i64 z)
  keys : ∀ k, k < 6 → ∃ s : ByteArray, s.size ≤ 17 ∧ W.cell? ⟨w.heap.size + 1, k, none⟩ = some (.string s)
  size : w.heap.size + 2 ≤ W.heap.size
  below : Below w.heap.size w W
theorem Tab.next {w W W' : World} (h : Tab w W) (hb : Below W.heap.size W W') : Tab w W' where
  ints i hi := by
    obtain ⟨z, hz⟩ := h.ints i hi
    exact ⟨z, (hb.cell (p := ⟨w.heap.size, i, none⟩) (by have := h.size; simp; omega)).trans hz⟩
  keys k hk := by
    obtain ⟨s, hs, hz⟩ := h.keys k hk
    exact ⟨s, hs, (hb.cell (p := ⟨w.heap.size + 1, k, none⟩) (by have := h.size; simp; omega)).trans hz⟩
  size := Nat.le_trans h.size hb.size
  below := h.below.trans (hb.mono h.below.size)
theorem tab_mk (w : World) (E K : Array Value) (T U : TypeId) (hE : ∀ i, i < 10 → ∃ z : Int, E[i]? = some (.int .i64 z)) (hK : ∀ k, k < 6 → ∃ s : ByteArray, s.size ≤ 17 ∧ K[k]? = some (.string s)) :
    Tab w ((w.alloc (.cells E T)).alloc (.cells K U)) where
  ints i hi := by
    obtain ⟨z, hz⟩ := hE i hi
    exact ⟨z, (((Fresh.new w w.heap.size E T rfl).alloc _).cell i).trans hz⟩
  keys k hk := by
    obtain ⟨s, hs, hz⟩ := hK k hk
    exact ⟨s, hs, ((Fresh.new _ _ K U (by simp)).cell k).trans hz⟩
  size := by simp
  below := Below.new (Below.new (Below.refl _ _) _) _

theorem u8_some (W : World) (p : Addr) (z : Int) (h : 0 ≤ z ∧ z < 256) : ∃ d : UInt8, W.setCell p (.int .u8 z) = W.setCell p (.int .u8 (d.toNat : Int)) :=
  ⟨UInt8.ofNat z.toNat, by
    rw [UInt8.toNat_ofNat', Nat.mod_eq_of_lt (by omega)]
    congr 2; omega⟩

/-- The bytes of a text lie in a row. -/
structure ByteRow (W : World) (p : Nat) (l : List UInt8) : Prop where
  cell : ∀ j (hj : j < l.length), W.cell? ⟨p, j, none⟩ = some (.int .u8 (l[j].toNat : Int))
  thaw : ∀ j, j < l.length → W.frozen? ⟨p, j, none⟩ = false
  lt : p < W.heap.size
theorem bw_below (w : World) (e : TypeId) (s : ByteArray) : Below w.heap.size w (Lib.bytesWorld w e s) :=
  ⟨rfl, rfl, rfl, by rw [Lib.bytesWorld_size]; omega, fun k hk => Lib.bytesWorld_at_old w e s k hk⟩
theorem row_bytes (w : World) (e : TypeId) (s : ByteArray) : ByteRow (Lib.bytesWorld w e s) w.heap.size s.data.toList where
  cell j hj := by
    rw [Lib.bytesWorld_cell w e s j (by rw [← length_list]; exact hj)]
    simp [List.getD, List.getElem?_eq_getElem hj]
  thaw j hj := by
    rw [length_list] at hj
    have : j < (Lib.bytesCells w e s).size := by simp [Lib.bytesCells]; omega
    simp [World.frozen?, Lib.bytesWorld_at_new]
    omega
  lt := by rw [Lib.bytesWorld_size]; omega
theorem flip_any {P : Program} (c : UInt8) (n : Nat) : ∃ (m : Int) (d : UInt8), (∀ w, (Op.shift .shl .u8 1 .i64 (n : Int)).run P w = .ok (.int .u8 m) w) ∧ bits .xor .u8 (c.toNat : Int) (m.tmod 8) = (d.toNat : Int) := by
  have h0 : ¬ ((n : Int) < 0) := by omega
  refine ⟨IntKind.u8.wrap (1 * 2 ^ min (n : Int).toNat IntKind.u8.bits), UInt8.ofNat (bits .xor .u8 (c.toNat : Int) ((IntKind.u8.wrap (1 * 2 ^ min (n : Int).toNat IntKind.u8.bits)).tmod 8)).toNat, fun w => ?_, ?_⟩
  · simp only [Op.shift, if_neg h0]; rfl
  · have h1 : ∀ x : Int, 0 ≤ IntKind.u8.wrap x ∧ IntKind.u8.wrap x < 256 := fun x => by
      simp [IntKind.wrap, IntKind.bits, IntKind.signed]; omega
    have h2 : ∀ y : Int, 0 ≤ bits .xor .u8 (c.toNat : Int) y ∧ bits .xor .u8 (c.toNat : Int) y < 256 := fun y => h1 _
    have h3 := h2 ((IntKind.u8.wrap (1 * 2 ^ min (n : Int).toNat IntKind.u8.bits)).tmod 8)
    rw [UInt8.toNat_ofNat', Nat.mod_eq_of_lt (by omega), Int.toNat_of_nonneg h3.1]
theorem ByteRow.set {W : World} {p : Nat} {l : List UInt8} (h : ByteRow W p l) (i : Nat) (hi : i < l.length) (d : UInt8) : ByteRow (W.drew.setCell ⟨p, i, none⟩ (.int .u8 (d.toNat : Int))) p (l.set i d) where
  cell j hj := by
    rw [List.length_set] at hj
    by_cases e : i = j
    · subst e
      rw [World.cell?_setCell_same' W.drew _ _ (by show (W.cell? _).isSome = true; rw [h.cell i hi]; rfl)]
      simp
    · rw [World.cell?_setCell_other _ _ _ _ (by simp [e])]
      rw [List.getElem_set_ne e]
      exact h.cell j hj
  thaw j hj := by
    rw [List.length_set] at hj
    have := h.thaw j hj
    rw [World.frozen?_setCell]
    exact this
  lt := by simp [World.setCell]; exact h.lt
theorem ByteRow.below {W W' : World} {p : Nat} {l : List UInt8} (h : ByteRow W p l) (hb : Below W.heap.size W W') : ByteRow W' p l where
  cell j hj := (hb.cell (p := ⟨p, j, none⟩) h.lt).trans (h.cell j hj)
  thaw j hj := (hb.frozen (p := ⟨p, j, none⟩) h.lt).trans (h.thaw j hj)
  lt := Nat.lt_of_lt_of_le h.lt hb.size
theorem ByteRow.string {W : World} {p : Nat} {l : List UInt8} (h : ByteRow W p l) (cap : Nat) : (convert 29 9 (.slice (some ⟨p, 0, none⟩) l.length cap)).run Try.prog W = .ok (.string ⟨l.toArray⟩) W :=
  run_convert_bytes_back W 29 9 5 ⟨p, 0, none⟩ cap l Try.underlying29 Try.underlying5 Try.underlying9 (fun j hj => by
    rw [Addr.add_lit, Nat.zero_add]; exact h.cell j hj)

theorem realmEnds_walk (w : World) : Calls Try.prog 4 #[] w fun e w' => e = .returned (.bool true) ∧ Below w.heap.size w w' := by
  go_enter Try.func4, Try.ntmps4
  go_wp2_with fail
  go_loopw [3] (fun i wr => ∃ n : Nat, n ≤ 10 ∧ i = .int .i64 n ∧ Tab w wr) (fun i _ => 10 - (intOf i).toNat)
  case atStart =>
    refine ⟨0, by omega, rfl, tab_mk w _ _ _ _ ?_ ?_⟩
    · intro i hi
      match i, hi with
      | 0, _ => exact ⟨_, rfl⟩
      | 1, _ => exact ⟨_, rfl⟩
      | 2, _ => exact ⟨_, rfl⟩
      | 3, _ => exact ⟨_, rfl⟩
      | 4, _ => exact ⟨_, rfl⟩
      | 5, _ => exact ⟨_, rfl⟩
      | 6, _ => exact ⟨_, rfl⟩
      | 7, _ => exact ⟨_, rfl⟩
      | 8, _ => exact ⟨_, rfl⟩
      | 9, _ => exact ⟨_, rfl⟩
    · intro i hi
      match i, hi with
      | 0, _ => exact ⟨_, by decide, rfl⟩
      | 1, _ => exact ⟨_, by decide, rfl⟩
      | 2, _ => exact ⟨_, by decide, rfl⟩
      | 3, _ => exact ⟨_, by decide, rfl⟩
      | 4, _ => exact ⟨_, by decide, rfl⟩
      | 5, _ => exact ⟨_, by decide, rfl⟩
  case round =>
    obtain ⟨n, hn, rfl, HT⟩ := hrel
    obtain ⟨wo, hwo⟩ : ∃ wo : World, wo = wr := ⟨_, rfl⟩
    rw [← hwo] at HT ⊢
    clear hwo
    by_cases hlt : n < 10
    · have nl : (n : Int) < 10 := by omega
      have n0 : (0 : Int) ≤ (n : Int) := Int.natCast_nonneg _
      have HN := Lib.hid hlt
      clear hlt hn
      have HT0 := Lib.hid HT
      clear HT
      go_wp2_with fail
      go_loopw [4] (fun i wr => ∃ k : Nat, k ≤ 6 ∧ i = .int .i64 k ∧ Tab w wr) (fun i _ => 6 - (intOf i).toNat)
      case atStart => exact ⟨0, by omega, rfl, HT0.out⟩
      case round =>
        obtain ⟨k, hk, rfl, HT⟩ := hrel
        obtain ⟨wp, hwp⟩ : ∃ wp : World, wp = wr := ⟨_, rfl⟩
        rw [← hwp] at HT ⊢
        clear hwp
        clear HT0
        by_cases hlk : k < 6
        · have kl : (k : Int) < 6 := by omega
          have k0 : (0 : Int) ≤ (k : Int) := Int.natCast_nonneg _
          have HK := Lib.hid hlk
          clear hk
          obtain ⟨z, hz⟩ := HT.ints n HN.out
          obtain ⟨s, hs, hsz⟩ := HT.keys k hlk
          have HSZ := Lib.hid hs
          clear hlk hs
          have lt0 : w.heap.size < wp.heap.size := by have := HT.size; omega
          have lt1 : w.heap.size + 1 < wp.heap.size := by have := HT.size; omega
          have hc0 : ∀ x : Regrown, (Sort.grow (redrawn wp x.d) x.os).cell? ⟨w.heap.size, n, none⟩ = some (.int .i64 z) := fun x => ((below_regrown wp x.d x.os).cell (p := ⟨w.heap.size, n, none⟩) lt0).trans hz
          have hc1 : ∀ x : Regrown, (Sort.grow (redrawn wp x.d) x.os).cell? ⟨w.heap.size + 1, k, none⟩ = some (.string s) := fun x => ((below_regrown wp x.d x.os).cell (p := ⟨w.heap.size + 1, k, none⟩) lt1).trans hsz
          obtain ⟨J, ej, hj, hJs⟩ : ∃ (a' : ByteArray) (e : Int), joinV z s = .tuple #[.string a', .int .i64 e] ∧ a'.size ≤ 50 := by
            have hs := HSZ.out
            unfold joinV; split
            · split
              case isTrue h =>
                have z1 := encB_le s.data.toList
                have z3 := length_list s
                have z4 : (codeOf s).size = (encB s.data.toList).length + 2 := by
                  rw [← length_list, show (codeOf s).data.toList = encB s.data.toList ++ [0, 0] from rfl]; simp
                have z5 := pre_size z.toNat
                exact ⟨_, _, rfl, by rw [append_size]; omega⟩
              case isFalse => exact ⟨_, _, rfl, by decide⟩
            · exact ⟨_, _, rfl, by decide⟩
          have J1 := rjoin_any z s (by have := HSZ.out; unfold maxLen; omega)
          rw [hj] at J1
          have J1 := Lib.hid J1
          have HJS := Lib.hid hJs
          have HTP := Lib.hid HT
          clear hj hJs HT
          go_wp2_with fail
          refine wp_region_quiet_below (by kernel_rfl) (by kernel_rfl) ?_
          repeat (any_goals (first | go_big_quiet_step ((go_at_call 9; exact Calls.regrown_of (J1.out _))) | quiet_step (fail)))
          refine wpQuiet_nil ?_
          intro w3 hw3
          have hb3 : Below wp.heap.size wp w3 := by obtain ⟨p, rfl⟩ := hw3; exact below_regrown _ _ _
          clear hw3 hc0 hc1 hz hsz lt0 lt1
          have HT3 := Lib.hid (HTP.out.next hb3)
          clear HTP hb3
          obtain ⟨z1, hz1⟩ := HT3.out.ints n HN.out
          obtain ⟨s1, hs1, hsz1⟩ := HT3.out.keys k HK.out
          have lt0 : w.heap.size < w3.heap.size := by have := HT3.out.size; omega
          have lt1 : w.heap.size + 1 < w3.heap.size := by have := HT3.out.size; omega
          have hc0 : ∀ x : Regrown, (Sort.grow (redrawn w3 x.d) x.os).cell? ⟨w.heap.size, n, none⟩ = some (.int .i64 z1) := fun x => ((below_regrown w3 x.d x.os).cell (p := ⟨w.heap.size, n, none⟩) lt0).trans hz1
          have hc1 : ∀ x : Regrown, (Sort.grow (redrawn w3 x.d) x.os).cell? ⟨w.heap.size + 1, k, none⟩ = some (.string s1) := fun x => ((below_regrown w3 x.d x.os).cell (p := ⟨w.heap.size + 1, k, none⟩) lt1).trans hsz1
          have e1 : (⟨#[120]⟩ : ByteArray).size = 1 := rfl
          have jz : J.size ≤ 50 := HJS.out
          have T1 := Lib.hid (tells_any z1 s1 J (by omega) (by omega))
          have T2 := Lib.hid (tells_any z1 s1 (J ++ ⟨#[120]⟩) (by omega) (by rw [append_size]; omega))
          clear hs1
          go_wp2_with fail
          refine wp_region_quiet_below (by kernel_rfl) (by kernel_rfl) ?_
          repeat (any_goals (first | go_big_quiet_step (first | (go_at_call 8; with_reducible exact Calls.regrown_of (T1.out _)) | (go_at_call 8; with_reducible exact Calls.regrown_of (T2.out _))) | quiet_step (fail)))
          refine wpQuiet_nil ?_
          intro w4 hw4
          have hb4 : Below w3.heap.size w3 w4 := by obtain ⟨p, rfl⟩ := hw4; exact below_regrown _ _ _
          clear hw4 hc0 hc1 hz1 hsz1 lt0 lt1 T1 T2
          have HT4 := Lib.hid (HT3.out.next hb4)
          clear HT3 hb4 J1
          go_wp2_with fail
          go_loopw [7] (fun i wr => ∃ j : Nat, j ≤ J.size ∧ i = .int .i64 j ∧ Tab w wr) (fun i _ => J.size - (intOf i).toNat)
          case atStart => exact ⟨0, by omega, rfl, HT4.out⟩
          case round =>
            obtain ⟨j, hj, rfl, HT⟩ := hrel
            clear HT4
            by_cases hlj : j < J.size
            · have jl : (j : Int) < (J.size : Int) := by omega
              have j0 : (0 : Int) ≤ (j : Int) := Int.natCast_nonneg _
              have j1 : (j : Int) ≤ (J.size : Int) := by omega
              have HJL := Lib.hid hlj
              have HTR := Lib.hid HT
              clear HT hj
              have hcv : ∀ W : World, (convert 9 29 (.string J)).run Try.prog W = .ok (.slice (some ⟨W.heap.size, 0, none⟩) J.size (grownCap W J.size 0 5)) (Lib.bytesWorld W 5 J) := fun W =>
                Lib.run_convert_string_bytes W 9 29 5 J Try.underlying9 Try.underlying29 Try.underlying5
              go_upto_region 16 with fail
              obtain ⟨W1, hW1⟩ : ∃ W1, W1 = Lib.bytesWorld wr 5 J := ⟨_, rfl⟩
              obtain ⟨cap, hcap⟩ : ∃ cap, cap = grownCap wr J.size 0 5 := ⟨_, rfl⟩
              rw [← hW1, ← hcap]
              have HR := Lib.hid (hW1 ▸ row_bytes wr 5 J)
              have hb1 : Below wr.heap.size wr W1 := hW1 ▸ bw_below wr 5 J
              have hs1 : W1.heap.size = wr.heap.size + 1 := by rw [hW1]; exact Lib.bytesWorld_size _ _ _
              have hc := HR.out.cell j (by rw [length_list]; exact HJL.out)
              have hf := HR.out.thaw j (by rw [length_list]; exact HJL.out)
              obtain ⟨c, hcc⟩ : ∃ c, J.data.toList[j]'(by rw [length_list]; exact HJL.out) = c := ⟨_, rfl⟩
              rw [hcc] at hc
              have HX := Lib.hid (And.intro hb1 hs1)
              clear hW1 hcap hb1 hs1 hcc hcv
              obtain ⟨m, d, S1, S3⟩ := flip_any (P := Try.prog) c (j + k)
              rw [show ((j + k : Nat) : Int) = (j : Int) + (k : Int) from by omega] at S1
              have S3 := Lib.hid S3
              have jk : (j : Int) + (k : Int) ≤ 60 := by have := HJS.out; omega
              go_cut [] (fun wx => wx = W1.drew.setCell ⟨wr.heap.size, j, none⟩ (.int .u8 (d.toNat : Int)))
              case first =>
                go_region
                go_wp2_with fail
                go_meet
                rfl
              case rest =>
              subst hcut
              have hb2 : Below wr.heap.size wr (W1.drew.setCell ⟨wr.heap.size, j, none⟩ (.int .u8 (d.toNat : Int))) := (HX.out.1.drew).setCell (Nat.le_refl _) _
              have HR2 := HR.out.set j (by rw [length_list]; exact HJL.out) d
              obtain ⟨W2, hW2⟩ : ∃ W2, W2 = W1.drew.setCell ⟨wr.heap.size, j, none⟩ (.int .u8 (d.toNat : Int)) := ⟨_, rfl⟩
              rw [← hW2] at hb2 HR2 ⊢
              clear hW2 S1 S3 hc hf HR HX jk
              obtain ⟨L, hL⟩ : ∃ L, J.data.toList.set j d = L := ⟨_, rfl⟩
              have hLs : L.length = J.size := by rw [← hL, List.length_set, length_list]
              rw [hL] at HR2
              clear hL
              have HT5 := Lib.hid (HTR.out.next hb2)
              clear HTR hb2
              obtain ⟨z2, hz2⟩ := HT5.out.ints n HN.out
              obtain ⟨s2, hs2, hsz2⟩ := HT5.out.keys k HK.out
              have lt0 : w.heap.size < W2.heap.size := by have := HT5.out.size; omega
              have lt1 : w.heap.size + 1 < W2.heap.size := by have := HT5.out.size; omega
              have hc0 : ∀ x : Regrown, (Sort.grow (redrawn W2 x.d) x.os).cell? ⟨w.heap.size, n, none⟩ = some (.int .i64 z2) := fun x => ((below_regrown W2 x.d x.os).cell (p := ⟨w.heap.size, n, none⟩) lt0).trans hz2
              have hc1 : ∀ x : Regrown, (Sort.grow (redrawn W2 x.d) x.os).cell? ⟨w.heap.size + 1, k, none⟩ = some (.string s2) := fun x => ((below_regrown W2 x.d x.os).cell (p := ⟨w.heap.size + 1, k, none⟩) lt1).trans hsz2
              have hst : ∀ x : Regrown, (convert 29 9 (.slice (some ⟨wr.heap.size, 0, none⟩) J.size cap)).run Try.prog (Sort.grow (redrawn W2 x.d) x.os) = .ok (.string ⟨L.toArray⟩) (Sort.grow (redrawn W2 x.d) x.os) := fun x => by
                have := (HR2.below (below_regrown W2 x.d x.os)).string cap
                rwa [hLs] at this
              have jz : J.size ≤ 50 := HJS.out
              have T1 := Lib.hid (tells_any z2 s2 (J.extract 0 j) (by omega) (by rw [ByteArray.size_extract]; omega))
              have T2 := Lib.hid (tells_any z2 s2 ⟨L.toArray⟩ (by omega) (by show L.toArray.size ≤ 1000; simp; omega))
              clear hs2
              go_wp2_with fail
              refine wp_region_quiet_below (by kernel_rfl) (by kernel_rfl) ?_
              repeat (any_goals (first | go_big_quiet_step (first | (go_at_call 8; with_reducible exact Calls.regrown_of (T1.out _)) | (go_at_call 8; with_reducible exact Calls.regrown_of (T2.out _))) | quiet_step (fail)))
              refine wpQuiet_nil ?_
              intro w6 hw6
              have hb6 : Below W2.heap.size W2 w6 := by obtain ⟨p, rfl⟩ := hw6; exact below_regrown _ _ _
              clear hw6 hc0 hc1 hz2 hsz2 lt0 lt1 T1 T2 hst
              have HT6 := Lib.hid (HT5.out.next hb6)
              clear HT5 hb6 HR2
              go_wp2_with fail
              go_roundw
              case rel => exact ⟨j + 1, by have := HJL.out; omega, by go_num, HT6.out⟩
              case measure => simp [intOf] <;> omega
            · have jl : (J.size : Int) ≤ (j : Int) := by omega
              have HTR := Lib.hid HT
              clear HT
              go_wp2_with fail
              go_roundw
              case rel => exact ⟨k + 1, by have := HK.out; omega, by go_num, HTR.out⟩
              case measure => simp [intOf] <;> omega
        · have kl : (6 : Int) ≤ (k : Int) := by omega
          have HTR := Lib.hid HT
          clear HT
          go_wp2_with fail
          go_roundw
          case rel => exact ⟨n + 1, by have := HN.out; omega, by go_num, HTR.out⟩
          case measure => simp [intOf] <;> omega
    · have nl : (10 : Int) ≤ (n : Int) := by omega
      have HTR := Lib.hid HT
      clear HT
      go_wp2_with (go_at_call 7; refine (awake_any _).mono ?_; rintro e w1 ⟨rfl, hb1⟩)
      go_ret
      exact ⟨rfl, Below.step HTR.out.below hb1⟩
end Go.Proofs.Ythkndfammlibpaa
