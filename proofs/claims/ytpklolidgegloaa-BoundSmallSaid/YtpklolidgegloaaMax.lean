/- The walks of Max, and of the reference's. -/
import Derived.Test.YtpklolidgegloaaRefB
namespace Go.Proofs.Ytpklolidgegloaa
open Go.RowKit
set_option maxRecDepth 100000
set_option maxHeartbeats 400000

theorem getD_mem' (zs : List ByteArray) (k : Nat) (h : k < zs.length) : zs.getD k ByteArray.empty ∈ zs := by
  rw [List.getD_eq_getElem?_getD, List.getElem?_eq_getElem h]; exact List.getElem_mem h

theorem rmax_any (ao : Option Addr) (len cap : Nat) (zs : List ByteArray) (w : World) (h : IsStrs w ao len cap zs) (hn : len ≤ 1000000) :
    Calls Try.prog 11 #[.slice ao len cap] w fun e w' => e = .returned (.string (maxL zs)) ∧ Below w.heap.size w w' := by
  have HH := Lib.hid h
  have HL := Lib.hid h.length
  clear h
  go_enter Try.func11, Try.ntmps11
  go_wp2_with fail
  go_loopw [3, 4] (fun m i wr => ∃ k : Nat, k ≤ len ∧ i = .int .i64 k ∧ m = .string (maxL (zs.take k)) ∧ Below w.heap.size w wr) (fun _ i _ => len - (intOf i).toNat)
  case atStart => exact ⟨0, by omega, rfl, rfl, Below.refl _ _⟩
  case round =>
    obtain ⟨k, hk, rfl, rfl, hB⟩ := hrel
    by_cases hlt : k < len
    · obtain ⟨b, off, rfl, hb, hc⟩ := HH.out.at (by omega)
      have g1 : wr.cell? ⟨b, off + k, none⟩ = some (.string (zs.getD k ByteArray.empty)) := by rw [hB.cell (p := ⟨b, off + k, none⟩) hb]; exact hc k hlt
      have HS := Lib.hid (maxL_succ zs k (by rw [HL.out]; exact hlt))
      have z1 : Hid ((maxL (zs.take k)).size ≤ maxLen) := maxL_small zs HH.out.small k
      have z2 : Hid ((zs.getD k ByteArray.empty).size ≤ maxLen) := HH.out.small _ (getD_mem' _ _ (by rw [HL.out]; exact hlt))
      clear hc
      generalize zs.getD k ByteArray.empty = x at *
      generalize hm : maxL (zs.take k) = m at *
      clear hm
      obtain ⟨u, hu⟩ : ∃ u, bl m.data.toList x.data.toList = u := ⟨_, rfl⟩
      have HU := Lib.hid hu
      clear hu
      have lb : b < wr.heap.size := Nat.lt_of_lt_of_le hb hB.size
      go_wp2_with fail
      refine (rless_any _ _ _ z1.out z2.out).mono ?_
      rw [HU.out]
      rintro e w1 ⟨rfl, hb1⟩
      have g2 : w1.cell? ⟨b, off + k, none⟩ = some (.string x) := by rw [hb1.cell (p := ⟨b, off + k, none⟩) lb]; exact g1
      clear g1
      have hB1 : Below w.heap.size w w1 := Below.step hB hb1
      cases u
      all_goals
        go_wp2_with fail
        go_roundw
        case rel => exact ⟨k + 1, by omega, by go_num, by rw [HS.out, HU.out]; simp, hB1⟩
        case measure => simp [intOf]; omega
    · obtain rfl : k = len := by omega
      go_wp2_with fail
      go_ret
      exact ⟨ret_str (by rw [List.take_of_length_le (by rw [HL.out]; omega)]), hB⟩

theorem run_max_str {P : Program} (ts : Array TypeId) (t : TypeId) (a b : ByteArray) (u : Bool) (h : bl a.data.toList b.data.toList = u) (w : World) :
    (Builtin.max_ ts t #[.string a, .string b]).run P w = .ok (.string (if u then b else a)) w := by
  subst h
  have e : Op.bytesLess a.toList b.toList = bl a.data.toList b.data.toList := by rw [ByteArray.toList_eq, ByteArray.toList_eq]
  cases hu : bl a.data.toList b.data.toList <;> simp [Builtin.max_, Builtin.max2, Op.stringOp, asBool, go_sem, e, hu]

theorem max_any (ao : Option Addr) (len cap : Nat) (zs : List ByteArray) (w : World) (h : IsStrs w ao len cap zs) (hn : len ≤ 1000000) :
    Calls Try.prog 10 #[.slice ao len cap] w fun e w' => e = .returned (.string (maxL zs)) ∧ Below w.heap.size w w' := by
  have HH := Lib.hid h
  have HL := Lib.hid h.length
  clear h
  go_enter Try.func10, Try.ntmps10
  go_wp2_with fail
  go_loopw [3, 8] (fun m i wr => ∃ k : Nat, k ≤ len ∧ i = .int .i64 k ∧ m = .string (maxL (zs.take k)) ∧ Below w.heap.size w wr) (fun _ i _ => len - (intOf i).toNat)
  case atStart => exact ⟨0, by omega, rfl, rfl, Below.refl _ _⟩
  case round =>
    obtain ⟨k, hk, rfl, rfl, hB⟩ := hrel
    by_cases hlt : k < len
    · obtain ⟨b, off, rfl, hb, hc⟩ := HH.out.at (by omega)
      have g1 : wr.cell? ⟨b, off + k, none⟩ = some (.string (zs.getD k ByteArray.empty)) := by rw [hB.cell (p := ⟨b, off + k, none⟩) hb]; exact hc k hlt
      have HS := Lib.hid (maxL_succ zs k (by rw [HL.out]; exact hlt))
      clear hc
      generalize zs.getD k ByteArray.empty = x at *
      generalize hm : maxL (zs.take k) = m at *
      clear hm
      have hq : Op.bytesLess m.toList x.toList = bl m.data.toList x.data.toList := by rw [ByteArray.toList_eq, ByteArray.toList_eq]
      obtain ⟨u, hu⟩ : ∃ u, bl m.data.toList x.data.toList = u := ⟨_, rfl⟩
      have hmx := fun (w : World) => run_max_str (P := Try.prog) #[9, 9] 9 m x u hu w
      have HU := Lib.hid hu
      clear hu hq
      cases u
      all_goals
        go_wp2_with fail
        go_roundw
        case rel => exact ⟨k + 1, by omega, by go_num, by rw [HS.out, HU.out]; simp, hB⟩
        case measure => simp [intOf]; omega
    · obtain rfl : k = len := by omega
      go_wp2_with fail
      go_ret
      exact ⟨ret_str (by rw [List.take_of_length_le (by rw [HL.out]; omega)]), hB⟩

end Go.Proofs.Ytpklolidgegloaa
