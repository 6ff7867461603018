/- The reference's Show writes the same text. -/
import Derived.Test.YtjkocklfnapdaaaDoorRefDone
namespace Go.Proofs.YtjkocklfnapdaaaDoor
open Go.RowKit
set_option maxRecDepth 100000
set_option maxHeartbeats 1000000

def strLen : Value → Nat
  | .string s => s.size
  | _ => 0

def one (c : UInt8) : ByteArray := ⟨#[c]⟩
theorem run_convert_one {P : Program} (w : World) (src dst e : TypeId) (c : UInt8) (hs : P.underlying src = some (.slice e)) (he : P.underlying e = some (.int .u8)) (hd : P.underlying dst = some .string) :
    (convert src dst (.slice (some ⟨w.heap.size, 0, none⟩) 1 1)).run P (w.alloc (.cells #[.int .u8 c.toNat] e)) = .ok (.string (one c)) (w.alloc (.cells #[.int .u8 c.toNat] e)) := by
  rw [run_convert_bytes_string _ src dst e _ _ _ hs he hd]
  rw [run_bytesToString _ _ _ _ [(c.toNat : Int)] (by simp [go_sem, loadCells])]
  have e : UInt8.ofNat ((c.toNat : Int).toNat) = c := by simp
  simp only [List.foldl_cons, List.foldl_nil, e]
  rfl

/-- What has been written when k is left of v. -/
def Wrote (v k : Nat) (L : List UInt8) : Prop := (L = [] ∧ k = v) ∨ (L ≠ [] ∧ Lib.decDigits v = if k = 0 then L else Lib.decDigits k ++ L)

theorem Wrote.next {v k : Nat} {L : List UInt8} (h : Wrote v k L) (hk : 0 < k ∨ L = []) : Wrote v (k / 10) (UInt8.ofNat (48 + k % 10) :: L) := by
  refine .inr ⟨by simp, ?_⟩
  have hd : Lib.decDigits k = if h : k < 10 then [UInt8.ofNat (48 + k)] else Lib.decDigits (k / 10) ++ [UInt8.ofNat (48 + k % 10)] := by rw [Lib.decDigits]
  have hv : Lib.decDigits v = Lib.decDigits k ++ L := by
    rcases h with ⟨rfl, rfl⟩ | ⟨hn, h⟩
    · simp
    · rw [h, if_neg]; rcases hk with hk | hk
      · omega
      · exact absurd hk hn
  rw [hv, hd]
  by_cases h10 : k < 10
  · rw [dif_pos h10, if_pos (by omega), show k % 10 = k by omega]; rfl
  · rw [dif_neg h10, if_neg (by omega)]; simp

theorem Wrote.done {v : Nat} {L : List UInt8} (h : Wrote v 0 L) (hL : L ≠ []) : L = Lib.decDigits v := by
  rcases h with ⟨rfl, _⟩ | ⟨_, h⟩
  · exact absurd rfl hL
  · rw [h, if_pos rfl]

theorem showR_loop (m : Nat) (w : World) (h : m < 18446744073709551616) :
    Calls Tryd.prog 13 #[.int .u64 m] w fun e w' => e = .returned (.string (showB m)) ∧ Below w.heap.size w w' := by
  have H : Hid (W64 (m : Int)) := ⟨by omega, by omega⟩
  have hv : ((m : Int) / 4) = ((m / 4 : Nat) : Int) := by omega
  have HV := Lib.hid hv
  have d1 : Hid (((m : Int) % 2 == 1) = decide (m % 2 = 1)) := by show _ = _; rw [Bool.eq_iff_iff]; simp; omega
  have d2 : Hid (((m : Int) / 2 % 2 == 1) = decide (m / 2 % 2 = 1)) := by show _ = _; rw [Bool.eq_iff_iff]; simp; omega
  have HM : m / 4 < 4611686018427387904 := by omega
  generalize hq : m / 4 = v at *
  have HQ := Lib.hid hq
  clear hv hq h
  generalize hl : decide (m % 2 = 1) = l at *
  generalize hd : decide (m / 2 % 2 = 1) = d at *
  have HL := Lib.hid hl
  have HD := Lib.hid hd
  clear hl hd
  go_enter Tryd.func13, Tryd.ntmps13
  go_wp2_with (go_at_call 25; refine (ofR_any _ _ H.out).mono ?_; rw [HV.out, d1.out, d2.out]; rintro e w1 ⟨rfl, hb1⟩)
  go_loopw [4, 5] (fun out i wr => ∃ (k : Nat) (L : List UInt8), k < 4611686018427387904 ∧ i = .int .u64 k ∧ out = .string ⟨L.toArray⟩ ∧ Below w.heap.size w wr ∧ Hid (Wrote v k L) ∧ L.length + k ≤ v + 1 ∧ wr.cell? ⟨w1.heap.size, 1, none⟩ = some (.bool l) ∧ wr.cell? ⟨w1.heap.size, 2, none⟩ = some (.bool d) ∧ w1.heap.size < wr.heap.size) (fun out i _ => 2 * (intOf i).toNat + (1 - strLen out))
  case atStart => exact ⟨v, [], HM, rfl, rfl, Below.new hb1 _, .inl ⟨rfl, rfl⟩, by simp, by simp [go_sem], by simp [go_sem], by simp⟩
  case round =>
    obtain ⟨k, L, hk, rfl, rfl, hB, HW, hlen, c1, c2, hlt⟩ := hrel
    have keep : ∀ (o : Obj) (j : Nat), (wr.alloc o).cell? ⟨w1.heap.size, j, none⟩ = wr.cell? ⟨w1.heap.size, j, none⟩ := fun o j => ((Below.refl wr.heap.size wr).alloc (Nat.le_refl _) o).cell (p := ⟨w1.heap.size, j, none⟩) hlt
    have KEEP := Lib.hid keep
    clear keep
    by_cases h0 : 0 < k ∨ L = []
    · have hn := HW.out.next h0
      have hcat : Hid (one (UInt8.ofNat (48 + k % 10)) ++ ⟨L.toArray⟩ = ⟨(UInt8.ofNat (48 + k % 10) :: L).toArray⟩) := by
        apply bytes_ext
        simp [one]
      have hcv : Hid (∀ W : World, (convert 44 9 (.slice (some ⟨W.heap.size, 0, none⟩) 1 1)).run Tryd.prog (W.alloc (.cells #[.int .u8 (48 + (k : Int) % 10)] 5)) = .ok (.string (one (UInt8.ofNat (48 + k % 10)))) (W.alloc (.cells #[.int .u8 (48 + (k : Int) % 10)] 5))) := fun W => by
        have hc : ((48 : Int) + (k : Int) % 10) = ((UInt8.ofNat (48 + k % 10)).toNat : Int) := by simp [UInt8.toNat_ofNat']; omega
        rw [hc]
        exact run_convert_one (P := Tryd.prog) W _ _ _ _ Tryd.underlying44 Tryd.underlying5 Tryd.underlying9
      have HN := Lib.hid hn
      clear hn
      by_cases hk0 : 0 < k
      · have hsz : (⟨L.toArray⟩ : ByteArray).size = L.length := by show L.toArray.size = _; simp
        have hcv := hcv.out
        have h1s : (one (UInt8.ofNat (48 + k % 10))).size = 1 := rfl
        generalize UInt8.ofNat (48 + k % 10) = c at *
        clear h0
        go_wp2
        go_roundw
        case rel => exact ⟨k / 10, c :: L, by omega, by go_num, by rw [hcat.out], Below.new hB _, HN.out, by simp; omega, (KEEP.out _ _).trans c1, (KEEP.out _ _).trans c2, by simp; omega⟩
        case measure => simp [intOf, strLen]; omega
      · obtain rfl : k = 0 := by omega
        obtain rfl : L = [] := by
          rcases h0 with h | h
          · exact absurd h hk0
          · exact h
        have hcv : ∀ W : World, (convert 44 9 (.slice (some ⟨W.heap.size, 0, none⟩) 1 1)).run Tryd.prog (W.alloc (.cells #[.int .u8 48] 5)) = .ok (.string (one 48)) (W.alloc (.cells #[.int .u8 48] 5)) := hcv.out
        have h1s : (one 48).size = 1 := rfl
        clear h0 hk0
        go_wp2
        go_roundw
        case rel => exact ⟨0, [48], by omega, rfl, rfl, Below.new hB _, HN.out, by simp, (KEEP.out _ _).trans c1, (KEEP.out _ _).trans c2, by simp; omega⟩
        case measure => decide
    · obtain ⟨x, L', rfl⟩ : ∃ x L', L = x :: L' := by
        cases L with
        | nil => exact absurd (.inr rfl) h0
        | cons x L' => exact ⟨x, L', rfl⟩
      obtain rfl : k = 0 := by
        rcases Nat.eq_zero_or_pos k with h | h
        · exact h
        · exact absurd (.inl h) h0
      have hfin := Lib.hid (HW.out.done (by simp))
      have hsz : (⟨(x :: L').toArray⟩ : ByteArray).size = L'.length + 1 := by show (x :: L').toArray.size = _; simp
      simp only [List.length_cons] at hlen
      clear h0
      cases l <;> cases d
      all_goals
        have E1 := HL.out
        have E2 := HD.out
        simp at E1 E2
        have F1 := Lib.hid E1
        have F2 := Lib.hid E2
        clear E1 E2
        go_wp2
        go_ret
        refine ⟨ret_str (bytes_ext ?_), hB⟩
        rw [showB_list, showL, HQ.out, ← hfin.out]
        simp [F1.out, F2.out]

end Go.Proofs.YtjkocklfnapdaaaDoor
