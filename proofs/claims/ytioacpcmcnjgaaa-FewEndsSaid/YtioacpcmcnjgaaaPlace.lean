/- The first place at whose byte a predicate holds; the place of a byte. -/
import Derived.Test.YtioacpcmcnjgaaaRow
import Derived.BigRegion
namespace Go.Proofs.Ytioacpcmcnjgaaa
open Go.RowKit
set_option maxRecDepth 100000
set_option maxHeartbeats 2000000

theorem place1_any (b c : UInt8) (B : Nat) (w : World) (hc : w.cell? ⟨B, 0, none⟩ = some (.int .u8 (b.toNat : Int))) :
    Calls Try.prog 37 #[.int .u8 (c.toNat : Int), .pointer (some ⟨B, 0, none⟩)] w fun e w' => e = .returned (.bool (decide (b.toNat ≤ c.toNat))) ∧ w' = w := by
  have HE : Hid (decide (b.toNat ≤ c.toNat) = decide ((b.toNat : Int) ≤ (c.toNat : Int))) := by
    show _ = _
    by_cases h : b.toNat ≤ c.toNat
    · rw [decide_eq_true h, decide_eq_true (by omega)]
    · rw [decide_eq_false h, decide_eq_false (by omega)]
  go_enter Try.func37, Try.ntmps37
  go_wp2
  go_ret
  exact ⟨by rw [HE.out]; first | rfl | simp, rfl⟩
theorem next1_any (c : UInt8) (f : Int) (B : Nat) (w : World) (hc : w.cell? ⟨B, 0, none⟩ = some (.int .i64 f)) :
    Calls Try.prog 36 #[.int .u8 (c.toNat : Int), .pointer (some ⟨B, 0, none⟩)] w fun e w' => e = .returned (.bool (decide (f ≤ (c.toNat : Int)))) ∧ w' = w := by
  have c0 : (0 : Int) ≤ (c.toNat : Int) := Int.natCast_nonneg _
  have c1 : (c.toNat : Int) ≤ 255 := by have := c.toNat_lt; omega
  go_enter Try.func36, Try.ntmps36
  go_wp2
  go_ret
  exact ⟨by first | rfl | simp, rfl⟩

/-- The first place where f holds, or the number of places. -/
def firstIx (f : UInt8 → Bool) (l : List En) : Nat := l.findIdx (fun x => f x.1)
theorem firstIx_le (f : UInt8 → Bool) (l : List En) : firstIx f l ≤ l.length := List.findIdx_le_length
theorem firstIx_eq (f : UInt8 → Bool) (l : List En) (k : Nat) (hk : k < l.length) (hf : f l[k].1 = true) (h : ∀ j (hj : j < k), f (l[j]'(by omega)).1 = false) : firstIx f l = k := by
  rw [firstIx, List.findIdx_eq hk]
  exact ⟨hf, fun j hj => by rw [h j hj]⟩
theorem firstIx_none (f : UInt8 → Bool) (l : List En) (h : ∀ j (hj : j < l.length), f l[j].1 = false) : firstIx f l = l.length := by
  rw [firstIx, List.findIdx_eq_length]
  intro x hx
  obtain ⟨j, hj, rfl⟩ := List.getElem_of_mem hx
  rw [h j hj]

theorem first_any (pf : Nat) (hpf : pf = 37 ∨ pf = 36) (B : Nat) (f : UInt8 → Bool) {w : World} {q : Nat} {l : List En} {room : Nat} (hR : RowAt w q l room)
    (hP : ∀ (c : UInt8) (W : World), Below w.heap.size w W → Calls Try.prog pf #[.int .u8 (c.toNat : Int), .pointer (some ⟨B, 0, none⟩)] W fun e w' => e = .returned (.bool (f c)) ∧ w' = W) :
    Calls Try.prog 35 #[.pointer (some ⟨q, 0, none⟩), .func (.func pf) #[] #[.pointer (some ⟨B, 0, none⟩)]] w fun e w' => e = .returned (.int .i64 (firstIx f l : Int)) ∧ Below w.heap.size w w' := by
  have h48 := hR.n
  have hlen := hR.len
  obtain ⟨n, hn⟩ : ∃ n : Nat, l.length = n := ⟨_, rfl⟩
  rw [hn] at h48 hlen
  have n0 : (0 : Int) ≤ (n : Int) := Int.natCast_nonneg _
  have n1 : (n : Int) ≤ 16 := by omega
  have HR := Lib.hid hR
  have HN := Lib.hid hn
  have HP := Lib.hid hP
  clear hR hn hP hlen
  rcases hpf with rfl | rfl
  all_goals
    go_enter Try.func35, Try.ntmps35
    go_wp2_with fail
    go_region
    go_wp2_with fail
    have hB0 : Below w.heap.size w w.drew := (Below.refl _ _).drew
    obtain ⟨W0, hW0⟩ : ∃ W0, W0 = w.drew := ⟨_, rfl⟩
    rw [← hW0] at hB0 ⊢
    clear hW0 h48
    have HB0 := Lib.hid hB0
    clear hB0
    go_loopw [16] (fun i wr => ∃ k : Nat, k ≤ n ∧ i = .int .i64 k ∧ (∀ j (hj : j < l.length), j < k → f l[j].1 = false) ∧ Below w.heap.size w wr) (fun i _ => n - (intOf i).toNat)
    case atStart => exact ⟨0, by omega, rfl, fun j _ h => by omega, HB0.out⟩
    case round =>
      obtain ⟨k, hk, rfl, hF, hB⟩ := hrel
      have HB := Lib.hid hB
      have HF := Lib.hid hF
      clear hB hF HB0
      by_cases hlt : k < n
      · have kl : (k : Int) < (n : Int) := by omega
        have k0 : (0 : Int) ≤ (k : Int) := by omega
        have hkl : k < l.length := by have := HN.out; omega
        have hc := (HR.out.below HB.out).byte k hkl
        obtain ⟨c, hcc⟩ : ∃ c, l[k].1 = c := ⟨_, rfl⟩
        rw [hcc] at hc
        have hP := HP.out c wr HB.out
        have HC := Lib.hid hcc
        cases hf : f c
        · rw [hf] at hP
          have HFC := Lib.hid hf
          have hP := Lib.hid hP
          clear hf hcc hk
          go_wp2_with (refine hP.out.mono ?_; rintro e w1 ⟨rfl, rfl⟩)
          go_roundw
          case rel => exact ⟨k + 1, by omega, by go_num, fun j hj h => by
              by_cases e : j = k
              · subst e; rw [HC.out]; exact HFC.out
              · exact HF.out j hj (by omega), HB.out⟩
          case measure => simp [intOf] <;> omega
        · rw [hf] at hP
          have HX := Lib.hid (firstIx_eq f l k hkl (by rw [hcc]; exact hf) (fun j hj => HF.out j (by omega) hj))
          have hP := Lib.hid hP
          clear hf hcc hk
          go_wp2_with (refine hP.out.mono ?_; rintro e w1 ⟨rfl, rfl⟩)
          go_ret
          exact ⟨by rw [HX.out]; rfl, HB.out⟩
      · obtain rfl : k = n := by omega
        have HX := Lib.hid (firstIx_none f l (fun j hj => HF.out j hj (by have := HN.out; omega)))
        have h48 := (HR.out.below HB.out).n
        rw [HN.out] at h48
        go_wp2
        go_ret
        exact ⟨by rw [HX.out, HN.out]; rfl, HB.out⟩

/-- Where a byte stands, or would; whether it is there. -/
def placeIx (b : UInt8) (l : List En) : Nat := firstIx (fun c => decide (b.toNat ≤ c.toNat)) l
def isIn (b : UInt8) (l : List En) : Bool := match l[placeIx b l]? with
  | some x => x.1 == b
  | none => false
theorem place_any (b : UInt8) {w : World} {q : Nat} {l : List En} {room : Nat} (hR : RowAt w q l room) :
    Calls Try.prog 30 #[.pointer (some ⟨q, 0, none⟩), .int .u8 (b.toNat : Int)] w fun e w' => e = .returned (.tuple #[.int .i64 (placeIx b l : Int), .bool (isIn b l)]) ∧ Below w.heap.size w w' := by
  have hF : Hid (Calls Try.prog 35 #[.pointer (some ⟨q, 0, none⟩), .func (.func 37) #[] #[.pointer (some ⟨w.heap.size, 0, none⟩)]] (w.alloc (.cells #[.int .u8 (b.toNat : Int)] 5)) fun e w' => e = .returned (.int .i64 (placeIx b l : Int)) ∧ Below (w.alloc (.cells #[.int .u8 (b.toNat : Int)] 5)).heap.size (w.alloc (.cells #[.int .u8 (b.toNat : Int)] 5)) w') :=
    Lib.hid (first_any _ (.inl rfl) w.heap.size _ (hR.below (Below.new (Below.refl _ _) _)) (fun c W hW => place1_any b c _ W ((hW.cell (p := ⟨w.heap.size, 0, none⟩) (by simp)).trans ((Fresh.new w w.heap.size #[.int .u8 (b.toNat : Int)] 5 rfl).cell 0))))
  have hle := firstIx_le (fun c => decide (b.toNat ≤ c.toNat)) l
  have hmf := @makeFunc_run Try.prog
  obtain ⟨i, hi⟩ : ∃ i, placeIx b l = i := ⟨_, rfl⟩
  have hile : i ≤ l.length := by rw [← hi]; exact hle
  rw [hi] at hF ⊢
  have h16 := hR.len
  have HR := Lib.hid hR
  clear hR hle
  by_cases hlt : i < l.length
  · obtain ⟨c, hcc⟩ : ∃ c, l[i].1 = c := ⟨_, rfl⟩
    have hin : isIn b l = (c == b) := by rw [isIn, hi, List.getElem?_eq_getElem hlt, ← hcc]
    have hbe : Hid ((c == b) = ((c.toNat : Int) == (b.toNat : Int))) := by
      show _ = _
      rw [Bool.eq_iff_iff, beq_iff_eq, beq_iff_eq]
      exact ⟨fun h => by rw [h], fun h => UInt8.toNat_inj.1 (Int.ofNat_inj.1 h)⟩
    obtain ⟨n, hn⟩ : ∃ n, l.length = n := ⟨_, rfl⟩
    have i0 : (0 : Int) ≤ (i : Int) := by omega
    have i1 : (i : Int) < (n : Int) := by omega
    have i2 : (i : Int) ≤ 15 := by omega
    have i3 : i < 16 := by omega
    have i4 : decide ((i : Int) < (n : Int)) = true := decide_eq_true i1
    have i5 : decide (i < n) = true := decide_eq_true (by omega)
    have HI := Lib.hid hlt
    rw [hin, hbe.out]
    have HN := Lib.hid hn
    have HC := Lib.hid hcc
    clear hi hcc hin hile hn h16
    go_enter Try.func30, Try.ntmps30
    go_wp2_with (go_at_call 35; refine hF.out.mono ?_; rintro e w1 ⟨rfl, hb1⟩)
    have hB : Below w.heap.size w w1 := Below.step (Below.new (Below.refl _ _) _) hb1
    have hR1 := HR.out.below hB
    have h48 := hR1.n
    have hc := hR1.byte i HI.out
    rw [HN.out] at h48
    rw [HC.out] at hc
    have hcb : w1.cell? ⟨w.heap.size, 0, none⟩ = some (.int .u8 (b.toNat : Int)) := (hb1.cell (p := ⟨w.heap.size, 0, none⟩) (by simp)).trans ((Fresh.new w w.heap.size #[.int .u8 (b.toNat : Int)] 5 rfl).cell 0)
    have HB := Lib.hid hB
    clear hB hb1 hR1
    go_region
    go_wp2
    go_ret2
    exact ⟨rfl, HB.out.drew⟩
  · have hin : isIn b l = false := by rw [isIn, hi, List.getElem?_eq_none (by omega)]
    rw [hin]
    obtain ⟨n, hn⟩ : ∃ n, l.length = n := ⟨_, rfl⟩
    obtain rfl : i = n := by omega
    have i1 : decide ((i : Int) < (i : Int)) = false := decide_eq_false (by omega)
    have i2 : decide (i < i) = false := decide_eq_false (by omega)
    have HN := Lib.hid hn
    clear hi hin hile hlt hn h16
    go_enter Try.func30, Try.ntmps30
    go_wp2_with (go_at_call 35; refine hF.out.mono ?_; rintro e w1 ⟨rfl, hb1⟩)
    have hB : Below w.heap.size w w1 := Below.step (Below.new (Below.refl _ _) _) hb1
    have h48 := (HR.out.below hB).n
    rw [HN.out] at h48
    have HB := Lib.hid hB
    clear hB hb1
    go_region
    go_wp2
    go_ret2
    exact ⟨rfl, HB.out.drew⟩
end Go.Proofs.Ytioacpcmcnjgaaa
