/- The reference's Way. -/
import Derived.Test.YtjlfgmjcmicoaaaRefEnc
namespace Go.Proofs.Ytjlfgmjcmicoaaa
open Go.RowKit
set_option maxRecDepth 100000

set_option maxHeartbeats 4000000 in
theorem rway_any (r : Req) (w : World) (h : r.Ok) : Calls Try.prog 18 #[reqV r] w fun e w' => e = .returned (.int .i64 (wayN r)) ∧ Below w.heap.size w w' := by
  have HO := Lib.hid h
  obtain ⟨b, hb⟩ : ∃ b, isB r = b := ⟨_, rfl⟩
  have HB := Lib.hid hb
  cases b with
  | false =>
    have HW : Hid (wayN r = 0) := by show _ = _; unfold wayN; rw [HB.out]; rfl
    obtain ⟨d, ht, hg, hr, key, val, old, lim, ten, qk, qb, rts⟩ := r
    clear h hb
    go_enter Try.func18, Try.ntmps18
    go_wp2_with fail
    refine (ris_any _ _ HO.out).mono ?_
    rw [HB.out]
    rintro e w1 ⟨rfl, hb1⟩
    go_wp2_with fail
    go_ret
    exact ⟨ret_int (by rw [HW.out]; rfl), Below.step ((Below.refl _ _).alloc (Nat.le_refl _) _) hb1⟩
  | true =>
    have hall := (isB_of r).1 hb
    have HK : Hid (r.key.size ≤ 16) := hall.2.2.1
    have hcl := codeL_le r.key HK.out
    have hd : r.d = 1 ∨ r.d = 2 ∨ r.d = 3 ∨ r.d = 4 ∨ r.d = 5 := by omega
    have HW : Hid (wayN r = 4 * innerN r + furtherN r.d) := by show _ = _; unfold wayN; rw [HB.out]; rfl
    have HI : Hid (innerN r = if r.d = 5 then 34 else (codeL r.key).length) := rfl
    obtain ⟨d, ht, hg, hr, key, val, old, lim, ten, qk, qb, rts⟩ := r
    dsimp only at hd HK hcl HW HI
    clear h hb hall
    have hsz : (codeOf key).size = (codeL key).length := by simp [codeOf, ByteArray.size]
    obtain ⟨I, hI⟩ : ∃ I : Nat, I = if d = 5 then 34 else (codeOf key).size := ⟨_, rfl⟩
    have hIB : I ≤ 34 := by rw [hI]; split <;> omega
    have HR : Hid (wayN ⟨d, ht, hg, hr, key, val, old, lim, ten, qk, qb, rts⟩ = 4 * I + furtherN d) := by
      show _ = _
      rw [HW.out, HI.out, hI, hsz]
    have hcs : (codeOf key).size ≤ 34 := by omega
    clear hcl HW HI hsz
    rcases hd with rfl | rfl | rfl | rfl | rfl
    all_goals
      simp only [reduceIte, Int.reduceEq] at hI
      go_enter Try.func18, Try.ntmps18
      go_wp2_with fail
      refine (ris_any _ _ HO.out).mono ?_
      rw [HB.out]
      rintro e w1 ⟨rfl, hb1⟩
      have c2 : w1.cell? ⟨w.heap.size, 4, none⟩ = some (.string key) := by rw [hb1.cell (p := ⟨w.heap.size, 4, none⟩) (by simp)]; simp
      have c0 := hb1.cell (p := ⟨w.heap.size, 0, none⟩) (by simp)
      simp only [World.cell?_alloc_new] at c0
      have hB1 := Lib.hid hb1
      clear hb1
      go_wp2_with fail
      refine (rencode_any _ _ HK.out).mono ?_
      rintro e w2 ⟨rfl, rfl⟩
      go_wp2_with fail
      go_loop [6, 7] (fun n i => ∃ k : Nat, k ≤ I ∧ i = .int .i64 k ∧ n = .int .i64 (3 + 4 * (k : Int))) (fun _ i => I - (intOf i).toNat)
      case atStart => exact ⟨0, Nat.zero_le _, rfl, rfl⟩
      case round =>
        obtain ⟨k, hk1, rfl, rfl⟩ := hrel
        by_cases hm : k < I
        · have hmI : (k : Int) < (I : Int) := by omega
          rw [hI] at hmI
          go_wp2
          go_round
          case rel => exact ⟨k + 1, by omega, by go_num, by simp; omega⟩
          case measure => simp [intOf]; omega
        · have hmI : ¬ (k : Int) < (I : Int) := by omega
          rw [hI] at hmI
          go_wp2
          go_ret
          exact ⟨ret_int (by rw [HR.out]; simp [furtherN]; omega), Below.step ((Below.refl _ _).alloc (Nat.le_refl _) _) hB1.out⟩

end Go.Proofs.Ytjlfgmjcmicoaaa
