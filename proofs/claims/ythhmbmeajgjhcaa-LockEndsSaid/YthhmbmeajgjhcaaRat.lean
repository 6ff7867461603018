/- The reference model of a table: what only reads. -/
import Derived.Test.YthhmbmeajgjhcaaRm
namespace Go.Proofs.Ythhmbmeajgjhcaa
open Go.RowKit
set_option maxRecDepth 100000
set_option maxHeartbeats 4000000

def SameB (w w' : World) : Prop := Below w.heap.size w w'
/-- What is read of the model, and of the box of a reference. -/
theorem RAt.reads {W : World} {B r : Nat} {l : List Wd} {t : Int} (h : RAt W B r l t) : ∃ aR cR aW cW, l.length ≤ cR ∧ l.length ≤ cW ∧ ∀ W', Below W.heap.size W W' → Fresh W' r #[.slice aR l.length cR, .slice aW l.length cW, .int .i64 t] TL ∧
    ∀ (i : Nat) (u : Wd), l[i]? = some u → ∃ g k, aR = some ⟨g, 0, none⟩ ∧ aW = some ⟨k, 0, none⟩ ∧ g < W'.heap.size ∧ k < W'.heap.size ∧ W'.cell? ⟨g, i * 2, none⟩ = some (.int .i64 u.s) ∧ W'.cell? ⟨g, i * 2 + 1, none⟩ = some (.int .u32 u.g) ∧ W'.cell? ⟨k, i, none⟩ = some (.int .u64 u.w) := by
  obtain ⟨aR, cR, aW, cW, hf, hR, hW⟩ := h.view
  have cap : ∀ {B' z n : Nat} {e : TypeId} {a : Option Addr} {c : Nat} {xs : List Value}, W.ownsRow B' e z (.slice a n c) n xs → n ≤ c := by
    intro B' z n e a c xs hx
    obtain ⟨_, h2⟩ := hx
    rcases h2 with ⟨h3, h4⟩ | ⟨g, cap, cur, h3, _, _, h6, _⟩
    · cases h3; exact Nat.le_refl _
    · cases h3; exact h6
  refine ⟨aR, cR, aW, cW, cap hR, cap hW, fun W' hb => ⟨hf.below hb, fun i u hu => ?_⟩⟩
  have keep : ∀ {B' z n : Nat} {e : TypeId} {v : Value} {xs : List Value}, W.ownsRow B' e z v n xs → W'.ownsRow B' e z v n xs := fun hx => row_keep hx fun k hk => by
    obtain ⟨cs, e⟩ := row_type hx hk
    exact hb.block k (Array.getElem?_eq_some_iff.1 e).1
  obtain ⟨g, e1, _, h1, _, _, h2, h3⟩ := ref_cells (keep hR) i u hu
  obtain ⟨k, e2, _, h4, _, _, h5, _⟩ := word_cells (keep hW) i u hu
  exact ⟨g, k, e1, e2, h1, h4, h2, h3, h5⟩

theorem rat_any {W : World} {B r : Nat} {l : List Wd} {t : Int} (h : RAt W B r l t) (ho : ∀ u ∈ l, RefOk u.s u.g) (hl : l.length ≤ 1000000) (x g : Int) (hr : RefOk x g) :
    Calls Try.prog 43 #[.pointer (some ⟨r, 0, none⟩), refV x g] W fun e w' => e = .returned (.int .i64 (atN l x g)) ∧ Below W.heap.size W w' := by
  obtain ⟨aR, cR, aW, cW, lc, _, hv⟩ := h.reads
  have HV := Lib.hid hv
  have HO := Lib.hid ho
  have HR := Lib.hid hr
  have HL := Lib.hid hl
  have B1 := Below.new (Below.refl W.heap.size W) (.cells #[.int .i64 x, .int .u32 g] 33)
  have F1 := Fresh.new W W.heap.size #[.int .i64 x, .int .u32 g] 33 rfl
  obtain ⟨W1, hW1⟩ : ∃ W1, W1 = W.alloc (.cells #[.int .i64 x, .int .u32 g] 33) := ⟨_, rfl⟩
  rw [← hW1] at B1 F1
  have HB := Lib.hid B1
  have HF := Lib.hid F1
  have HW := Lib.hid hW1
  obtain ⟨b, hb⟩ : ∃ b, W.heap.size = b := ⟨_, rfl⟩
  rw [hb] at HF
  have HBb := Lib.hid hb
  clear h hv ho hr B1 F1 hW1 hb
  go_enter Try.func43, Try.ntmps43
  go_upto_region 1 with fail
  rw [← HW.out, HBb.out]
  go_wp2_with fail
  go_loopw [5] (fun it wr => ∃ i : Nat, i ≤ l.length ∧ it = .int .i64 i ∧ SameB W1 wr ∧ Hid (∀ j u, j < i → l[j]? = some u → u.is x g = false)) (fun it _ => l.length - (intOf it).toNat)
  case atStart => exact ⟨0, by omega, rfl, Below.refl _ _, fun j u hj => by omega⟩
  case round =>
    obtain ⟨i, hi, rfl, hB, hs⟩ := hrel
    have HS := Lib.hid (show Below W1.heap.size W1 wr from hB)
    have c0 := ((HV.out _ (Below.step HB.out HS.out)).1).cell 0
    have b0 := (HF.out.below HS.out).cell 0
    have b1 := (HF.out.below HS.out).cell 1
    simp only [List.getElem?_toArray, List.getElem?_cons_zero, List.getElem?_cons_succ] at c0 b0 b1
    by_cases hlt : i < l.length
    · obtain ⟨u, hu⟩ : ∃ u, l[i]? = some u := ⟨l[i], List.getElem?_eq_getElem hlt⟩
      obtain ⟨q, k, rfl, rfl, _, _, e0, e1, _⟩ := (HV.out _ (Below.step HB.out HS.out)).2 i u hu
      have hum : u ∈ l := List.mem_of_getElem? hu
      have q1 : (i : Int) < (l.length : Int) := by omega
      have q2 : (l.length : Int) ≤ (cR : Int) := by omega
      have q0 : (0 : Int) ≤ (i : Int) := Int.natCast_nonneg _
      have q3 : decide (i < l.length) = true := decide_eq_true hlt
      have HU := Lib.hid hu
      have HI : Hid (i < l.length) := hlt
      have he := fun W => run_eqref (HO.out u hum) HR.out W
      clear hu hum hlt hi hB
      obtain ⟨us, ug, uw⟩ := u
      dsimp only at he e0 e1
      clear he
      by_cases hx : us = x ∧ ug = g
      · obtain ⟨rfl, rfl⟩ := hx
        go_wp2_with fail
        go_region
        go_wp2_with fail
        go_ret
        refine ⟨?_, Below.drew (Below.step HB.out HS.out)⟩
        have hu2 : l[i]'HI.out = ⟨us, ug, uw⟩ := by
          have := HU.out
          rw [List.getElem?_eq_getElem HI.out] at this
          exact Option.some.inj this
        rw [atN_found HI.out (by rw [hu2]; exact (is_iff _ _ _).2 ⟨rfl, rfl⟩) hs.out]
        rfl
      · have HN : Hid (Wd.is ⟨us, ug, uw⟩ x g = false) := Bool.eq_false_iff.2 (fun hc => hx ((is_iff _ _ _).1 hc))
        have hx2 : (¬ us = x) ∨ (us = x ∧ ¬ ug = g) := by
          by_cases h1 : us = x
          · exact .inr ⟨h1, fun h2 => hx ⟨h1, h2⟩⟩
          · exact .inl h1
        clear hx
        rcases hx2 with k1 | ⟨rfl, k1⟩
        all_goals
          go_wp2_with fail
          go_region
          go_wp2_with fail
          go_roundw
          case rel =>
            refine ⟨i + 1, HI.out, by go_num, HS.out.drew, fun j v hj hv => ?_⟩
            by_cases hji : j = i
            · subst hji
              have := HU.out
              rw [hv] at this
              cases this
              exact HN.out
            · exact hs.out j v (by omega) hv
          case measure => have := HI.out; simp [intOf]; omega
    · obtain rfl : i = l.length := by omega
      have q1 : ¬ (l.length : Int) < (l.length : Int) := by omega
      have q3 : decide (l.length < l.length) = false := by simp
      clear hlt hi hB
      go_wp2_with fail
      go_ret
      refine ⟨?_, Below.step HB.out HS.out⟩
      rw [atN_none hs.out]
      rfl
end Go.Proofs.Ythhmbmeajgjhcaa
