/- The reference model of a slab. -/
import Derived.Test.YtbbadkgmnfjfaaaBase
import Derived.Test.YtbbadkgmnfjfaaaMix
namespace Go.Proofs.Ytbbadkgmnfjfaaa
open Go.RowKit
set_option maxRecDepth 100000
set_option maxHeartbeats 4000000

def pc (l : List Ce) : List Value := l.flatMap fun t => [.bool t.t, t.x, .int .u32 t.u]
theorem pc_length (l : List Ce) : (pc l).length = l.length * 3 := by
  induction l with
  | nil => rfl
  | cons t l ih => simp only [pc, List.flatMap_cons, List.length_append, List.length_cons, List.length_nil] at *; omega
theorem pc_at : ∀ (l : List Ce) (i : Nat) (t : Ce), l[i]? = some t → (pc l)[i * 3]? = some (.bool t.t) ∧ (pc l)[i * 3 + 1]? = some t.x ∧ (pc l)[i * 3 + 2]? = some (.int .u32 t.u)
  | [], _, _, h => by simp at h
  | x :: l, 0, t, h => by simp at h; subst h; exact ⟨rfl, rfl, rfl⟩
  | x :: l, i + 1, t, h => by
    obtain ⟨a, b, c⟩ := pc_at l i t (by simpa using h)
    refine ⟨?_, ?_, ?_⟩
    · rw [show (i + 1) * 3 = i * 3 + 3 from by omega]; exact a
    · rw [show (i + 1) * 3 + 1 = i * 3 + 1 + 3 from by omega]; exact b
    · rw [show (i + 1) * 3 + 2 = i * 3 + 2 + 3 from by omega]; exact c
theorem pc_set (l : List Ce) (i : Nat) (t : Ce) (hi : i < l.length) : pc (l.set i t) = (((pc l).set (i * 3) (.bool t.t)).set (i * 3 + 1) t.x).set (i * 3 + 2) (.int .u32 t.u) := by
  induction l generalizing i with
  | nil => simp at hi
  | cons a l ih =>
    cases i with
    | zero => rfl
    | succ i =>
      have := ih i (by simpa using hi)
      rw [List.set_cons_succ, show pc (a :: l.set i t) = [.bool a.t, a.x, .int .u32 a.u] ++ pc (l.set i t) from rfl, this, show pc (a :: l) = [.bool a.t, a.x, .int .u32 a.u] ++ pc l from rfl, show (i + 1) * 3 = i * 3 + 3 from by omega, show i * 3 + 3 + 1 = i * 3 + 1 + 3 from by omega, show i * 3 + 3 + 2 = i * 3 + 2 + 3 from by omega]
      rfl
structure RAt (W : World) (r gr : Nat) (l : List Ce) : Prop where
  hr : Fresh W r #[.slice (some ⟨gr, 0, none⟩) l.length l.length] 70
  hg : Fresh W gr (pc l).toArray 73
theorem RAt.below {W W' : World} {r gr : Nat} {l : List Ce} (h : RAt W r gr l) (hb : Below W.heap.size W W') : RAt W' r gr l := ⟨h.hr.below hb, h.hg.below hb⟩
theorem RAt.drew {W : World} {r gr : Nat} {l : List Ce} (h : RAt W r gr l) : RAt W.drew r gr l := ⟨h.hr.drew, h.hg.drew⟩
theorem RAt.ne {W : World} {r gr : Nat} {l : List Ce} (h : RAt W r gr l) : r ≠ gr := by
  rintro rfl
  have h1 := h.hr
  have h2 := h.hg
  unfold Fresh at h1 h2
  rw [h1] at h2
  injection h2 with h2
  injection h2 with _ h2 _
  exact absurd h2 (by decide)
theorem RAt.one {W : World} {r gr : Nat} {l : List Ce} (h : RAt W r gr l) (i : Nat) (t : Ce) (ht : l[i]? = some t) : W.cell? ⟨gr, i * 3, none⟩ = some (.bool t.t) ∧ W.cell? ⟨gr, i * 3 + 1, none⟩ = some t.x ∧ W.cell? ⟨gr, i * 3 + 2, none⟩ = some (.int .u32 t.u) := by
  obtain ⟨a0, a1, a2⟩ := pc_at l i t ht
  refine ⟨(h.hg.cell _).trans ?_, (h.hg.cell _).trans ?_, (h.hg.cell _).trans ?_⟩ <;> simpa using by assumption
/-- How many places are taken. -/
theorem rlen_any {W : World} {r gr : Nat} {l : List Ce} (h : RAt W r gr l) (hl : l.length ≤ 5000) :
    Calls Try.prog 31 #[.pointer (some ⟨r, 0, none⟩)] W fun e w' => e = .returned (.int .i64 (l.countP (·.t))) ∧ w' = W := by
  have HH := Lib.hid h
  have c0 := h.hr.cell 0
  simp only [List.getElem?_toArray, List.getElem?_cons_zero] at c0
  have HE : Hid (((l.take l.length).countP (·.t) : Nat) = l.countP (·.t)) := by show _ = _; rw [List.take_length]
  obtain ⟨n, hn⟩ : ∃ n, l.length = n := ⟨_, rfl⟩
  rw [hn] at hl HE c0
  have HN := Lib.hid hn
  clear h hn
  go_enter Try.func31, Try.ntmps31
  go_wp2_with fail
  go_loopw [3, 4] (fun c i wr => ∃ k : Nat, k ≤ n ∧ i = .int .i64 k ∧ c = .int .i64 ((l.take k).countP (·.t) : Nat) ∧ wr = W) (fun _ i _ => n - (intOf i).toNat)
  case atStart => exact ⟨0, by omega, rfl, by simp, rfl⟩
  case round =>
    obtain ⟨k, hk, rfl, rfl, hw⟩ := hrel
    obtain rfl := hw
    have k0 : (0 : Int) ≤ (k : Int) := by omega
    by_cases hlt : k < n
    · have k1 : (k : Int) < (n : Int) := by omega
      have k2 : decide (k < n) = true := decide_eq_true hlt
      obtain ⟨t, ht⟩ : ∃ t, l[k]? = some t := ⟨l[k]'(by rw [HN.out]; exact hlt), List.getElem?_eq_getElem _⟩
      obtain ⟨e0, _, _⟩ := HH.out.one k t ht
      have hcnt : (l.take k).countP (·.t) ≤ k := Nat.le_trans List.countP_le_length (by simp; omega)
      have HS : Hid ((l.take (k + 1)).countP (·.t) = (l.take k).countP (·.t) + (if t.t = true then 1 else 0)) := by
        show _ = _
        rw [List.take_add_one, ht, List.countP_append]
        cases h : t.t <;> simp [h]
      obtain ⟨m, hm⟩ : ∃ m : Nat, (l.take k).countP (·.t) = m := ⟨_, rfl⟩
      rw [hm] at hcnt HS ⊢
      obtain ⟨b, hb⟩ : ∃ b, t.t = b := ⟨_, rfl⟩
      rw [hb] at e0 HS
      clear ht hm hb
      cases b
      · go_wp2_with fail
        go_roundw
        case rel => exact ⟨k + 1, by omega, by go_num, by rw [HS.out]; simp, trivial⟩
        case measure => simp [intOf]; omega
      · go_wp2_with fail
        go_roundw
        case rel => exact ⟨k + 1, by omega, by go_num, by rw [HS.out]; simp, trivial⟩
        case measure => simp [intOf]; omega
    · obtain rfl : k = n := by omega
      rw [HE.out]
      go_wp2_with fail
      go_ret
      exact ⟨rfl, rfl⟩
/-- How many places can be taken. -/
theorem rleft_any {W : World} {r gr : Nat} {l : List Ce} (h : RAt W r gr l) (hl : l.length ≤ 5000) :
    Calls Try.prog 32 #[.pointer (some ⟨r, 0, none⟩)] W fun e w' => e = .returned (.int .i64 (l.countP (fun t => !t.t && decide (t.u < 4294967295)))) ∧ w' = W := by
  have HH := Lib.hid h
  have c0 := h.hr.cell 0
  simp only [List.getElem?_toArray, List.getElem?_cons_zero] at c0
  have HE : Hid (((l.take l.length).countP (fun t => !t.t && decide (t.u < 4294967295)) : Nat) = l.countP (fun t => !t.t && decide (t.u < 4294967295))) := by show _ = _; rw [List.take_length]
  obtain ⟨n, hn⟩ : ∃ n, l.length = n := ⟨_, rfl⟩
  rw [hn] at hl HE c0
  have HN := Lib.hid hn
  clear h hn
  go_enter Try.func32, Try.ntmps32
  go_wp2_with fail
  go_loopw [3, 4] (fun c i wr => ∃ k : Nat, k ≤ n ∧ i = .int .i64 k ∧ c = .int .i64 ((l.take k).countP (fun t => !t.t && decide (t.u < 4294967295)) : Nat) ∧ wr = W) (fun _ i _ => n - (intOf i).toNat)
  case atStart => exact ⟨0, by omega, rfl, by simp, rfl⟩
  case round =>
    obtain ⟨k, hk, rfl, rfl, hw⟩ := hrel
    obtain rfl := hw
    have k0 : (0 : Int) ≤ (k : Int) := by omega
    by_cases hlt : k < n
    · have k1 : (k : Int) < (n : Int) := by omega
      have k2 : decide (k < n) = true := decide_eq_true hlt
      obtain ⟨t, ht⟩ : ∃ t, l[k]? = some t := ⟨l[k]'(by rw [HN.out]; exact hlt), List.getElem?_eq_getElem _⟩
      obtain ⟨e0, _, e2⟩ := HH.out.one k t ht
      have hcnt : (l.take k).countP (fun t => !t.t && decide (t.u < 4294967295)) ≤ k := Nat.le_trans List.countP_le_length (by simp; omega)
      have HS : Hid ((l.take (k + 1)).countP (fun t => !t.t && decide (t.u < 4294967295)) = (l.take k).countP (fun t => !t.t && decide (t.u < 4294967295)) + (if (!t.t && decide (t.u < 4294967295)) = true then 1 else 0)) := by
        show _ = _
        rw [List.take_add_one, ht, List.countP_append]
        cases h : (!t.t && decide (t.u < 4294967295)) <;> simp [h]
      obtain ⟨m, hm⟩ : ∃ m : Nat, (l.take k).countP (fun t => !t.t && decide (t.u < 4294967295)) = m := ⟨_, rfl⟩
      rw [hm] at hcnt HS ⊢
      obtain ⟨tx, tu, tt⟩ := t
      dsimp only at e0 e2 HS
      obtain ⟨c, hc⟩ : ∃ c, decide (tu < 4294967295) = c := ⟨_, rfl⟩
      rw [hc] at HS
      clear ht hm
      cases tt <;> cases c
      all_goals
        go_wp2_with fail
        go_roundw
        case rel => exact ⟨k + 1, by omega, by go_num, by rw [HS.out]; simp, trivial⟩
        case measure => simp [intOf]; omega
    · obtain rfl : k = n := by omega
      rw [HE.out]
      go_wp2_with fail
      go_ret
      exact ⟨rfl, rfl⟩
end Go.Proofs.Ytbbadkgmnfjfaaa
