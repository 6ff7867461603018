/- Lengths of texts: size, within. -/
import Derived.Test.YtcpmnkihhenbgaaIns
import Derived.IntWalk
namespace Go.Proofs.Ytcpmnkihhenbgaa
open Go.RowKit
set_option maxRecDepth 1000000
set_option maxHeartbeats 4000000

def lenS (ks : List ByteArray) : Nat := (ks.map (·.size)).sum
theorem lenS_take (ks : List ByteArray) (i : Nat) (k : ByteArray) (h : ks[i]? = some k) : lenS (ks.take (i + 1)) = lenS (ks.take i) + k.size := by
  unfold lenS
  rw [List.take_add_one, h]
  simp only [Option.toList_some, List.map_append, List.map_cons, List.map_nil, List.sum_append, List.sum_cons, List.sum_nil]
  omega
theorem lenS_take_le : ∀ (ks : List ByteArray) (i : Nat), lenS (ks.take i) ≤ lenS ks
  | [], i => by simp [lenS]
  | k :: ks, 0 => by simp [lenS]
  | k :: ks, i + 1 => by
    have := lenS_take_le ks i
    unfold lenS at this ⊢
    simp only [List.take_succ_cons, List.map_cons, List.sum_cons]
    omega
def fitS (m : Int) (ks : List ByteArray) : Bool := ks.all fun k => decide ((k.size : Int) ≤ m)
theorem fitS_take (m : Int) (ks : List ByteArray) (i : Nat) (k : ByteArray) (h : ks[i]? = some k) : fitS m (ks.take (i + 1)) = (fitS m (ks.take i) && decide ((k.size : Int) ≤ m)) := by
  unfold fitS
  rw [List.take_add_one, h]
  simp only [Option.toList_some, List.all_append, List.all_cons, List.all_nil, Bool.and_true]
theorem fitS_not {m : Int} {ks : List ByteArray} {i : Nat} {k : ByteArray} (h : ks[i]? = some k) (hk : ¬ (k.size : Int) ≤ m) : fitS m ks = false := by
  unfold fitS
  rw [List.all_eq_false]
  exact ⟨k, List.mem_of_getElem? h, by simpa using hk⟩

theorem within_any {W : World} {e : Nat} {ks : List ByteArray} {v : Value} (h : RowS W e ks v) (m : Int) (hn : ks.length < 1000000) :
    Calls Try.prog 52 #[.int .i64 m, v] W fun e' w' => e' = .returned (.bool (fitS m ks)) ∧ w' = W := by
  obtain ⟨a, cap, hv, _⟩ := h.slice
  have hc : ∀ (j : Nat) k, ks[j]? = some k → ∃ b, a = some ⟨b, 0, none⟩ ∧ W.cell? ⟨b, j, none⟩ = some (.string k) := by
    intro j k hk
    rcases h.form with ⟨_, h2⟩ | ⟨cap, cur, h1, hf, _, _, _, h6⟩
    · rw [h2] at hk; simp at hk
    · rw [hv] at h1
      simp only [Value.slice.injEq] at h1
      exact ⟨e, h1.1, by rw [hf.cell]; exact h6 j k hk⟩
  have HC : Hid (∀ (j : Nat) k, ks[j]? = some k → ∃ b, a = some ⟨b, 0, none⟩ ∧ W.cell? ⟨b, j, none⟩ = some (.string k)) := hc
  obtain ⟨n, hnl⟩ : ∃ n, ks.length = n := ⟨_, rfl⟩
  have HN := Lib.hid hnl
  obtain ⟨r, hr⟩ : ∃ r, fitS m ks = r := ⟨_, rfl⟩
  have HR := Lib.hid hr
  rw [hv, hr, hnl]
  rw [hnl] at hn
  clear h hv hc hr hnl
  go_enter Try.func52, Try.ntmps52
  go_wp2_with fail
  go_loopw [9] (fun iv wr => ∃ i : Nat, i ≤ n ∧ iv = .int .i64 i ∧ wr = W ∧ fitS m (ks.take i) = true) (fun iv _ => n - (intOf iv).toNat)
  case atStart => exact ⟨0, Nat.zero_le _, rfl, rfl, by simp [fitS]⟩
  case round =>
    obtain ⟨i, hi, rfl, rfl, hfit⟩ := hrel
    have HF := Lib.hid hfit
    clear hfit
    by_cases hlt : i < n
    · obtain ⟨k, hk⟩ : ∃ k, ks[i]? = some k := ⟨_, List.getElem?_eq_getElem (by have := HN.out; omega)⟩
      obtain ⟨b, rfl, hcell⟩ := HC.out i k hk
      have HK := Lib.hid hk
      clear hk
      by_cases hks : (k.size : Int) ≤ m
      · have e1 : Hid (fitS m (ks.take (i + 1)) = true) := by show _ = _; rw [fitS_take m ks i k HK.out, HF.out]; simpa using hks
        go_wp2_with fail
        go_roundw
        case rel => exact ⟨i + 1, by omega, by simp, by trivial, e1.out⟩
        case measure => simp [intOf]; omega
      · have e1 : Hid (fitS m ks = false) := fitS_not HK.out hks
        go_wp2_with fail
        go_ret
        exact ⟨by rw [← HR.out, e1.out]; rfl, rfl⟩
    · have e1 : Hid (fitS m ks = true) := by
        show _ = _
        have := HF.out
        rwa [show ks.take i = ks from List.take_of_length_le (by have := HN.out; omega)] at this
      go_wp2_with fail
      go_ret
      exact ⟨by rw [← HR.out, e1.out]; rfl, rfl⟩

theorem size_any {W : World} {e : Nat} {ks : List ByteArray} {v : Value} (h : RowS W e ks v) (hn : ks.length < 1000000) (hb : lenS ks < 4611686018427387904) :
    Calls Try.prog 76 #[v] W fun e' w' => e' = .returned (.int .u64 (lenS ks : Nat)) ∧ w' = W := by
  obtain ⟨a, cap, hv, _⟩ := h.slice
  have hc : ∀ (j : Nat) k, ks[j]? = some k → ∃ b, a = some ⟨b, 0, none⟩ ∧ W.cell? ⟨b, j, none⟩ = some (.string k) := by
    intro j k hk
    rcases h.form with ⟨_, h2⟩ | ⟨cap, cur, h1, hf, _, _, _, h6⟩
    · rw [h2] at hk; simp at hk
    · rw [hv] at h1
      simp only [Value.slice.injEq] at h1
      exact ⟨e, h1.1, by rw [hf.cell]; exact h6 j k hk⟩
  have HC : Hid (∀ (j : Nat) k, ks[j]? = some k → ∃ b, a = some ⟨b, 0, none⟩ ∧ W.cell? ⟨b, j, none⟩ = some (.string k)) := hc
  obtain ⟨n, hnl⟩ : ∃ n, ks.length = n := ⟨_, rfl⟩
  have HN := Lib.hid hnl
  obtain ⟨r, hr⟩ : ∃ r, lenS ks = r := ⟨_, rfl⟩
  have HR := Lib.hid hr
  have HB := Lib.hid hb
  rw [hv, hr, hnl]
  rw [hnl] at hn
  clear h hv hc hr hnl hb
  go_enter Try.func76, Try.ntmps76
  go_wp2_with fail
  go_loopw [3, 8] (fun sv iv wr => ∃ i : Nat, i ≤ n ∧ iv = .int .i64 i ∧ wr = W ∧ ∃ s : Nat, sv = .int .i64 s ∧ lenS (ks.take i) = s) (fun _ iv _ => n - (intOf iv).toNat)
  case atStart => exact ⟨0, Nat.zero_le _, rfl, rfl, 0, rfl, by simp [lenS]⟩
  case round =>
    obtain ⟨i, hi, rfl, rfl, s, rfl, hs⟩ := hrel
    have hsl : s < 4611686018427387904 := by have := lenS_take_le ks i; have := HB.out; omega
    have HS := Lib.hid hs
    clear hs
    by_cases hlt : i < n
    · obtain ⟨k, hk⟩ : ∃ k, ks[i]? = some k := ⟨_, List.getElem?_eq_getElem (by have := HN.out; omega)⟩
      obtain ⟨b, rfl, hcell⟩ := HC.out i k hk
      have e1 : Hid (lenS (ks.take (i + 1)) = s + k.size) := by show _ = _; rw [lenS_take ks i k hk, HS.out]
      have hkl : s + k.size < 4611686018427387904 := by have := lenS_take_le ks (i + 1); have := HB.out; rw [e1.out] at *; omega
      clear hk
      go_wp2_with fail
      go_roundw
      case rel => exact ⟨i + 1, by omega, by simp, by trivial, s + k.size, by simp, e1.out⟩
      case measure => simp [intOf]; omega
    · have e1 : Hid (s = r) := by
        show _ = _
        have := HS.out
        rw [show ks.take i = ks from List.take_of_length_le (by have := HN.out; omega)] at this
        rw [← this, HR.out]
      have hw : IntKind.u64.wrap (s : Int) = (s : Int) := by rw [IntKind.wrap_u64]; omega
      go_wp2_with fail
      go_ret
      exact ⟨by rw [e1.out]; rfl, rfl⟩
end Go.Proofs.Ytcpmnkihhenbgaa
