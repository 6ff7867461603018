/- slices.Delete of one key: what stands behind it moves down, the last place is emptied. -/
import Derived.Test.YtcpmnkihhenbgaaIns
import Derived.Lib.SlicesDelete
import Derived.Deep.RegionLaw
namespace Go.Proofs.Ytcpmnkihhenbgaa
open Go.RowKit
set_option maxRecDepth 1000000
set_option maxHeartbeats 4000000

theorem delete_any {W : World} {e : Nat} {ks : List ByteArray} {v : Value} (h : RowS W e ks v) {i : Nat} (hi : i < ks.length) :
    Calls Try.prog 100 #[v, .int .i64 i, .int .i64 ((i : Int) + 1)] W fun e' w' => ∃ v', e' = .returned v' ∧ Turned [e] W w' ∧ RowS w' e (ks.take i ++ ks.drop (i + 1)) v' ∧ ∃ cur, Fresh w' e cur 9 := by
  obtain ⟨cap, cur, rfl, hf, h3, h4, h5, h6⟩ : ∃ cap cur, v = .slice (some ⟨e, 0, none⟩) ks.length cap ∧ Fresh W e cur 9 ∧ ks.length ≤ cap ∧ cap ≤ 9223372036854775807 ∧ cur.size = cap ∧ ∀ (j : Nat) (k : ByteArray), ks[j]? = some k → cur[j]? = some (.string k) := by
    rcases h.form with ⟨_, h2⟩ | h2
    · rw [h2] at hi; simp at hi
    · exact h2
  obtain ⟨i0, hi0, hz0, hz1, hz2⟩ := infoS
  obtain ⟨n, hnn⟩ : ∃ n, ks.length = n := ⟨_, rfl⟩
  rw [hnn] at hi h3 ⊢
  have hdl : (ks.drop (i + 1)).length = n - (i + 1) := by rw [List.length_drop, hnn]
  obtain ⟨W1, hW1⟩ : ∃ W1, W1 = W.drew.setCells e i (strs (ks.drop (i + 1))) := ⟨_, rfl⟩
  obtain ⟨c1, f1, l1, t1⟩ := lay_cells (W := W.drew) hf.drew i (ks.drop (i + 1))
  rw [← hW1] at f1 t1
  obtain ⟨c2, f2, l2, t2⟩ := lay_cells f1 (i + (n - (i + 1))) [⟨#[]⟩]
  -- where the keys behind it stand
  obtain ⟨A, hA, hsrc⟩ : ∃ A : Addr, (if cap = i + 1 then some (⟨e, 0, none⟩ : Addr) else some ⟨e, i + 1, none⟩) = some A ∧ Hid (∀ (j : Nat) u, (strs (ks.drop (i + 1)))[j]? = some u → W.drew.cell? (A.add j) = some u) := by
    by_cases hc : cap = i + 1
    · refine ⟨_, if_pos hc, fun j u hu => ?_⟩
      have := (List.getElem?_eq_some_iff.1 hu).1
      rw [strs_len, hdl] at this
      omega
    · refine ⟨_, if_neg hc, fun j u hu => ?_⟩
      obtain ⟨k, hk, rfl⟩ := strs_at hu
      exact drop_cell hf.drew h6 (i + 1) j k hk
  have hclear : ∀ ty c, (Builtin.clear_ #[70] ty #[.slice (some ⟨e, i + (n - (i + 1)), none⟩) (n - (i + (n - (i + 1)))) c]).run Try.prog W1 = .ok (.tuple #[]) (W1.setCells e (i + (n - (i + 1))) (strs [⟨#[]⟩])) := fun ty c => by
    have h1 : n - (i + (n - (i + 1))) = 1 := by omega
    have := Lib.run_clear_slice W1 70 9 ty _ Try.underlying70 Try.zeroValue9 rfl rfl e (i + (n - (i + 1))) 1 c (by omega) (fun j hj => by rw [f1.cell, Array.getElem?_eq_getElem (by rw [l1.size, h5]; omega)]; rfl) (fun j _ => f1.thawed _)
    rw [h1]
    exact this
  have HE : Hid (∃ v', Ending.returned (.slice (some ⟨e, 0, none⟩) (i + (n - (i + 1))) cap) = .returned v' ∧ Turned [e] W (W1.setCells e (i + (n - (i + 1))) (strs [⟨#[]⟩])) ∧ RowS (W1.setCells e (i + (n - (i + 1))) (strs [⟨#[]⟩])) e (ks.take i ++ ks.drop (i + 1)) v' ∧ ∃ cur, Fresh (W1.setCells e (i + (n - (i + 1))) (strs [⟨#[]⟩])) e cur 9) := by
    refine ⟨_, rfl, ((Turned.refl _ _).drew.trans t1).trans t2, ⟨.inr ⟨cap, c2, by simp; omega, f2, by simp; omega, h4, by rw [l2.size, l1.size]; exact h5, fun j k hj => ?_⟩⟩, _, f2⟩
    have hjl := (List.getElem?_eq_some_iff.1 hj).1
    simp at hjl
    rw [l2.else_ j (.inl (by omega))]
    rcases Nat.lt_or_ge j i with hji | hji
    · rw [List.getElem?_append_left (by simp; omega), List.getElem?_take_of_lt hji] at hj
      rw [l1.else_ j (.inl hji)]
      exact h6 j k hj
    · rw [List.getElem?_append_right (by simp; omega), List.length_take, Nat.min_eq_left (by omega)] at hj
      have := l1.here (j - i) k hj (by rw [h5]; omega)
      rwa [show i + (j - i) = j from by omega] at this
  have s1 : Hid ((strs (ks.drop (i + 1))).length = (n - (i + 1)) * 1) := by show _ = _; rw [strs_len, hdl, Nat.mul_one]
  have s3 : Hid (∀ j, j < (strs (ks.drop (i + 1))).length → (W.drew.cell? ⟨e, 0 + i * 1 + j, none⟩).isSome = true ∧ W.drew.frozen? ⟨e, 0 + i * 1 + j, none⟩ = false) := fun j hj => by
    rw [strs_len, hdl] at hj
    exact ⟨by rw [hf.drew.cell, Array.getElem?_eq_getElem (by omega)]; rfl, hf.drew.thawed _⟩
  have hw : Hid (W1 = W.drew.setCells e (0 + i * 1) (strs (ks.drop (i + 1)))) := by show _ = _; rw [hW1, Nat.mul_one, Nat.zero_add]
  have mixed : Try.prog.follows .mixedOrders = true := by kernel_rfl
  have k1 : i ≤ cap := by omega
  have k2 : i + 1 ≤ cap := by omega
  have k3 : (0 : Int) ≤ (i : Int) + 1 := by omega
  have k4 : (i : Int) + 1 ≤ (n : Int) := by omega
  have k5 : ((i : Int) + 1).toNat = i + 1 := by omega
  clear f1 l1 t1 f2 l2 t2 hW1 hdl h h6 hf hnn
  go_enter Try.func100, Try.ntmps100
  go_wp2_with fail
  go_region_law_o (refine step_append_room rfl (.tmp 22) (.tmp 25) 70 rfl 9 i0 1 Try.underlying70 hi0 hz1 e 0 i cap (by simp [Act.eval, Act.put]) A (n - (i + 1)) (cap - (i + 1)) _ (by simp [Act.eval, Act.put]) s1.out hsrc.out (fun u hu => strs_small hu) (by omega) s3.out ?_; rw [← hw.out])
  go_wp2_with fail
  go_ret
  exact HE.out
end Go.Proofs.Ytcpmnkihhenbgaa
