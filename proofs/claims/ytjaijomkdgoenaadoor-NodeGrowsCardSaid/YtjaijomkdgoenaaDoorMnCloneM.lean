/- A copy of a row. -/
import Derived.Test.YtjaijomkdgoenaaDoorMnRem
import Derived.Deep.MidRow
import Derived.Deep.WholeRow
namespace Go.Proofs.YtjaijomkdgoenaaDoor.Mn
open Go.RowKit
set_option maxRecDepth 100000
set_option maxHeartbeats 4000000

theorem run_snil (W : World) (g n k : Nat) : (binOp .eql 90 (.slice (some ⟨g, 0, none⟩) n k) (.slice none 0 0)).run Tryd.prog W = .ok (.bool false) W := by kernel_rfl
theorem run_snil2 (W : World) : (binOp .eql 90 (.slice none 0 0) (.slice none 0 0)).run Tryd.prog W = .ok (.bool true) W := by kernel_rfl
theorem clone_any {W : World} {q e : Nat} {es : List En} {room : Nat} {cs : Array Value} {v : Value} (h : RowM W q e es room cs v) :
    Calls Tryd.prog 110 #[v] W fun e' w' => ∃ v', e' = .returned v' ∧ Below W.heap.size W w' ∧ w'.ownsRow 0 137 3 v' es.length (flat es) ∧ ∀ k, v'.ownBlock = some k → W.heap.size ≤ k := by
  rcases h.form with ⟨rfl, rfl⟩ | ⟨cap, cur, rfl, hcur, hcap, hmax, hcs, htk⟩
  · have hq := run_snil2 W
    clear h
    go_enter Tryd.func110, Tryd.ntmps110
    go_wp2_with fail
    go_ret
    exact ⟨_, rfl, Below.refl _ _, ⟨rfl, .inl ⟨rfl, rfl⟩⟩, fun k hk => by cases hk⟩
  · obtain ⟨iE, jE, jE0, jE1, jE2⟩ := infoE
    have hl := h.len
    have HL : Hid ((flat es).length = es.length * 3) := flat_length es
    have HG := Lib.hid h
    have h1 : Hid (∀ u ∈ flat es, u.oneCell' = true) := fun u hu => flat_small hu
    have NX : Hid (∀ (j : Nat) u, (flat es)[j]? = some u → W.cell? ⟨e, j, none⟩ = some u) := by
      intro j u hj
      rw [hcur.cell]
      have hjl : j < es.length * 3 := by rw [← flat_length]; exact (List.getElem?_eq_some_iff.1 hj).1
      rw [← htk, List.getElem?_take_of_lt hjl, Array.getElem?_toList] at hj
      exact hj
    have hel : Hid (e < W.heap.size) := h.lt
    clear h hcur htk hcs
    obtain ⟨n, hn⟩ : ∃ n, es.length = n := ⟨_, rfl⟩
    rw [hn] at hl HL hcap ⊢
    clear hn
    obtain ⟨W1, hW1⟩ : ∃ W1, W1 = W.alloc (.cells #[] 137) := ⟨_, rfl⟩
    have HW1 := Lib.hid hW1
    have B1 : Hid (Below W.heap.size W W1) := by show Below _ _ _; rw [hW1]; exact Below.new (Below.refl _ _) _
    have O1 : Hid (W1.ownsRow W.heap.size 137 3 (.slice (some ⟨W.heap.size, 0, none⟩) 0 0) 0 []) := by
      refine ⟨rfl, .inr ⟨W.heap.size, 0, #[], rfl, Nat.le_refl _, ?_, Nat.le_refl _, by decide, rfl, rfl⟩⟩
      rw [hW1]
      exact heap_alloc_new W _
    have N1 : Hid (∀ j u, (flat es)[j]? = some u → W1.cell? ((⟨e, 0, none⟩ : Addr).add j) = some u) := by
      intro j u hu
      rw [Addr.add_lit, Nat.zero_add, B1.out.cell (p := ⟨e, j, none⟩) hel.out]
      exact NX.out j u hu
    have S1 : Hid (W.heap.size ≤ W1.heap.size) := B1.out.size
    have hq := run_snil W e n cap
    have HJ := Lib.hid jE
    clear hW1 jE
    go_enter Tryd.func110, Tryd.ntmps110
    go_upto_region 3 with fail
    go_wp2_with (at_builtin; rw [← HW1.out]; refine wpList_append_own _ rfl (.tmp 5) (.tmp 6) 90 rfl W.heap.size 137 iE (.agg #[.int .u8 0, .int .i64 0, .int .u32 0]) 3 24 Tryd.underlying90 HJ.out jE0 jE1 jE2 rfl (by omega) (.slice (some ⟨W.heap.size, 0, none⟩) 0 0) 0 [] rfl O1.out ⟨e, 0, none⟩ n cap (flat es) rfl HL.out N1.out h1.out (by unfold maxLen; omega) (by omega) S1.out ?_)
    intro v' w' hown hgrow hnil
    have B2 : Hid (Below W.heap.size W w') := Turned.below (S := []) (Below.refl _ _) ((Turned.of_below B1.out).kept hgrow (by simp [Value.ownBlock])) (by simp) (Nat.le_refl _)
    have O2 : Hid (w'.ownsRow 0 137 3 v' n (flat es) ∧ ∀ k, v'.ownBlock = some k → W.heap.size ≤ k) := by
      refine ⟨⟨?_, ?_⟩, fun k hk => ?_⟩
      · rw [HL.out]
      · rcases hown.2 with ⟨h1, h2⟩ | ⟨g, c, cur, h1, h2, h3⟩
        · exact .inl ⟨h1, by omega⟩
        · refine .inr ⟨g, c, cur, ?_, Nat.zero_le _, ?_⟩
          · exact h1
          · exact h3
      · exact (hown.lt k hk).1
    clear hown hgrow hnil
    go_wp2_with fail
    go_ret
    exact ⟨v', rfl, B2.out, O2.out⟩
end Go.Proofs.YtjaijomkdgoenaaDoor.Mn
