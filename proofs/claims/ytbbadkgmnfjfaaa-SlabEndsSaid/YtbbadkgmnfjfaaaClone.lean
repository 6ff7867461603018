/- A copy of a slab. -/
import Derived.Test.YtbbadkgmnfjfaaaRefN
import Derived.Test.YtbbadkgmnfjfaaaSi
import Derived.Test.YtbbadkgmnfjfaaaRow
import Derived.Test.YtbbadkgmnfjfaaaFreshK
namespace Go.Proofs.Ytbbadkgmnfjfaaa.Si
open Go.RowKit Go.Proofs.Ytbbadkgmnfjfaaa
set_option maxRecDepth 100000
set_option maxHeartbeats 4000000

theorem run_snil (W : World) (g n k : Nat) : (binOp .eql 63 (.slice (some ⟨g, 0, none⟩) n k) (.slice none 0 0)).run Try.prog W = .ok (.bool false) W := by kernel_rfl
theorem clone_any {W : World} {g cap : Nat} {l : List Ce} {rest : List Value} (hg : Fresh W g (cec l ++ rest).toArray 82) (hl : l.length ≤ 5000) (hx : ∀ (j : Nat) (t : Ce), l[j]? = some t → ∃ v : Int, t.x = .int .i64 v) :
    Calls Try.prog 47 #[.slice (some ⟨g, 0, none⟩) l.length cap] W fun e w' => ∃ g' k rest', e = .returned (.slice (some ⟨g', 0, none⟩) l.length k) ∧ W.heap.size ≤ g' ∧ Below W.heap.size W w' ∧ Fresh w' g' (cec l ++ rest').toArray 82 := by
  obtain ⟨i0, hi, hz, hs, hb⟩ := infoC
  have hgl := hg.lt
  have HL : Hid ((cec l).length = l.length * 3) := cec_length l
  have HG := Lib.hid hg
  have h1 : Hid (∀ u ∈ cec l, u.oneCell' = true) := by
    intro u hu
    unfold cec at hu
    rw [List.mem_flatMap] at hu
    obtain ⟨t, ht, hu⟩ := hu
    obtain ⟨j, hj⟩ := List.mem_iff_getElem?.1 ht
    obtain ⟨v, hv⟩ := hx j t hj
    simp only [Ce.cells, hv, List.mem_cons, List.not_mem_nil, or_false] at hu
    rcases hu with rfl | rfl | rfl <;> rfl
  clear hg hx
  obtain ⟨n, hn⟩ : ∃ n, l.length = n := ⟨_, rfl⟩
  rw [hn] at hl HL ⊢
  clear hn
  obtain ⟨W1, hW1⟩ : ∃ W1, W1 = W.alloc (.cells #[] 82) := ⟨_, rfl⟩
  have HW1 := Lib.hid hW1
  have B1 : Hid (Below W.heap.size W W1) := by show Below _ _ _; rw [hW1]; exact Below.new (Below.refl _ _) _
  have O1 : Hid (W1.ownsRow W.heap.size 82 3 (.slice (some ⟨W.heap.size, 0, none⟩) 0 0) 0 []) := by
    refine ⟨rfl, .inr ⟨W.heap.size, 0, #[], rfl, Nat.le_refl _, ?_, Nat.le_refl _, by decide, rfl, rfl⟩⟩
    rw [hW1]
    exact heap_alloc_new W _
  have N1 : Hid (∀ j u, (cec l)[j]? = some u → W1.cell? ((⟨g, 0, none⟩ : Addr).add j) = some u) := by
    intro j u hu
    have hj := (List.getElem?_eq_some_iff.1 hu).1
    have := (HG.out.below B1.out).cell j
    rw [List.getElem?_toArray, cec_app _ _ _ hj, hu] at this
    rw [← this]
    simp [Addr.add_lit]
  have S1 : Hid (W.heap.size ≤ W1.heap.size) := B1.out.size
  have hq := run_snil W g n cap
  clear hW1
  go_enter Try.func47, Try.ntmps47
  go_upto_region 3 with fail
  go_wp2_with (at_builtin; rw [← HW1.out]; refine wpList_append_own _ rfl (.tmp 5) (.tmp 6) 63 rfl W.heap.size 82 i0 (.agg #[.int .i64 0, .int .u32 0, .bool false]) 3 i0.bytes Try.underlying63 hi hz hs rfl rfl (by omega) (.slice (some ⟨W.heap.size, 0, none⟩) 0 0) 0 [] rfl O1.out ⟨g, 0, none⟩ n cap (cec l) rfl HL.out N1.out h1.out (by unfold maxLen; omega) (by rw [Nat.zero_add]; exact Nat.le_trans (Nat.mul_le_mul hl hb) (by decide)) S1.out ?_)
  intro v' w' hown hgrow hnil
  obtain ⟨g', k, cur, rfl, hbg, hcell, hnc, hcm, hcs, htake⟩ : ∃ g' k cur, v' = .slice (some ⟨g', 0, none⟩) n k ∧ W.heap.size ≤ g' ∧ w'.heap[g']? = some (.cells cur 82) ∧ n ≤ k ∧ k ≤ maxLen ∧ cur.size = k * 3 ∧ cur.toList.take (n * 3) = cec l := by
    rcases hown.2 with ⟨h, _⟩ | h
    · exact (hnil h).elim
    · exact h
  have B2 : Hid (Below W.heap.size W w') := Turned.below (S := []) (Below.refl _ _) ((Turned.of_below B1.out).kept hgrow (by simp [Value.ownBlock])) (by simp) (Nat.le_refl _)
  have F2 : Hid (Fresh w' g' (cec l ++ cur.toList.drop (n * 3)).toArray 82) := by
    show _ = _
    rw [← htake, List.take_append_drop, Array.toArray_toList]
    exact hcell
  clear hown hgrow hnil hcell htake
  go_wp2_with fail
  go_ret
  exact ⟨g', k, _, rfl, hbg, B2.out, F2.out⟩
end Go.Proofs.Ytbbadkgmnfjfaaa.Si
