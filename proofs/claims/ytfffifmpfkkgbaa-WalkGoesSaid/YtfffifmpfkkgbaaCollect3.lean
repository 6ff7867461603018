/- collect as a whole: the contract. -/
import Derived.Test.YtfffifmpfkkgbaaCollect2
namespace Go.Proofs.Ytfffifmpfkkgbaa
open Go.RowKit Go.Shelf
set_option maxRecDepth 1000000
set_option maxHeartbeats 4000000

theorem collect_any {W : World} {p q e m : Nat} {l : List Pr} (hA : ArtAt W p q e m l) (hlen : l.length < 100000) (b0 : ByteArray) (fi : Nat) (capi : Array Value) (hfi : ∀ args w, (callFunc fi args).run Try.prog w = .ok (.enter fi args) w)
    (pr : Nat → Pr → Bool) (IsAt : Nat → World → Prop) (Si : List Nat) (hSi : ∀ k ∈ Si, k < W.heap.size) (hSA : p ∉ Si ∧ q ∉ Si ∧ e ∉ Si ∧ m ∉ Si) (h0 : IsAt 0 W)
    (his : ∀ k z A, z ∈ l → W.heap.size ≤ A.heap.size → IsAt k A → Calls Try.prog fi (#[pairV z] ++ capi) A fun e B => e = .returned (.bool (pr k z)) ∧ Turned Si A B ∧ IsAt (k + 1) B)
    (hkeep : ∀ k X Y, (∀ b ∈ Si, Y.heap[b]? = X.heap[b]?) → IsAt k X → IsAt k Y) :
    Calls Try.prog 33 #[walkV p, .string b0, .func (.func fi) #[] capi] W fun e B => ∃ v, e = .returned v ∧ Turned Si W B ∧ B.ownsRow W.heap.size 34 2 v (takeI pr 0 (fromP b0 l)).length (flatP (takeI pr 0 (fromP b0 l))) ∧ ∃ k, IsAt k B := by
  obtain ⟨W1, hW1⟩ : ∃ W1, W1 = (W.alloc (.cells #[.pointer (some ⟨p, 0, none⟩)] 74)).alloc (.cells #[.func (.func fi) #[] capi] 80) := ⟨_, rfl⟩
  obtain ⟨W2, hW2⟩ : ∃ W2, W2 = W1.alloc (.cells #[.slice none 0 0] 26) := ⟨_, rfl⟩
  have s1 : W1.heap.size = W.heap.size + 2 := by rw [hW1]; simp
  have b1 : Below W.heap.size W W1 := by rw [hW1]; exact Below.new (Below.new (Below.refl _ _) _) _
  have b12 : Below W1.heap.size W1 W2 := by rw [hW2]; exact Below.new (Below.refl _ _) _
  have f1 : Fresh W1 W.heap.size #[.pointer (some ⟨p, 0, none⟩)] 74 := by rw [hW1]; exact (Fresh.new _ _ _ _ rfl).alloc _
  have f2 : Fresh W1 (W.heap.size + 1) #[.func (.func fi) #[] capi] 80 := by rw [hW1]; exact Fresh.new _ _ _ _ (by simp)
  have f3 : Fresh W2 (W.heap.size + 2) #[.slice none 0 0] 26 := by rw [hW2]; exact Fresh.new _ _ _ _ s1
  have s2 : W2.heap.size = W.heap.size + 3 := by rw [hW2, World.size_alloc, s1]
  have b2 := Below.step b1 b12
  have hfl : (fromP b0 l).length ≤ l.length := by unfold fromP; simp
  have htl : ∀ (k : Nat) (L : List Pr), (takeI pr k L).length ≤ L.length := by
    intro k L
    induction L generalizing k with
    | nil => simp [takeI]
    | cons z L ih => unfold takeI; split <;> simp [ih]
  have hcr : CRel W b0 l pr IsAt Si fi capi 0 [] (.slice none 0 0) W2 :=
    ⟨Nat.zero_le _, rfl, by simp, hkeep 0 W W2 (fun b hb => b2.block b (hSi b hb)) h0, f2.below b12, f3, ⟨rfl, .inl ⟨rfl, rfl⟩⟩, .of_below b2⟩
  have hpl := hA.lt
  have hv := visit_any (hA.below b2) hlen b0 52 #[.pointer (some ⟨W.heap.size + 1, 0, none⟩), .pointer (some ⟨W.heap.size + 2, 0, none⟩)] (enters_of Try.func52 (by kernel_rfl) rfl)
    ((W.heap.size + 2) :: Si) (some (W.heap.size + 2)) (by
      intro k hk
      rcases List.mem_cons.1 hk with hk | hk
      · omega
      · have := hSi k hk; omega) (by
      have := hSA
      simp only [List.mem_cons, not_or]
      refine ⟨⟨by omega, this.1⟩, ⟨by omega, this.2.1⟩, ⟨by omega, this.2.2.1⟩, ⟨by omega, this.2.2.2⟩⟩) (by intro c hc; cases hc; omega)
    (fun pre A => ∃ j vx, CRel W b0 l pr IsAt Si fi capi j pre vx A) (fun xs A => ∃ vx, CEnd W (takeI pr 0 (fromP b0 l)) IsAt Si vx A)
    (fun pre X Y row ⟨j, vx, h⟩ hg hr => ⟨j, vx, h.grown hSi hkeep hg (fun r e => ⟨by have := (hr r e).1; omega, (hr r e).2⟩)⟩)
    (fun xs X Y row ⟨vx, h⟩ hg hr => ⟨vx, h.grown hSi hkeep hg (fun r e => ⟨by have := (hr r e).1; omega, (hr r e).2⟩)⟩)
    ⟨0, _, hcr⟩
    (by
      rintro pre A c v g hc ⟨j, vx, h⟩ hcell hv
      cases hc
      rw [h.bl.cell 0] at hcell
      cases hcell
      exact (h.row.lt g hv).2)
    (by
      rintro pre z A hz hsz ⟨j, vx, h⟩
      refine (h.round hA.good.1 hlen hz hfi hSi (by omega) his hkeep).mono ?_
      rintro e B ⟨h1, ⟨rfl, j', v', h2⟩ | ⟨rfl, v', h2⟩⟩
      · exact ⟨h1, .inl ⟨rfl, j', v', h2⟩⟩
      · exact ⟨h1, .inr ⟨rfl, v', h2⟩⟩)
  obtain ⟨LL, hLL⟩ : ∃ LL, takeI pr 0 (fromP b0 l) = LL := ⟨_, rfl⟩
  have hLn : LL.length < 100000 := by
    rw [← hLL]
    have := htl 0 (fromP b0 l)
    omega
  have HLL := Lib.hid hLL
  have HLN := Lib.hid hLn
  rw [hLL] at hv ⊢
  clear hLL hLn
  have HV := Lib.hid hv
  have HW1 := Lib.hid hW1
  have HW2 := Lib.hid hW2
  have HF := Lib.hid (And.intro hfl (And.intro htl hlen))
  have HS := Lib.hid (And.intro hA.good.1 (And.intro s2 (And.intro hSi hkeep)))
  have c1 := (f1.below b12).cell 0
  simp only [List.getElem?_toArray, List.getElem?_cons_zero] at c1
  clear hA hfi hSi hSA h0 his hkeep hW1 hW2 b1 b12 f1 f2 f3 s2 b2 hcr hpl hv hfl htl hlen
  have hmf := @makeFunc_run Try.prog
  unfold walkV at HV ⊢
  go_enter Try.func33, Try.ntmps33
  go_upto_region 1 with fail
  rw [← HW1.out]
  go_upto_region 2 with fail
  rw [← HW2.out]
  have HEND : Hid (∀ w1, ((∃ xs, nextP (bdOf b0 xs) l = none ∧ ∃ j vx, CRel W b0 l pr IsAt Si fi capi j xs vx w1) ∨ ∃ xs : List Pr, ∃ vx, CEnd W LL IsAt Si vx w1) → ∃ vx, CEnd W LL IsAt Si vx w1) := by
    intro w1 hend
    rcases hend with ⟨xs, hn, j, vx, hc⟩ | ⟨xs, vx, hc⟩
    · refine ⟨vx, ⟨_, hc.is⟩, hc.bl, ?_, hc.turned⟩
      have h1 := hn
      rw [hc.ini, next_pre HS.out.1 b0 hc.le] at h1
      have h2 : (fromP b0 l).length ≤ j := List.getElem?_eq_none_iff.1 h1
      have h3 := hc.all
      rw [List.drop_eq_nil_of_le h2, takeI, List.append_nil, HLL.out] at h3
      rw [h3]
      exact hc.row
    · exact ⟨vx, hc⟩
  go_upto_region 3 with (go_at_call 37; refine HV.out.mono ?_; rintro e1 w1 ⟨⟨u1, rfl⟩, hend⟩; obtain ⟨vx, hce⟩ := HEND.out w1 hend; clear hend; obtain ⟨ax, cx, rfl⟩ := row_form hce.row; have x0 := hce.bl.cell 0; simp only [List.getElem?_toArray, List.getElem?_cons_zero] at x0; have HCE := Lib.hid hce; clear hce)
  go_wp2_with (go_at_call 53; refine (clone_any HCE.out.row (by have := HLN.out; omega)).mono ?_; rintro e2 w2 ⟨v2, rfl, hb2, ho2⟩; obtain ⟨a2, k2, rfl⟩ := row_form ho2; have H2 := Lib.hid (And.intro hb2 ho2); clear hb2 ho2)
  go_ret
  obtain ⟨k9, hk9⟩ := HCE.out.is
  exact ⟨_, rfl, HCE.out.turned.trans (Turned.of_below H2.out.1), row_low H2.out.2 HCE.out.turned.size, k9, HS.out.2.2.2 k9 w1 w2 (fun b hb => H2.out.1.block b (Nat.lt_of_lt_of_le (HS.out.2.2.1 b hb) HCE.out.turned.size)) hk9⟩
end Go.Proofs.Ytfffifmpfkkgbaa
