/- The reference model of an art: Put. -/
import Derived.Test.YtfffifmpfkkgbaaRef11
import Derived.Deep.DeepCutAuto
import Derived.Deep.RegionLaw
namespace Go.Proofs.Ytfffifmpfkkgbaa
open Go.RowKit Go.Shelf
set_option maxRecDepth 1000000
set_option maxHeartbeats 4000000

theorem told {W w : World} {n : Nat} {v : Value} {l : List Pr} {cs : Array Value} (hb : Below W.heap.size W w) (hS : Seg w v l) (hf : Fresh w n cs 28) (hn : W.heap.size ≤ n) : Below W.heap.size W (w.setCell ⟨n, 0, none⟩ v) ∧ Seg (w.setCell ⟨n, 0, none⟩ v) v l := by
  have hT := (Turned.refl [n] w).setCell (p := n) (.inl (by simp)) 0 v
  refine ⟨Turned.below (S := [n]) hb hT (by simpa using hn) hb.size, hS.same fun g hg => hT.block g (hS.lt hg).1 (fun e => ?_)⟩
  simp at e
  subst e
  obtain ⟨cur, hc⟩ := (hS.lt hg).2
  exact absurd (fresh_ty hc hf) (by decide)
/-- The receiver's box and the result's. -/
theorem rbox2 (W : World) (v : Value) : ∃ W1, W1 = (W.alloc (.cells #[v] 28)).alloc (.cells #[.slice none 0 0] 28) ∧ Below W.heap.size W W1 ∧
    Fresh W1 W.heap.size #[v] 28 ∧ Fresh W1 (W.heap.size + 1) #[.slice none 0 0] 28 ∧ W1.heap.size = W.heap.size + 2 :=
  ⟨_, rfl, Below.new (Below.new (Below.refl _ _) _) _, (Fresh.new _ _ _ _ rfl).alloc _, Fresh.new _ _ _ _ (by simp), by simp⟩
theorem rput_bad {W : World} {v : Value} {l : List Pr} (h : Seg W v l) (x y : ByteArray) (hxs : x.size ≤ 1000) (hbad : ¬ (Cd.isCode x.data.toList = true ∧ y.size ≤ 32)) :
    Calls Try.prog 27 #[rb v, .string x, .string y] W fun e' w' => ∃ v', e' = .returned (.tuple #[rb v', .int .i64 (putA x y l).2]) ∧ Below W.heap.size W w' ∧ Seg w' v' l := by
  obtain ⟨a, cap, rfl, hcap, _⟩ := h.form
  obtain ⟨W1, hW1, b1, f1, f2, s1⟩ := rbox2 W (.slice a l.length cap)
  have HS := Lib.hid (h.below b1)
  have HB := Lib.hid b1
  have HW1 := Lib.hid hW1
  have HF2 := Lib.hid f2
  have c0 := f1.cell 0
  have t0 := f2.cell 0
  have s0 := f2.thawed 0
  simp only [List.getElem?_toArray, List.getElem?_cons_zero] at c0 t0
  have HD := Lib.hid (Cd.rdecode_any x hxs W1)
  obtain ⟨E, hE⟩ : ∃ E, (putA x y l).2 = E := ⟨_, rfl⟩
  have hR := told (v := .slice a l.length cap) b1 (h.below b1) f2 (Nat.le_succ _)
  have q0 := (f2.set 0 (.slice a l.length cap)).cell 0
  simp at q0
  have HR := Lib.hid hR
  rw [hE]
  generalize hPost : (fun (e' : Ending) (w' : World) => ∃ v', e' = .returned (.tuple #[rb v', .int .i64 E]) ∧ Below W.heap.size W w' ∧ Seg w' v' l) = Post
  have HPost := Lib.hid hPost
  have hfin : E = 2 ∧ Cd.keyL x.data.toList = none ∨ E = 3 ∧ (∃ k, Cd.keyL x.data.toList = some k) ∧ 32 < y.size := by
    unfold putA at hE
    cases hk : Cd.keyL x.data.toList with
    | none =>
      left
      have : Cd.isCode x.data.toList = false := by unfold Cd.isCode; rw [hk]; rfl
      rw [this] at hE
      exact ⟨by simpa using hE.symm, rfl⟩
    | some k =>
      right
      have hc : Cd.isCode x.data.toList = true := by unfold Cd.isCode; rw [hk]; rfl
      have hy : ¬ y.size ≤ 32 := fun hy => hbad ⟨hc, hy⟩
      rw [hc, if_pos rfl, if_neg hy] at hE
      exact ⟨hE.symm, ⟨k, rfl⟩, by omega⟩
  clear h hW1 b1 f1 f2 hR hE hPost hbad hxs
  unfold rb
  rcases hfin with ⟨rfl, hk⟩ | ⟨rfl, ⟨k, hk⟩, hy⟩
  · unfold Cd.decOf at HD
    rw [hk] at HD
    dsimp only at HD
    clear hk
    go_enter Try.func27, Try.ntmps27
    go_upto_region 1 with fail
    rw [← HW1.out]
    go_wp2_with (go_at_call 46; refine HD.out.mono ?_; rintro e4 w4 ⟨rfl, h4⟩; replace h4 := h4.symm; subst h4)
    refine bodyPost_ret (v := .tuple #[rb (.slice a l.length cap), .int .i64 2]) (by simp [results, Try.results27, go_sem, rb, q0]) rfl ?_
    rw [← HPost.out]
    exact ⟨_, rfl, HR.out⟩
  · unfold Cd.decOf at HD
    rw [hk] at HD
    dsimp only at HD
    obtain ⟨n, hn⟩ : ∃ n, y.size = n := ⟨_, rfl⟩
    rw [hn] at hy
    have jy : (32 : Int) < (n : Int) := by omega
    have HN := hn
    clear hk hy
    go_enter Try.func27, Try.ntmps27
    go_upto_region 1 with fail
    rw [← HW1.out]
    go_wp2_with (go_at_call 46; refine HD.out.mono ?_; rintro e4 w4 ⟨rfl, h4⟩; replace h4 := h4.symm; subst h4)
    refine bodyPost_ret (v := .tuple #[rb (.slice a l.length cap), .int .i64 3]) (by simp [results, Try.results27, go_sem, rb, q0]) rfl ?_
    rw [← HPost.out]
    exact ⟨_, rfl, HR.out⟩
end Go.Proofs.Ytfffifmpfkkgbaa
