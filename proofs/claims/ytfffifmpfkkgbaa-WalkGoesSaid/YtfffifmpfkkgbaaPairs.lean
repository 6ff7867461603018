/- The pairs that a book yields, in a slice of their own. -/
import Derived.Test.YtfffifmpfkkgbaaAllS
import Derived.Laws.AppendOwn
import Derived.OwnWalkIn
namespace Go.Proofs.Ytfffifmpfkkgbaa
open Go.RowKit Go.Shelf
attribute [local go_sem] Oper.semAt_some
set_option maxRecDepth 100000
set_option maxHeartbeats 4000000

theorem row_keep {W W' : World} {B n z : Nat} {e : TypeId} {v : Value} {xs : List Value} (h : W.ownsRow B e z v n xs) (hb : ∀ k, v.ownBlock = some k → W'.heap[k]? = W.heap[k]?) : W'.ownsRow B e z v n xs := by
  obtain ⟨h1, h2⟩ := h
  refine ⟨h1, ?_⟩
  rcases h2 with h2 | ⟨g, cap, cur, rfl, h4, h5, h6⟩
  · exact .inl h2
  · exact .inr ⟨g, cap, cur, rfl, h4, (hb g rfl).trans h5, h6⟩
theorem row_type {W : World} {B n z : Nat} {e : TypeId} {v : Value} {xs : List Value} (h : W.ownsRow B e z v n xs) {k : Nat} (hk : v.ownBlock = some k) : ∃ cs, W.heap[k]? = some (.cells cs e (0, 0)) := by
  obtain ⟨_, h2⟩ := h
  rcases h2 with ⟨rfl, _⟩ | ⟨g, cap, cur, rfl, h4, h5, h6⟩
  · cases hk
  · cases hk
    exact ⟨cur, h5⟩
theorem row_apart {W : World} {B n z : Nat} {e : TypeId} {v : Value} {xs : List Value} (h : W.ownsRow B e z v n xs) {p : Nat} {cs : Array Value} {t : TypeId} (hf : Fresh W p cs t) (ht : t ≠ e) : v.ownBlock ≠ some p := by
  intro hk
  obtain ⟨cs', h1⟩ := row_type h hk
  unfold Fresh at hf
  rw [hf] at h1
  cases h1
  exact ht rfl
theorem row_two {W : World} {B n z n' z' : Nat} {e e' : TypeId} {v v' : Value} {xs xs' : List Value} (h : W.ownsRow B e z v n xs) (h' : W.ownsRow B e' z' v' n' xs') (he : e ≠ e') {k : Nat} (hk : v.ownBlock = some k) : some k ≠ v'.ownBlock := by
  intro e2
  obtain ⟨cs, h1⟩ := row_type h hk
  obtain ⟨cs', h2⟩ := row_type h' e2.symm
  rw [h1] at h2
  cases h2
  exact he rfl
theorem row_low {W : World} {B C n z : Nat} {e : TypeId} {v : Value} {xs : List Value} (h : W.ownsRow B e z v n xs) (hC : C ≤ B) : W.ownsRow C e z v n xs := by
  obtain ⟨h1, h2⟩ := h
  refine ⟨h1, ?_⟩
  rcases h2 with h2 | ⟨g, cap, cur, h3, h4, h5⟩
  · exact .inl h2
  · exact .inr ⟨g, cap, cur, h3, Nat.le_trans hC h4, h5⟩
theorem row_form {W : World} {B n z : Nat} {e : TypeId} {v : Value} {xs : List Value} (h : W.ownsRow B e z v n xs) : ∃ ao cap, v = .slice ao n cap := by
  rcases h.2 with ⟨h1, h2⟩ | ⟨g, cap, cur, h1, _⟩
  · exact ⟨none, 0, by rw [h1, h2]⟩
  · exact ⟨_, cap, h1⟩
theorem Fresh.grown {W W' : World} {p : Nat} {cs : Array Value} {t : TypeId} {row : Option Nat} (h : Fresh W p cs t) (hg : W.grownBy W' row) (hr : some p ≠ row) : Fresh W' p cs t := (hg.block p h.lt hr).trans h
theorem infoP : ∃ i0 : TypeInfo, Try.prog.info? 34 = some i0 ∧ i0.zero = some (.agg #[.string ⟨#[]⟩, .string ⟨#[]⟩]) ∧ i0.size = 2 ∧ i0.bytes = 32 := by
  have h : (Try.prog.info? 34).map (fun i => (i.zero, i.size, i.bytes)) = some (some (.agg #[.string ⟨#[]⟩, .string ⟨#[]⟩]), 2, 32) := by kernel_rfl
  cases hi : Try.prog.info? 34 with
  | none => rw [hi] at h; simp at h
  | some i0 =>
    rw [hi] at h
    simp only [Option.map_some, Option.some.injEq, Prod.mk.injEq] at h
    exact ⟨i0, rfl, h.1, h.2.1, h.2.2⟩
/-- The cells of pairs. -/
def flatP (l : List Pr) : List Value := l.flatMap fun t => [.string t.1, .string t.2]
theorem flatP_snoc (l : List Pr) (x : Pr) : flatP (l ++ [x]) = flatP l ++ [.string x.1, .string x.2] := by simp [flatP]
theorem flatP_length : ∀ l : List Pr, (flatP l).length = l.length * 2
  | [] => rfl
  | x :: l => by
    have := flatP_length l
    simp only [flatP, List.flatMap_cons, List.length_append, List.length_cons, List.length_nil] at this ⊢
    omega
/-- What stands while the pairs are gathered. -/
structure MidP (w W : World) (X C : Nat) (l : List Pr) (vx : Value) (k : Nat) : Prop where
  fx : Fresh W X #[vx] 26
  ox : W.ownsRow C 34 2 vx k (flatP (l.take k))
  low : Below w.heap.size w W
  hC : w.heap.size ≤ X ∧ X < C
theorem MidP.same {w W W' : World} {X C : Nat} {l : List Pr} {vx : Value} {k : Nat} (h : MidP w W X C l vx k) (hm : Below w.heap.size w W') (hb : ∀ k, k < W.heap.size → (∃ cs T, W.heap[k]? = some (.cells cs T (0, 0))) → W'.heap[k]? = W.heap[k]?) : MidP w W' X C l vx k :=
  ⟨(hb X h.fx.lt ⟨_, _, h.fx⟩).trans h.fx, row_keep h.ox fun k hk => hb k (h.ox.lt k hk).2 (by obtain ⟨cs, e⟩ := row_type h.ox hk; exact ⟨cs, _, e⟩), hm, h.hC⟩
theorem MidP.below {w W W' : World} {X C : Nat} {l : List Pr} {vx : Value} {k : Nat} (h : MidP w W X C l vx k) (hb : Below W.heap.size W W') : MidP w W' X C l vx k :=
  h.same (Below.step h.low hb) (fun k hk _ => hb.block k hk)
theorem MidP.kept {w W W' : World} {row : Option Nat} {X C : Nat} {l : List Pr} {vx : Value} {k : Nat} (h : MidP w W X C l vx k) (hg : W.grownBy W' row) (hr : ∀ r, row = some r → w.heap.size ≤ r ∧ ∃ o : Obj, W.heap[r]? = some o ∧ o.isCells = false) : MidP w W' X C l vx k :=
  h.same (Turned.below (S := []) (Below.refl _ _) ((Turned.of_below h.low).kept hg (fun r e => (hr r e).1)) (by simp) (Nat.le_refl _)) (fun k hk ⟨cs, T, hcs⟩ => hg.block k hk (fun e => by
    obtain ⟨o, ho, hc⟩ := (hr k e.symm).2
    rw [hcs] at ho
    cases ho
    cases hc))
theorem MidP.push {w W w7 : World} {X C : Nat} {l : List Pr} {vx v7 : Value} {k : Nat} {x : Pr} (h : MidP w W X C l vx k)
    (hown : w7.ownsRow C 34 2 v7 (k + 1) (flatP (l.take k) ++ [.string x.1, .string x.2])) (hg : (W.alloc (.cells #[.string x.1, .string x.2] 34)).grownBy w7 vx.ownBlock)
    (hbt : flatP (l.take (k + 1)) = flatP (l.take k) ++ [.string x.1, .string x.2]) :
    w7.cell? ⟨X, 0, none⟩ = some vx ∧ w7.frozen? ⟨X, 0, none⟩ = false ∧ MidP w (w7.setCell ⟨X, 0, none⟩ v7) X C l v7 (k + 1) ∧ KeepT [X] W (w7.setCell ⟨X, 0, none⟩ v7) := by
  have low : Below W.heap.size W (W.alloc (.cells #[.string x.1, .string x.2] 34)) := Below.new (Below.refl _ _) _
  have h1 := h.below low
  have hlt : ∀ b, vx.ownBlock = some b → C ≤ b := fun b hb => (h.ox.lt b hb).1
  have hC := h.hC
  have hnX : some X ≠ vx.ownBlock := fun e => by have := hlt X e.symm; omega
  have fx7 := h1.fx.grown hg hnX
  have t1 : Turned (X :: vx.ownBlock.toList) (W.alloc (.cells #[.string x.1, .string x.2] 34)) w7 :=
    ⟨hg.os, hg.tape, hg.output, hg.size, fun b hb hn => hg.block b hb (fun e => hn (by rw [← e]; simp))⟩
  have T : Turned (X :: vx.ownBlock.toList) W (w7.setCell ⟨X, 0, none⟩ v7) := ((Turned.of_below low).trans t1).setCell (.inl (by simp)) _ _
  have hin : ∀ b ∈ (X :: vx.ownBlock.toList), w.heap.size ≤ b := fun b hb => by
    rcases List.mem_cons.1 hb with rfl | hb
    · omega
    · have := hlt b (by simpa using hb)
      omega
  have hl := h.low.size
  refine ⟨(fx7.cell 0).trans rfl, fx7.thawed 0, ⟨fx7.set 0 v7, ?_, Turned.below h.low T hin hl, hC⟩, ?_⟩
  · rw [hbt]
    refine row_keep hown (fun b hb => Below.heap_setCell w7 ⟨X, 0, none⟩ v7 b ?_)
    have := (hown.lt b hb).1
    show b ≠ X
    omega
  · refine ⟨T.os, T.tape, T.output, T.size, fun b hb hn => ?_⟩
    by_cases hv : vx.ownBlock = some b
    · right
      obtain ⟨cs, hcs⟩ := row_type h.ox hv
      exact ⟨cs, _, hcs⟩
    · left
      refine T.block b hb ?_
      intro hx
      rcases List.mem_cons.1 hx with rfl | hx
      · exact hn (by simp)
      · exact hv (by simpa using hx)

theorem pairs_any {w : World} {p q e m : Nat} {l : List Pr} (h : ArtAt w p q e m l) (hlen : l.length < 100000) :
    Calls Try.prog 15 #[.pointer (some ⟨p, 0, none⟩)] w fun e' w' => ∃ v, e' = .returned v ∧ Below w.heap.size w w' ∧ w'.ownsRow w.heap.size 34 2 v l.length (flatP l) := by
  have HH := Lib.hid h
  have HL := Lib.hid hlen
  have hpl := h.lt.1
  clear h hlen
  refine (callsIn_wide (n := 10)).1 ?_
  refine callsIn_of_wp_marks Try.func15 rfl trivial ?_ rfl
  simp only [Try.ntmps15, List.size_toArray, List.length_cons, List.length_nil, Nat.reduceAdd, Nat.reduceSub, Array.replicate_succ, Array.replicate_zero, List.push_toArray, List.append_toArray, List.nil_append, List.cons_append]
  refine wpIn_wide.2 ?_
  refine wp_mono (Q := calmQ _) ?_ calmQ_out
  go_upto_region 2 with fail
  obtain ⟨W1, hW1⟩ : ∃ W1, W1 = w.alloc (.cells #[.slice none 0 0] 26) := ⟨_, rfl⟩
  rw [← hW1]
  have B1 : Below w.heap.size w W1 := by rw [hW1]; exact Below.new (Below.refl _ _) _
  have fx1 : Fresh W1 w.heap.size #[.slice none 0 0] 26 := by rw [hW1]; exact Fresh.new _ _ _ _ rfl
  have s1 : W1.heap.size = w.heap.size + 1 := by rw [hW1]; simp
  have H1 := Lib.hid (And.intro B1 (And.intro fx1 s1))
  clear hW1 B1 fx1 s1
  go_wp2_with (go_at_call 35; refine (allv_any _ _).mono ?_; rintro e WL ⟨rfl, hWL⟩; have HWL := Lib.hid hWL; clear hWL)
  obtain ⟨iP, hP0, hP1, hP2, hP3⟩ := infoP
  have HP := Lib.hid (And.intro hP0 (And.intro hP1 (And.intro hP2 hP3)))
  clear hP0 hP1 hP2 hP3
  have s1 := H1.out.2.2
  have szL : WL.heap.size = W1.heap.size + 1 := by rw [HWL.out]; simp
  have BL : Below W1.heap.size W1 WL := by rw [HWL.out]; exact Below.new (Below.refl _ _) _
  have fa : Fresh WL W1.heap.size #[.pointer (some ⟨p, 0, none⟩)] 24 := by rw [HWL.out]; exact Fresh.new _ _ _ _ rfl
  obtain ⟨C, hC⟩ : ∃ C, C = WL.heap.size := ⟨_, rfl⟩
  have ML : MidP w WL w.heap.size C l (.slice none 0 0) 0 :=
    ⟨H1.out.2.1.below BL, ⟨rfl, .inl ⟨rfl, rfl⟩⟩, Below.step H1.out.1 BL, by omega⟩
  obtain ⟨S, hS⟩ : ∃ S, S = [w.heap.size, WL.heap.size + 1] := ⟨_, rfl⟩
  have SZ := Lib.hid (And.intro szL (And.intro hC s1))
  refine (wpIn_wide (n := 10)).1 ?_
  generalize hA0 : ({ tmps := _, defers := _ } : Act) = A0
  refine range_box rfl (by omega) (gf := 55) (lb := #[.pointer (some ⟨W1.heap.size, 0, none⟩)]) (by rw [← hA0]; rfl) trivial (enters_of Try.func55 (by kernel_rfl) rfl)
    (all_own kKeepT 9 (by omega) W1.heap.size S l WL p q e m (HH.out.below ML.low) HL.out ((fa.cell 0).trans rfl) fa.lt (fun k h => by rw [hS] at h; simp at h; omega))
    (fun h k => h.trans k) (fun Wc o _ => KeepT.put (by rw [hS]; simp) o) (Below.refl _ _) (fun _ => rfl)
    (fun pre Wc => ∃ (k : Nat) (vx : Value), k ≤ l.length ∧ pre = l.take k ∧ MidP w Wc w.heap.size C l vx k)
    (fun _ _ _ => False)
    (fun pre Y Z row ⟨k, vx, h1, h2, h3⟩ hg hr => ⟨k, vx, h1, h2, h3.kept hg (fun r e => ⟨by have := (hr r e).1; omega, (hr r e).2⟩)⟩)
    (fun _ _ _ _ _ h _ _ => h)
    ⟨0, _, Nat.zero_le _, rfl, ML⟩
    (fun x a' Wc => a' = { tmps := (((A0.tmps.setIfInBounds 8 (.string x.1)).setIfInBounds 9 (.string x.2)).setIfInBounds 4 (.string x.1)).setIfInBounds 5 (.string x.2), defers := [] })
    (fun x a' _ Y Z row h1 hg hr => h1)
    ?assignment ?round ?done ?stop
  all_goals subst hA0
  case assignment =>
    rintro l' pre x Wc K' hG ⟨k, vx, hk, hpre, hM⟩ hK
    have HK := hK _ Wc ((KeepsOthers.refl _).from _) (KeepT.refl _ Wc) ⟨k, vx, hk, hpre, hM⟩ rfl
    clear hK hM hG szL BL fa ML s1
    simp only [List.setIfInBounds_toArray, List.set_cons_succ, List.set_cons_zero] at HK
    replace HK := Lib.hid HK
    unfold prV
    gi_wp2
    exact HK.out
  case round =>
    rintro l' pre x a' W5 hG ⟨k, vx, hk, hpre, hM⟩ rfl hz
    simp only [List.setIfInBounds_toArray, List.set_cons_succ, List.set_cons_zero]
    obtain ⟨j, hj, hjx⟩ := hG
    obtain ⟨h4, h5⟩ := List.append_inj' hjx rfl
    obtain rfl : k = j := by
      have := congrArg List.length (hpre.symm.trans h4)
      rw [List.length_take, List.length_take] at this
      omega
    have hx : x = l[k] := by simpa using h5
    have hnx : pre ++ [x] = l.take (k + 1) := by rw [hjx]; exact (List.take_succ_eq_append_getElem hj).symm
    have hbt : flatP (l.take (k + 1)) = flatP (l.take k) ++ [.string x.1, .string x.2] := by
      rw [List.take_succ_eq_append_getElem hj, ← hx, flatP_snoc]
    obtain ⟨x1, x2⟩ := x
    dsimp only at hbt ⊢
    have d1 := hM.fx.cell 0
    simp only [List.getElem?_toArray, List.getElem?_cons_zero] at d1
    have hl1 := hM.fx.lt
    have hCW : C ≤ W5.heap.size := by rw [hC]; omega
    obtain ⟨ax, kx, rfl⟩ := row_form hM.ox
    have low : Below W5.heap.size W5 (W5.alloc (.cells #[.string x1, .string x2] 34)) := Below.new (Below.refl _ _) _
    have d1' : (W5.alloc (.cells #[.string x1, .string x2] 34)).cell? ⟨w.heap.size, 0, none⟩ = some (.slice ax k kx) := ((hM.fx.below low).cell 0).trans rfl
    have o5 := Lib.hid (hM.below low).ox
    have N5 : Hid (∀ (j : Nat) u, [Value.string x1, Value.string x2][j]? = some u → (W5.alloc (.cells #[.string x1, .string x2] 34)).cell? ((⟨W5.heap.size, 0, none⟩ : Addr).add j) = some u) := by
      intro j u hj
      rw [Addr.add_lit, Nat.zero_add, (Fresh.new W5 W5.heap.size #[.string x1, .string x2] 34 rfl).cell j]
      simpa using hj
    have HM := Lib.hid (And.intro hM (And.intro hCW (And.intro hj (And.intro hnx hbt))))
    have hk16 : Hid (k ≤ 100000) := by have := HL.out; show k ≤ 100000; omega
    have HC5 : Hid (C ≤ (W5.alloc (.cells #[.string x1, .string x2] 34)).heap.size) := by show _ ≤ _; simp; omega
    clear hM hbt hj hjx h4 h5 hx hnx hpre hk low hCW szL BL fa ML hC s1
    gi_wp2_with (gi_at_builtin; refine wpListIn_append_own _ rfl (.tmp 10) (.tmp 14) 26 rfl C 34 iP (.agg #[.string ⟨#[]⟩, .string ⟨#[]⟩]) 2 32 Try.underlying26 HP.out.1 HP.out.2.1 HP.out.2.2.1 HP.out.2.2.2 rfl (by omega) (.slice ax k kx) k (flatP (l.take k)) rfl o5.out ⟨W5.heap.size, 0, none⟩ 1 1 [.string x1, .string x2] rfl rfl N5.out (by intro u hu; simp at hu; rcases hu with rfl | rfl <;> rfl) (by have := hk16.out; unfold maxLen; omega) (by have := hk16.out; omega) HC5.out ?_)
    intro v7 w7 hown hgrow hnn
    obtain ⟨a7, k7, rfl⟩ := row_form hown
    have HPS := Lib.hid (HM.out.1.push (x := (x1, x2)) hown hgrow HM.out.2.2.2.2)
    obtain ⟨e1, e2, e3, e4⟩ := HPS.out
    have HP2 := Lib.hid (And.intro e3 e4)
    clear hown hgrow hnn e3 e4 HPS
    gi_wp2
    refine ⟨KeepsFrom.of_keepT HP2.out.2 (by intro k hk; simp at hk; have := SZ.out; omega), HP2.out.2.wide (by intro k hk; simp at hk; subst hk; rw [hS]; simp), k + 1, _, HM.out.2.2.1, HM.out.2.2.2.1, HP2.out.1⟩
  case done =>
    rintro D xs W5 hD hxs ⟨k, vx, hk, hpre, hM⟩ hK
    obtain rfl : k = l.length := by
      have := congrArg List.length (hpre.symm.trans hxs)
      rw [List.length_take] at this
      omega
    have HM5 := Lib.hid hM
    have HK5 := Lib.hid hK
    have d1 := hM.fx.cell 0
    simp only [List.getElem?_toArray, List.getElem?_cons_zero] at d1
    obtain ⟨ax, kx, rfl⟩ := row_form hM.ox
    have hlow := hM.low
    have hox := hM.ox
    rw [List.take_of_length_le (Nat.le_refl _)] at hox
    have hXC := hM.hC
    have HR := Lib.hid (And.intro hlow (row_low hox (show w.heap.size ≤ C by omega)))
    have hDlt : w.heap.size ≤ D := by have := SZ.out; omega
    have HDD := Lib.hid hDlt
    have hne : ∀ b, (Value.slice ax l.length kx).ownBlock = some b → b ≠ D := fun b hb e => by
      obtain ⟨cs, h1⟩ := row_type hox hb
      rw [e, hK] at h1
      cases h1
    have HNE := Lib.hid hne
    clear hM hK hk hpre szL BL fa ML hC s1 hlow hox hXC hD hDlt hne
    go_wp2
    refine calm_ret1 (v := .slice ax l.length kx) rfl HK5.out ?_ ⟨_, rfl, ?_, ?_⟩
    · simp [results, Try.results15, go_sem]
    · exact Turned.below (S := [D]) HR.out.1 (Turned.put (by simp) _) (by simpa using HDD.out) HR.out.1.size
    · exact row_keep HR.out.2 (fun b hb => World.putObj_heap_other (by first | exact HNE.out b hb | exact (HNE.out b hb).symm))
  case stop =>
    rintro D c pre W5 hD hS2 h hK'
    exact h.elim
end Go.Proofs.Ytfffifmpfkkgbaa
