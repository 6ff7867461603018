/- visit: a function called on the pairs from a bound on. -/
import Derived.Test.YtfffifmpfkkgbaaFrameR
namespace Go.Proofs.Ytfffifmpfkkgbaa
open Go.RowKit Go.Shelf
attribute [local go_sem] Oper.semAt_some
set_option maxRecDepth 1000000
set_option maxHeartbeats 4000000

theorem visit_any {W : World} {p q e m : Nat} {l : List Pr} (hA : ArtAt W p q e m l) (hlen : l.length < 100000) (b0 : ByteArray) (fd : Nat) (caps : Array Value) (hfd : ∀ args w, (callFunc fd args).run Try.prog w = .ok (.enter fd args) w)
    (S : List Nat) (oc : Option Nat) (hS : ∀ k ∈ S, k < W.heap.size) (hSp : p ∉ S ∧ q ∉ S ∧ e ∉ S ∧ m ∉ S) (hoc : ∀ c, oc = some c → c < W.heap.size)
    (I Ix : List Pr → World → Prop) (hI : OwnFrom W.heap.size I) (hIx : OwnFrom W.heap.size Ix) (h0 : I [] W)
    (hrow : ∀ pre A c v g, oc = some c → I pre A → A.cell? ⟨c, 0, none⟩ = some v → v.ownBlock = some g → g < A.heap.size)
    (hdo : ∀ pre z A, nextP (bdOf b0 pre) l = some z → W.heap.size ≤ A.heap.size → I pre A → Calls Try.prog fd (#[pairV z] ++ caps) A fun e' B => KR S oc A B ∧ ((e' = .returned (.bool true) ∧ I (pre ++ [z]) B) ∨ (e' = .returned (.bool false) ∧ Ix (pre ++ [z]) B))) :
    Calls Try.prog 37 #[walkV p, .string b0, .func (.func fd) #[] caps] W fun e' B => (∃ u, e' = .returned u) ∧ ((∃ xs, nextP (bdOf b0 xs) l = none ∧ I xs B) ∨ ∃ xs, Ix xs B) := by
  obtain ⟨W1, hW1⟩ : ∃ W1, W1 = (W.alloc (.cells #[.pointer (some ⟨p, 0, none⟩)] 74)).alloc (.cells #[.func (.func fd) #[] caps] 80) := ⟨_, rfl⟩
  have b1 : Below W.heap.size W W1 := by rw [hW1]; exact Below.new (Below.new (Below.refl _ _) _) _
  have f1 : Fresh W1 W.heap.size #[.pointer (some ⟨p, 0, none⟩)] 74 := by rw [hW1]; exact (Fresh.new _ _ _ _ rfl).alloc _
  have f2 : Fresh W1 (W.heap.size + 1) #[.func (.func fd) #[] caps] 80 := by rw [hW1]; exact Fresh.new _ _ _ _ (by simp)
  have s1 : W1.heap.size = W.heap.size + 2 := by rw [hW1]; simp
  have i1 : I [] W1 := hI [] W W1 none h0 ⟨b1.os, b1.tape, b1.output, b1.size, fun k hk _ => b1.block k hk⟩ (fun r e => by cases e)
  have c0 := f1.cell 0
  simp only [List.getElem?_toArray, List.getElem?_cons_zero] at c0
  have HW1 := Lib.hid hW1
  have H1 := Lib.hid (And.intro b1 (And.intro f2 (And.intro s1 (And.intro i1 (hA.below b1)))))
  have HI := Lib.hid hI
  have HIx := Lib.hid hIx
  have HS := Lib.hid hS
  have HSp := Lib.hid hSp
  have HO := Lib.hid hoc
  have HR := Lib.hid hrow
  have HD := Lib.hid hdo
  have HFD := Lib.hid hfd
  have HLT := Lib.hid hA.lt
  have HSRT := Lib.hid hA.good.1
  clear hW1 b1 f1 f2 s1 i1 hI hIx hS hSp hoc hrow hdo hfd h0 hA
  have hmf := @makeFunc_run Try.prog
  unfold walkV
  refine (callsIn_wide (n := 10)).1 ?_
  refine callsIn_of_wp_marks Try.func37 rfl trivial ?_ rfl
  simp only [Try.ntmps37, List.size_toArray, List.length_cons, List.length_nil, Nat.reduceAdd, Nat.reduceSub, Array.replicate_succ, Array.replicate_zero, List.push_toArray, List.append_toArray, List.nil_append, List.cons_append]
  refine wpIn_wide.2 ?_
  refine wp_mono (Q := calmQ _) ?_ calmQ_out
  go_upto_region 1 with fail
  rw [← HW1.out]
  go_wp2_with (go_at_call 31; refine (wfrom_any p b0 _).mono ?_; rintro e WL ⟨rfl, hWL⟩; have HWL := Lib.hid hWL; clear hWL)
  have z1 := H1.out.2.2.1
  have szL : WL.heap.size = W.heap.size + 4 := by rw [HWL.out]; simp; omega
  have BL : Below W1.heap.size W1 WL := by rw [HWL.out]; exact Below.new (Below.new (Below.refl _ _) _) _
  have fw : Fresh WL W1.heap.size #[.pointer (some ⟨p, 0, none⟩)] 74 := by rw [HWL.out]; exact (Fresh.new _ _ _ _ rfl).alloc _
  have ff : Fresh WL (W1.heap.size + 1) #[.string b0] 9 := by rw [HWL.out]; exact Fresh.new _ _ _ _ (by simp)
  have fd2 := H1.out.2.1.below BL
  have iL : I [] WL := HI.out [] W1 WL none H1.out.2.2.2.1 ⟨BL.os, BL.tape, BL.output, BL.size, fun k hk _ => BL.block k hk⟩ (fun r e => by cases e)
  have aL := H1.out.2.2.2.2.below BL
  have cw := fw.cell 0
  have cf := ff.cell 0
  simp only [List.getElem?_toArray, List.getElem?_cons_zero] at cw cf
  obtain ⟨S', hS'⟩ : ∃ S', S' = (WL.heap.size + 1) :: S := ⟨_, rfl⟩
  have nS : ∀ k, W.heap.size ≤ k → k ≠ WL.heap.size + 1 → k ∉ S' := fun k h1 h2 h3 => by
    rw [hS'] at h3
    rcases List.mem_cons.1 h3 with h3 | h3
    · exact h2 h3
    · have := HS.out k h3; omega
  have nA : ∀ k, k < W.heap.size → k ∉ S → k ∉ S' := fun k h1 h2 h3 => by
    rw [hS'] at h3
    rcases List.mem_cons.1 h3 with h3 | h3
    · omega
    · exact h2 h3
  have sub : ∀ k ∈ S, k ∈ S' := fun k hk => by rw [hS']; exact List.mem_cons_of_mem _ hk
  have HBY : WalkBy WL W1.heap.size p b0 (fun _ => l) (fun _ b => restN l b) oc (KR S' oc) (fun pre A => I pre A ∧ ArtAt A p q e m l ∧ Fresh A (W.heap.size + 1) #[.func (.func fd) #[] caps] 80 ∧ Fresh A W1.heap.size #[.pointer (some ⟨p, 0, none⟩)] 74) := by
    refine ⟨fun _ => hlen, fun A B hk hc => hk.other hc (nS _ (by omega) (by omega)) (by decide), fun pre A h => ⟨q, e, m, h.2.1⟩, fun c hc => by have := HO.out c hc; omega, fun pre A c v g hc h => HR.out pre A c v g hc h.1, fun A B b cs hb hk hn hf => hk.pair hf (fun h => ?_) hn, fun i b z hz => restN_lt HSRT.out hz⟩
    rw [hS'] at h
    rcases List.mem_cons.1 h with h | h
    · omega
    · have := HS.out b h; omega
  have HBY := Lib.hid HBY
  have HNS := Lib.hid nS
  have HNA := Lib.hid nA
  have HSUB := Lib.hid sub
  have HOK : Hid (∀ c, oc = some c → c < WL.heap.size ∧ c ≠ WL.heap.size + 1) := fun c hc => by have := HO.out c hc; omega
  have HL0 := Lib.hid (And.intro iL (And.intro aL (And.intro fd2 fw)))
  have HSZ := Lib.hid (And.intro z1 szL)
  have hmx : Try.prog.follows .mixedOrders = true := by kernel_rfl
  clear c0 nS nA sub iL aL fd2 BL ff hlen z1 szL
  refine (wpIn_wide (n := 10)).1 ?_
  generalize hA0 : ({ tmps := _, defers := _ } : Act) = A0
  refine range_st rfl (by omega) (gf := 50) (lb := #[.pointer (some ⟨W1.heap.size, 0, none⟩), .pointer (some ⟨W1.heap.size + 1, 0, none⟩)]) (by rw [← hA0]; rfl) trivial (enters_of Try.func50 (by kernel_rfl) rfl)
    (walk_own (10 - 1) (by omega) W1.heap.size (W1.heap.size + 1) p b0 (fun _ => l) (fun _ b => restN l b) oc (KR S' oc) _ WL HBY.out fw cf)
    (fun h k => h.trans k) (fun Wc o hw => KR.put (by rw [hS']; exact List.mem_cons_self ..) (fun c hc => ⟨by have := HOK.out c hc; omega, (HOK.out c hc).2⟩) o) (Below.refl _ _) (fun _ => rfl)
    (fun pre Wc => I pre Wc ∧ ArtAt Wc p q e m l ∧ Fresh Wc (W.heap.size + 1) #[.func (.func fd) #[] caps] 80 ∧ Fresh Wc W1.heap.size #[.pointer (some ⟨p, 0, none⟩)] 74)
    (fun c pre Wc => c = .ret ∧ Ix pre Wc)
    (fun pre X Y row h hg hr => ?_)
    (fun c pre X Y row h hg hr => ⟨h.1, HIx.out _ X Y row h.2 hg (fun r e => ⟨by have := (hr r e).1; have := HSZ.out; omega, (hr r e).2⟩)⟩)
    HL0.out (fun _ _ h => h)
    (fun x a' Wc => ∃ b, a' = { tmps := (A0.tmps.setIfInBounds 10 (pairV x)).setIfInBounds 6 (.pointer (some ⟨b, 0, none⟩)), defers := [] } ∧ Fresh Wc b (prV x) 34)
    (fun x a' _ X Y row h hg hr => ?_)
    ?assignment ?round ?done ?stop
  · obtain ⟨h1, h2, h3, h4⟩ := h
    obtain ⟨v, hv⟩ := h2.st
    have hk := fun r e => (hr r e).2
    exact ⟨HI.out _ X Y row h1 hg (fun r e => ⟨by have := (hr r e).1; have := HSZ.out; omega, (hr r e).2⟩), ⟨h2.ptr.kept hg hk, v, hv.kept hg hk (fun e => by have := (hr m e).1; have := HLT.out; have := HSZ.out; omega)⟩, h3.kept hg hk, h4.kept hg hk⟩
  · obtain ⟨b, h1, h2⟩ := h
    exact ⟨b, h1, h2.kept hg (fun r e => (hr r e).2)⟩
  all_goals subst hA0
  case assignment =>
    rintro l' pre x Wc K' hG hI hK'
    obtain ⟨W9, hW9⟩ : ∃ W9, W9 = Wc.alloc (.cells (prV x) 34) := ⟨_, rfl⟩
    have B9 : Below Wc.heap.size Wc W9 := by rw [hW9]; exact Below.new (Below.refl _ _) _
    have i9 : I pre W9 := HI.out _ Wc W9 none hI.1 ⟨B9.os, B9.tape, B9.output, B9.size, fun k hk _ => B9.block k hk⟩ (fun r e => by cases e)
    have HK' := hK' _ W9 (KeepsFrom.of_turned (S := []) (Turned.of_below B9) (by simp)) ((KR.of_turned (S := []) (Turned.of_below B9) (fun c hc => ⟨by have := HO.out c hc; have := hI.2.2.1.lt; omega, by simp⟩)).wide (by simp)) ⟨i9, hI.2.1.below B9, hI.2.2.1.below B9, hI.2.2.2.below B9⟩ ⟨Wc.heap.size, rfl, by rw [hW9]; exact Fresh.new _ _ _ _ rfl⟩
    rw [hW9] at HK'
    clear hK' hI hG B9 i9 hW9
    simp only [List.setIfInBounds_toArray, List.set_cons_succ, List.set_cons_zero] at HK'
    replace HK' := Lib.hid HK'
    unfold pairV prV at *
    gi_wp2
    exact HK'.out
  case round =>
    rintro l' pre x a' W5 hG hI5 ⟨b, rfl, hb5⟩ hz
    simp only [List.setIfInBounds_toArray, List.set_cons_succ, List.set_cons_zero]
    obtain ⟨pre', z', hpz, hnx⟩ := hG
    obtain ⟨rfl, rfl⟩ : pre = pre' ∧ x = z' := by
      have := List.append_inj' hpz rfl
      exact ⟨this.1, by simpa using this.2⟩
    obtain ⟨xk, xv⟩ := x
    have hcall := HD.out pre (xk, xv) W5 hnx (by have := HSZ.out; omega) hI5.1
    unfold pairV at hcall
    dsimp only at hcall
    have HC := Lib.hid hcall
    have d0 := (hI5.2.2.1.cell 0).trans rfl
    have x0 := hb5.cell 0
    have x1 := hb5.cell 1
    unfold prV at x0 x1
    simp only [List.getElem?_toArray, List.getElem?_cons_zero, List.getElem?_cons_succ] at d0 x0 x1
    have H5 := Lib.hid hI5
    have he := HFD.out
    clear hpz hnx hcall hI5 hb5
    gi_wp2
    refine ⟨trivial, (callsIn_round HC.out).mono ?_⟩
    rintro e6 W6 ⟨hk6, ⟨rfl, hi6⟩ | ⟨rfl, hi6⟩⟩
    · have K6 := hk6.wide HSUB.out
      have h6 : KeepsFrom WL.heap.size W5 W6 ∧ KR S' oc W5 W6 ∧ (I (pre ++ [(xk, xv)]) W6 ∧ ArtAt W6 p q e m l ∧ Fresh W6 (W.heap.size + 1) #[.func (.func fd) #[] caps] 80 ∧ Fresh W6 W1.heap.size #[.pointer (some ⟨p, 0, none⟩)] 74) := by
        have hz := HSZ.out
        refine ⟨hk6.keeps (fun k hk => by have := HS.out k hk; omega), K6, hi6, H5.out.2.1.kr hk6 HSp.out.1 HSp.out.2.1 HSp.out.2.2.1 HSp.out.2.2.2, hk6.other H5.out.2.2.1 (fun h => ?_) (by decide), hk6.other H5.out.2.2.2 (fun h => ?_) (by decide)⟩
        · have := HS.out _ h; omega
        · have := HS.out _ h; omega
      have H6 := Lib.hid h6
      clear hk6 hi6 K6 h6
      gi_wp2
      exact H6.out
    · have K6 := hk6.wide HSUB.out
      have h6 : KeepsFrom WL.heap.size W5 W6 ∧ KR S' oc W5 W6 ∧ Ix (pre ++ [(xk, xv)]) W6 :=
        ⟨hk6.keeps (fun k hk => by have := HS.out k hk; have := HSZ.out; omega), K6, hi6⟩
      have H6 := Lib.hid h6
      clear hk6 hi6 K6 h6
      gi_wp2
      exact ⟨H6.out.1, H6.out.2.1, rfl, H6.out.2.2⟩
  case done =>
    rintro D xs W5 hD hS5 hI5 hK'
    have HK' := Lib.hid hK'
    have H1 := Lib.hid (And.intro hS5 hI5.1)
    have hlt : W.heap.size ≤ D := by have := HSZ.out; omega
    clear hK' hS5 hI5
    go_wp2
    exact calm_end1 rfl HK'.out (results_none rfl _ _ _) ⟨⟨_, rfl⟩, .inl ⟨xs, H1.out.1, HI.out.putObj _ H1.out.2 hlt HK'.out rfl⟩⟩
  case stop =>
    rintro D c pre W5 hD hS2 ⟨rfl, hj⟩ hK'
    have HK' := Lib.hid hK'
    have H1 := Lib.hid hj
    have hlt : W.heap.size ≤ D := by have := HSZ.out; omega
    clear hK' hj
    refine wpIn_wide.2 ?_
    go_wp2
    exact calm_ret1 rfl HK'.out (results_none rfl _ _ _) ⟨⟨_, rfl⟩, .inr ⟨_, HIx.out.putObj _ H1.out hlt HK'.out rfl⟩⟩
end Go.Proofs.Ytfffifmpfkkgbaa
