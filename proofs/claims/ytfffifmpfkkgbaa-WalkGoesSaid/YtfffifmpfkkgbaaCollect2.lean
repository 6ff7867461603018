/- collect, whole. -/
import Derived.Test.YtfffifmpfkkgbaaCollect
namespace Go.Proofs.Ytfffifmpfkkgbaa
open Go.RowKit Go.Shelf
set_option maxRecDepth 1000000
set_option maxHeartbeats 4000000

def takeI (pr : Nat → Pr → Bool) : Nat → List Pr → List Pr
  | _, [] => []
  | k, z :: zs => if pr k z = true then z :: takeI pr (k + 1) zs else []
theorem clone_any {W : World} {B : Nat} {v : Value} {l : List Pr} (h : W.ownsRow B 34 2 v l.length (flatP l)) (hn : l.length ≤ 100000) :
    Calls Try.prog 53 #[v] W fun e w' => ∃ v', e = .returned v' ∧ Below W.heap.size W w' ∧ w'.ownsRow W.heap.size 34 2 v' l.length (flatP l) := by
  rcases Seg.of_row h with ⟨rfl, rfl⟩ | ⟨g, o, cap, cur, rfl, h2, h3, h4, h5⟩
  · have hq : (binOp .eql 26 (.slice none 0 0) (.slice none 0 0)).run Try.prog W = .ok (.bool true) W := by kernel_rfl
    clear h
    go_enter Try.func53, Try.ntmps53
    go_wp2_with fail
    go_ret
    exact ⟨_, rfl, Below.refl _ _, ⟨rfl, .inl ⟨rfl, rfl⟩⟩⟩
  · have hq : (binOp .eql 26 (.slice (some ⟨g, o, none⟩) l.length cap) (.slice none 0 0)).run Try.prog W = .ok (.bool false) W := by kernel_rfl
    have hs : Seg (W.alloc (.cells #[] 34)) (.slice (some ⟨g, o, none⟩) l.length cap) l := (Seg.of_row h).below (Below.new (Below.refl _ _) _)
    obtain ⟨v5, W5, r5, o5, g5⟩ := app_seg (row_none W) hs (by simp) (by simp; omega)
    have b5 : Below W.heap.size W W5 := Below.grown2 (Below.new (Below.refl _ _) _) g5 (fun r hr => ((row_none W).lt r hr).1)
    rw [List.nil_append] at o5
    have H5 := Lib.hid (And.intro b5 o5)
    clear h h2 h3 h4 h5 hs o5 g5 b5
    go_enter Try.func53, Try.ntmps53
    go_wp2_with (at_builtin; refine Lib.wpList_append_run _ rfl _ _ _ _ rfl _ _ rfl rfl _ _ (r5 _) ?_; clear r5)
    go_ret
    exact ⟨_, rfl, H5.out.1, H5.out.2⟩
/-- The row of collect, while it grows. -/
structure CRel (W : World) (b0 : ByteArray) (l : List Pr) (pr : Nat → Pr → Bool) (IsAt : Nat → World → Prop) (Si : List Nat) (fi : Nat) (capi : Array Value) (j : Nat) (pre : List Pr) (vx : Value) (A : World) : Prop where
  le : j ≤ (fromP b0 l).length
  ini : pre = (fromP b0 l).take j
  all : takeI pr 0 (fromP b0 l) = pre ++ takeI pr j ((fromP b0 l).drop j)
  is : IsAt j A
  bis : Fresh A (W.heap.size + 1) #[.func (.func fi) #[] capi] 80
  bl : Fresh A (W.heap.size + 2) #[vx] 26
  row : A.ownsRow (W.heap.size + 3) 34 2 vx pre.length (flatP pre)
  turned : Turned Si W A
structure CEnd (W : World) (L : List Pr) (IsAt : Nat → World → Prop) (Si : List Nat) (vx : Value) (A : World) : Prop where
  is : ∃ k, IsAt k A
  bl : Fresh A (W.heap.size + 2) #[vx] 26
  row : A.ownsRow (W.heap.size + 3) 34 2 vx L.length (flatP L)
  turned : Turned Si W A
theorem kr_turned {S : List Nat} {bl C : Nat} {W A B : World} {vx : Value} {n : Nat} {xs : List Value} (h : KR (bl :: S) (some bl) A B) (ht : Turned S W A) (hb : W.heap.size ≤ bl) (hc : A.cell? ⟨bl, 0, none⟩ = some vx) (ho : A.ownsRow C 34 2 vx n xs) (hC : W.heap.size ≤ C) : Turned S W B := by
  refine ⟨h.os.trans ht.os, h.tape.trans ht.tape, h.output.trans ht.output, Nat.le_trans ht.size h.size, fun k hk hn => ?_⟩
  have hk2 : k ∉ bl :: S := by
    intro e
    rcases List.mem_cons.1 e with e | e
    · omega
    · exact hn e
  rcases h.block k (Nat.lt_of_lt_of_le hk ht.size) hk2 with h1 | ⟨⟨c, v, h1, h2, h3⟩, _⟩
  · exact h1.trans (ht.block k hk hn)
  · cases h1
    rw [hc] at h2
    cases h2
    have := (ho.lt k h3).1
    omega
theorem CRel.grown {W X Y : World} {b0 : ByteArray} {l : List Pr} {pr : Nat → Pr → Bool} {IsAt : Nat → World → Prop} {Si : List Nat} {fi : Nat} {capi : Array Value} {j : Nat} {pre : List Pr} {vx : Value} {row : Option Nat} (h : CRel W b0 l pr IsAt Si fi capi j pre vx X) (hSi : ∀ k ∈ Si, k < W.heap.size) (hkeep : ∀ k X Y, (∀ b ∈ Si, Y.heap[b]? = X.heap[b]?) → IsAt k X → IsAt k Y) (hg : X.grownBy Y row) (hr : ∀ r, row = some r → W.heap.size + 3 ≤ r ∧ ∃ o : Obj, X.heap[r]? = some o ∧ o.isCells = false) : CRel W b0 l pr IsAt Si fi capi j pre vx Y := by
  have hk := fun r e => (hr r e).2
  refine ⟨h.le, h.ini, h.all, hkeep j X Y (fun b hb => hg.block b (Nat.lt_of_lt_of_le (hSi b hb) h.turned.size) (fun e => ?_)) h.is, h.bis.kept hg hk, h.bl.kept hg hk, ?_, h.turned.kept hg (fun r e => by have := (hr r e).1; omega)⟩
  · have := (hr b e.symm).1
    have := hSi b hb
    omega
  · exact row_keep h.row fun k hk2 => hg.block k (h.row.lt k hk2).2 (fun e => by
      obtain ⟨o, ho, hc⟩ := hk k e.symm
      obtain ⟨cs, h4⟩ := row_type h.row hk2
      rw [ho] at h4
      cases h4
      cases hc)
theorem CEnd.grown {W X Y : World} {L : List Pr} {IsAt : Nat → World → Prop} {Si : List Nat} {vx : Value} {row : Option Nat} (h : CEnd W L IsAt Si vx X) (hSi : ∀ k ∈ Si, k < W.heap.size) (hkeep : ∀ k X Y, (∀ b ∈ Si, Y.heap[b]? = X.heap[b]?) → IsAt k X → IsAt k Y) (hg : X.grownBy Y row) (hr : ∀ r, row = some r → W.heap.size + 3 ≤ r ∧ ∃ o : Obj, X.heap[r]? = some o ∧ o.isCells = false) : CEnd W L IsAt Si vx Y := by
  have hk := fun r e => (hr r e).2
  obtain ⟨k0, hk0⟩ := h.is
  refine ⟨⟨k0, hkeep k0 X Y (fun b hb => hg.block b (Nat.lt_of_lt_of_le (hSi b hb) h.turned.size) (fun e => by have := (hr b e.symm).1; have := hSi b hb; omega)) hk0⟩, h.bl.kept hg hk, ?_, h.turned.kept hg (fun r e => by have := (hr r e).1; omega)⟩
  exact row_keep h.row fun k hk2 => hg.block k (h.row.lt k hk2).2 (fun e => by
      obtain ⟨o, ho, hc⟩ := hk k e.symm
      obtain ⟨cs, h4⟩ := row_type h.row hk2
      rw [ho] at h4
      cases h4
      cases hc)
/-- A round. -/
theorem CRel.round {W A : World} {b0 : ByteArray} {l : List Pr} {pr : Nat → Pr → Bool} {IsAt : Nat → World → Prop} {Si : List Nat} {fi : Nat} {capi : Array Value} {j : Nat} {pre : List Pr} {vx : Value} (h : CRel W b0 l pr IsAt Si fi capi j pre vx A) (hs : SrtP l) (hlen : l.length < 100000) {z : Pr} (hz : nextP (bdOf b0 pre) l = some z)
    (hfi : ∀ args w, (callFunc fi args).run Try.prog w = .ok (.enter fi args) w) (hSi : ∀ k ∈ Si, k < W.heap.size) (hC : W.heap.size + 3 ≤ A.heap.size)
    (his : ∀ k z A, z ∈ l → W.heap.size ≤ A.heap.size → IsAt k A → Calls Try.prog fi (#[pairV z] ++ capi) A fun e B => e = .returned (.bool (pr k z)) ∧ Turned Si A B ∧ IsAt (k + 1) B)
    (hkeep : ∀ k X Y, (∀ b ∈ Si, Y.heap[b]? = X.heap[b]?) → IsAt k X → IsAt k Y) :
    Calls Try.prog 52 #[pairV z, .pointer (some ⟨W.heap.size + 1, 0, none⟩), .pointer (some ⟨W.heap.size + 2, 0, none⟩)] A fun e B => KR ((W.heap.size + 2) :: Si) (some (W.heap.size + 2)) A B ∧
      ((e = .returned (.bool true) ∧ ∃ j' v', CRel W b0 l pr IsAt Si fi capi j' (pre ++ [z]) v' B) ∨ (e = .returned (.bool false) ∧ ∃ v', CEnd W (takeI pr 0 (fromP b0 l)) IsAt Si v' B)) := by
  have hz2 := hz
  rw [h.ini, next_pre hs b0 h.le] at hz2
  have hjl := (List.getElem?_eq_some_iff.1 hz2).1
  have hpl : pre.length = j := by rw [h.ini, List.length_take]; omega
  have hfl : (fromP b0 l).length ≤ l.length := by unfold fromP; simp
  have hdr : (fromP b0 l).drop j = z :: (fromP b0 l).drop (j + 1) := by
    rw [List.drop_eq_getElem_cons hjl]
    obtain ⟨_, e⟩ := List.getElem?_eq_some_iff.1 hz2
    rw [e]
  have htk : (fromP b0 l).take (j + 1) = pre ++ [z] := by
    rw [List.take_succ_eq_append_getElem hjl, h.ini]
    obtain ⟨_, e⟩ := List.getElem?_eq_some_iff.1 hz2
    rw [e]
  refine (collect1_any (r := pr j z) (Si := Si) (IsN := IsAt (j + 1)) (C := W.heap.size + 3) hfi h.bis h.bl h.row hC (by omega) (fun k hk => by have := hSi k hk; omega) (by omega)
    (fun B hb => his j z B (List.mem_of_getElem? (show l[_]? = some z from hz)) (Nat.le_trans (by omega) hb.size) (hkeep j A B (fun b hb2 => hb.block b (by have := hSi b hb2; omega)) h.is)) (hkeep (j + 1))).mono ?_
  rintro e B ⟨hk, hi, rfl, v', hb, ho⟩
  refine ⟨hk, ?_⟩
  have hT := kr_turned hk h.turned (by omega) ((h.bl.cell 0).trans rfl) h.row (by omega)
  have hbis := hk.other h.bis (by intro e; rcases List.mem_cons.1 e with e | e; omega; have := hSi _ e; omega) (by decide)
  have hall := h.all
  rw [hdr, takeI] at hall
  cases hp : pr j z
  · rw [hp] at ho hall
    rw [if_neg (by simp)] at ho hall
    rw [List.append_nil] at hall ho
    refine .inr ⟨rfl, v', ⟨_, hi⟩, hb, ?_, hT⟩
    rw [hall]
    exact ho
  · rw [hp] at ho hall
    rw [if_pos rfl] at ho hall
    exact .inl ⟨rfl, j + 1, v', hjl, htk.symm, by rw [hall]; simp, hi, hbis, hb, ho, hT⟩
end Go.Proofs.Ytfffifmpfkkgbaa
