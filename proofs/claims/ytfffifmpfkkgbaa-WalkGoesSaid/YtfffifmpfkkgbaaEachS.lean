/- The iterator over keys. -/
import Derived.Test.YtfffifmpfkkgbaaGAr
import Derived.Test.YtfffifmpfkkgbaaSeqOwn
import Derived.OwnWalkIn
import Derived.TacticsInMore
import Derived.LoopNIn
import Derived.LoopIn
import Derived.TacticsIn
namespace Go.Proofs.Ytfffifmpfkkgbaa
open Go.RowKit
attribute [local go_sem] Oper.semAt_some
set_option maxRecDepth 100000
set_option maxHeartbeats 2000000

/-- What is yielded for a key. -/
def keyV (k : ByteArray) : Array Value := #[.string k]
/-- A slice of strings, wherever it begins in its block. -/
structure SlcS (W : World) (e : Nat) (ks : List ByteArray) (v : Value) : Prop where
  form : ∃ a cap, v = .slice a ks.length cap ∧ ∀ (j : Nat) (k : ByteArray), ks[j]? = some k → ∃ o, a = some ⟨e, o, none⟩ ∧ W.cell? ⟨e, o + j, none⟩ = some (.string k)
theorem SlcS.same {W W' : World} {e : Nat} {ks : List ByteArray} {v : Value} (h : SlcS W e ks v) (he : W'.heap[e]? = W.heap[e]?) : SlcS W' e ks v := by
  obtain ⟨a, cap, h1, h2⟩ := h.form
  refine ⟨a, cap, h1, fun j k hk => ?_⟩
  obtain ⟨o, h3, h4⟩ := h2 j k hk
  exact ⟨o, h3, (cell_same (p := ⟨e, o + j, none⟩) he).trans h4⟩
theorem SlcS.of_row {W : World} {e : Nat} {ks : List ByteArray} {v : Value} (h : RowS W e ks v) : SlcS W e ks v := by
  rcases h.form with ⟨h1, h2⟩ | ⟨cap, cur, h1, hf, _, _, _, h6⟩
  · exact ⟨none, 0, by rw [h1, h2]; rfl, fun j k hk => by rw [h2] at hk; simp at hk⟩
  · exact ⟨_, cap, h1, fun j k hk => ⟨0, rfl, by rw [hf.cell, Nat.zero_add]; exact h6 j k hk⟩⟩
/-- What the iterator needs of memory. -/
structure EachAt (W : World) (bx e : Nat) (ks : List ByteArray) (v : Value) : Prop where
  box : Fresh W bx #[v] 60
  row : SlcS W e ks v
  ety : e = bx ∨ ∃ cur, Fresh W e cur 9
theorem EachAt.lt {W : World} {bx e : Nat} {ks : List ByteArray} {v : Value} (h : EachAt W bx e ks v) : bx < W.heap.size ∧ e < W.heap.size := by
  refine ⟨h.box.lt, ?_⟩
  rcases h.ety with h1 | ⟨cur, h1⟩
  · rw [h1]; exact h.box.lt
  · exact h1.lt
theorem EachAt.same {W W' : World} {bx e : Nat} {ks : List ByteArray} {v : Value} (h : EachAt W bx e ks v) (h1 : W'.heap[bx]? = W.heap[bx]?) (h2 : W'.heap[e]? = W.heap[e]?) : EachAt W' bx e ks v :=
  ⟨h1.trans h.box, h.row.same h2, by
    rcases h.ety with h3 | ⟨cur, h3⟩
    · exact .inl h3
    · exact .inr ⟨cur, h2.trans h3⟩⟩
theorem EachAt.turned {S : List Nat} {W W' : World} {bx e : Nat} {ks : List ByteArray} {v : Value} (h : EachAt W bx e ks v) (ht : Turned S W W') (h1 : bx ∉ S) (h2 : e ∉ S) : EachAt W' bx e ks v :=
  h.same (ht.block bx h.lt.1 h1) (ht.block e h.lt.2 h2)
theorem EachAt.below {W W' : World} {bx e : Nat} {ks : List ByteArray} {v : Value} (h : EachAt W bx e ks v) (hb : Below W.heap.size W W') : EachAt W' bx e ks v :=
  h.same (hb.block bx h.lt.1) (hb.block e h.lt.2)
theorem each1_in (n : Nat) (hn : 2 ≤ n) (l0 bx e : Nat) (ks : List ByteArray) (v : Value) (hkn : ks.length < 1000000) (KS : World → World → Prop) (J Jx : List ByteArray → World → Prop)
    (hY : ∀ (k : Nat) (h : k < ks.length) (W : World), J (ks.take k) W → YieldAt Fence.wide (n - 1) Try.prog l0 (keyV ks[k]) W fun e W' =>
      (e = .returned (.bool true) ∧ J (ks.take k ++ [ks[k]]) W' ∧ KS W W') ∨ (e = .returned (.bool false) ∧ Jx (ks.take k ++ [ks[k]]) W'))
    (W : World) (hR : EachAt W bx e ks v) (hS : ∀ A B, KS A B → EachAt A bx e ks v → EachAt B bx e ks v) (h0 : J [] W) :
    CallsIn Fence.wide n Try.prog 68 #[.func (.yield l0) #[] #[], .pointer (some ⟨bx, 0, none⟩)] W fun e W' => (∃ v, e = .returned v) ∧
      (J ks W' ∨ (∃ k, k < ks.length ∧ Jx (ks.take (k + 1)) W')) := by
  obtain ⟨a, cap, hv, _⟩ := hR.row.form
  have c0 := (hR.box.cell 0).trans rfl
  simp only [List.getElem?_toArray, List.getElem?_cons_zero] at c0
  rw [hv] at c0
  have HV := Lib.hid hv
  obtain ⟨N, hN⟩ : ∃ N, ks.length = N := ⟨_, rfl⟩
  have HN := Lib.hid hN
  rw [hN] at c0 hkn
  have HR := Lib.hid hR
  have HY := Lib.hid hY
  have H0 := Lib.hid h0
  have HS := Lib.hid hS
  clear hR hY h0 hS hv hN
  refine callsIn_of_wp Try.func68 rfl trivial ?_ rfl
  simp only [Try.ntmps68, List.size_toArray, List.length_cons, List.length_nil, Nat.reduceAdd, Nat.reduceSub, Array.replicate_succ, Array.replicate_zero, List.push_toArray, List.append_toArray, List.nil_append, List.cons_append]
  gi_wp2
  all_goals
    clear c0
    gi_loopw [7] (fun iv wr => ∃ k : Nat, k ≤ N ∧ iv = .int .i64 k ∧ J (ks.take k) wr ∧ EachAt wr bx e ks v) (fun iv _ => N - (intOf iv).toNat)
    case atStart => exact ⟨0, Nat.zero_le _, rfl, H0.out, HR.out⟩
    case round =>
      obtain ⟨k, hk, rfl, hJ, hT⟩ := hrel
      by_cases hlt : k < N
      · have hkl : k < ks.length := by have := HN.out; omega
        obtain ⟨x, hx⟩ : ∃ x, ks[k] = x := ⟨_, rfl⟩
        obtain ⟨o, ha, hcell⟩ : ∃ o, a = some ⟨e, o, none⟩ ∧ wr.cell? ⟨e, o + k, none⟩ = some (.string x) := by
          obtain ⟨a2, cap2, h1, h2⟩ := hT.row.form
          rw [HV.out] at h1
          simp only [Value.slice.injEq] at h1
          obtain ⟨o, h3, h4⟩ := h2 k x (by rw [← hx]; exact List.getElem?_eq_getElem hkl)
          exact ⟨o, h1.1.trans h3, h4⟩
        subst ha
        obtain ⟨fn, tmps, asg, body, hy, hRd⟩ := HY.out k hkl wr hJ
        have hx2 : ks.take k ++ [ks[k]] = ks.take (k + 1) := (List.take_succ_eq_append_getElem hkl).symm
        rw [hx2] at hRd
        rw [hx] at hy
        unfold keyV at hy
        have HRd := Lib.hid hRd
        have HT := Lib.hid hT
        have HK := Lib.hid hkl
        clear hJ hT hRd hx2 hkl hx
        gi_wp2
        refine ⟨fun _ => by omega, ?_⟩
        refine HRd.out.mono ?_
        rintro e W3 (⟨rfl, hJ3, hT3⟩ | ⟨rfl, hJx⟩)
        · have H3 := Lib.hid (And.intro hJ3 (HS.out _ _ hT3 HT.out))
          clear hJ3 hT3
          gi_wp2
          go_roundw
          case rel => exact ⟨k + 1, by omega, by first | rfl | simp, H3.out⟩
          case measure => simp [intOf] <;> omega
        · have H3 := Lib.hid hJx
          clear hJx
          gi_wp2
          refine bodyPost_ret (results_none rfl _ _ _) rfl ?_
          exact ⟨⟨_, rfl⟩, .inr ⟨k, HK.out, H3.out⟩⟩
      · have H3 : Hid (J ks wr) := by
          have := hJ
          rw [List.take_of_length_le (by have := HN.out; omega)] at this
          exact this
        clear hJ hT
        gi_wp2
        go_end0
        exact ⟨⟨_, rfl⟩, .inl H3.out⟩
/-- What may be yielded next. -/
def NextK (L : List ByteArray) (pre : List ByteArray) : Prop := ∃ k, ∃ h : k < L.length, pre = L.take k ++ [L[k]'h]
theorem each_own (n : Nat) (hn : 2 ≤ n) (bx e : Nat) (ks : List ByteArray) (v : Value) (hkn : ks.length < 1000000) (KS : World → World → Prop) (w : World) (hR : EachAt w bx e ks v)
    (hS : ∀ A B, KS A B → EachAt A bx e ks v → EachAt B bx e ks v) :
    SeqOwn Fence.wide n Try.prog 68 #[.pointer (some ⟨bx, 0, none⟩)] keyV KS (fun xs => xs = ks) (fun pre => ∃ k, k < ks.length ∧ pre = ks.take (k + 1)) (NextK ks) w := fun l0 J Jx W hW _ hJ hJx hY h0 => by
  have := each1_in n hn l0 bx e ks v hkn KS J Jx
    (fun k hk W hj => by
      obtain ⟨fn, tmps, asg, body, e, hRd⟩ := hY (ks.take k) ks[k] W ⟨k, hk, rfl⟩ hj
      refine ⟨fn, tmps, asg, body, e, hRd.mono ?_⟩
      rintro e W' ⟨hB, ⟨rfl, hJ2⟩ | ⟨rfl, hJ2⟩⟩
      · exact .inl ⟨rfl, hJ2, hB⟩
      · exact .inr ⟨rfl, hJ2⟩)
    W (hR.below hW) hS h0
  refine this.mono ?_
  rintro e W' ⟨he, h | ⟨k, hk, h⟩⟩
  · exact ⟨he, .inl ⟨_, rfl, h⟩⟩
  · exact ⟨he, .inr ⟨_, ⟨k, hk, rfl⟩, h⟩⟩
theorem each_any (v : Value) (w : World) (hv : ∃ a n c, v = .slice a n c) : Calls Try.prog 57 #[v] w fun e w' => e = .returned (.func (.func 68) #[] #[.pointer (some ⟨w.heap.size, 0, none⟩)]) ∧ w' = w.alloc (.cells #[v] 60) := by
  have hmf := @makeFunc_run Try.prog
  obtain ⟨a, n, c, rfl⟩ := hv
  go_enter Try.func57, Try.ntmps57
  go_wp2
  go_ret
  exact ⟨rfl, rfl⟩
end Go.Proofs.Ytfffifmpfkkgbaa
