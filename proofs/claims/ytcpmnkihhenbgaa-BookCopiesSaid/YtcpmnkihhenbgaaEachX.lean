/- The iterator over keys, under a frame that a further invariant bears. -/
import Derived.Test.YtcpmnkihhenbgaaEachS
namespace Go.Proofs.Ytcpmnkihhenbgaa
open Go.RowKit Go.Shelf
set_option maxRecDepth 100000
set_option maxHeartbeats 2000000


theorem each1_inX (X : World → Prop) (n : Nat) (hn : 2 ≤ n) (l0 bx e : Nat) (ks : List ByteArray) (v : Value) (hkn : ks.length < 1000000) (KS : World → World → Prop) (J Jx : List ByteArray → World → Prop)
    (hY : ∀ (k : Nat) (h : k < ks.length) (W : World), J (ks.take k) W → YieldAt Fence.wide (n - 1) Try.prog l0 (keyV ks[k]) W fun e W' =>
      (e = .returned (.bool true) ∧ J (ks.take k ++ [ks[k]]) W' ∧ KS W W') ∨ (e = .returned (.bool false) ∧ Jx (ks.take k ++ [ks[k]]) W'))
    (W : World) (hR : EachAt W bx e ks v ∧ X W) (hS : ∀ A B, KS A B → EachAt A bx e ks v ∧ X A → EachAt B bx e ks v ∧ X B) (h0 : J [] W) :
    CallsIn Fence.wide n Try.prog 54 #[.func (.yield l0) #[] #[], .pointer (some ⟨bx, 0, none⟩)] W fun e W' => (∃ v, e = .returned v) ∧
      (J ks W' ∨ (∃ k, k < ks.length ∧ Jx (ks.take (k + 1)) W')) := by
  obtain ⟨a, cap, hv, _⟩ := hR.1.row.form
  have c0 := (hR.1.box.cell 0).trans rfl
  simp only [List.getElem?_toArray, List.getElem?_cons_zero] at c0
  rw [hv] at c0
  have HV := Lib.hid hv
  obtain ⟨N, hN⟩ : ∃ N, ks.length = N := ⟨_, rfl⟩
  have HN := Lib.hid hN
  rw [hN] at c0 hkn
  have HR := Lib.hid hR
  have HY := Lib.hid hY
  have H0 := Lib.hid h0
  have HS := Lib.hid hS
  clear hR hY h0 hS hv hN
  refine callsIn_of_wp Try.func54 rfl trivial ?_ rfl
  simp only [Try.ntmps54, List.size_toArray, List.length_cons, List.length_nil, Nat.reduceAdd, Nat.reduceSub, Array.replicate_succ, Array.replicate_zero, List.push_toArray, List.append_toArray, List.nil_append, List.cons_append]
  gi_wp2
  all_goals
    clear c0
    gi_loopw [7] (fun iv wr => ∃ k : Nat, k ≤ N ∧ iv = .int .i64 k ∧ J (ks.take k) wr ∧ (EachAt wr bx e ks v ∧ X wr)) (fun iv _ => N - (intOf iv).toNat)
    case atStart => exact ⟨0, Nat.zero_le _, rfl, H0.out, HR.out⟩
    case round =>
      obtain ⟨k, hk, rfl, hJ, hT⟩ := hrel
      by_cases hlt : k < N
      · have hkl : k < ks.length := by have := HN.out; omega
        obtain ⟨x, hx⟩ : ∃ x, ks[k] = x := ⟨_, rfl⟩
        obtain ⟨o, ha, hcell⟩ : ∃ o, a = some ⟨e, o, none⟩ ∧ wr.cell? ⟨e, o + k, none⟩ = some (.string x) := by
          obtain ⟨a2, cap2, h1, h2⟩ := hT.1.row.form
          rw [HV.out] at h1
          simp only [Value.slice.injEq] at h1
          obtain ⟨o, h3, h4⟩ := h2 k x (by rw [← hx]; exact List.getElem?_eq_getElem hkl)
          exact ⟨o, h1.1.trans h3, h4⟩
        subst ha
        obtain ⟨fn, tmps, asg, body, hy, hRd⟩ := HY.out k hkl wr hJ
        have hx2 : ks.take k ++ [ks[k]] = ks.take (k + 1) := (List.take_succ_eq_append_getElem hkl).symm
        rw [hx2] at hRd
        rw [hx] at hy
        unfold keyV at hy
        have HRd := Lib.hid hRd
        have HT := Lib.hid hT
        have HK := Lib.hid hkl
        clear hJ hT hRd hx2 hkl hx
        gi_wp2
        refine ⟨fun _ => by omega, ?_⟩
        refine HRd.out.mono ?_
        rintro e W3 (⟨rfl, hJ3, hT3⟩ | ⟨rfl, hJx⟩)
        · have H3 := Lib.hid (And.intro hJ3 (HS.out _ _ hT3 HT.out))
          clear hJ3 hT3
          gi_wp2
          go_roundw
          case rel => exact ⟨k + 1, by omega, by first | rfl | simp, H3.out⟩
          case measure => simp [intOf] <;> omega
        · have H3 := Lib.hid hJx
          clear hJx
          gi_wp2
          refine bodyPost_ret (results_none rfl _ _ _) rfl ?_
          exact ⟨⟨_, rfl⟩, .inr ⟨k, HK.out, H3.out⟩⟩
      · have H3 : Hid (J ks wr) := by
          have := hJ
          rw [List.take_of_length_le (by have := HN.out; omega)] at this
          exact this
        clear hJ hT
        gi_wp2
        go_end0
        exact ⟨⟨_, rfl⟩, .inl H3.out⟩
theorem each_ownX (X : World → Prop) (hXb : ∀ A B, Below A.heap.size A B → X A → X B) (n : Nat) (hn : 2 ≤ n) (bx e : Nat) (ks : List ByteArray) (v : Value) (hkn : ks.length < 1000000) (KS : World → World → Prop) (w : World) (hR : EachAt w bx e ks v ∧ X w)
    (hS : ∀ A B, KS A B → EachAt A bx e ks v ∧ X A → EachAt B bx e ks v ∧ X B) :
    SeqOwn Fence.wide n Try.prog 54 #[.pointer (some ⟨bx, 0, none⟩)] keyV KS (fun xs => xs = ks) (fun pre => ∃ k, k < ks.length ∧ pre = ks.take (k + 1)) (NextK ks) w := fun l0 J Jx W hW _ hJ hJx hY h0 => by
  have := each1_inX X n hn l0 bx e ks v hkn KS J Jx
    (fun k hk W hj => by
      obtain ⟨fn, tmps, asg, body, e, hRd⟩ := hY (ks.take k) ks[k] W ⟨k, hk, rfl⟩ hj
      refine ⟨fn, tmps, asg, body, e, hRd.mono ?_⟩
      rintro e W' ⟨hB, ⟨rfl, hJ2⟩ | ⟨rfl, hJ2⟩⟩
      · exact .inl ⟨rfl, hJ2, hB⟩
      · exact .inr ⟨rfl, hJ2⟩)
    W ⟨hR.1.below hW, hXb _ _ hW hR.2⟩ hS h0
  refine this.mono ?_
  rintro e W' ⟨he, h | ⟨k, hk, h⟩⟩
  · exact ⟨he, .inl ⟨_, rfl, h⟩⟩
  · exact ⟨he, .inr ⟨_, ⟨k, hk, rfl⟩, h⟩⟩
end Go.Proofs.Ytcpmnkihhenbgaa
