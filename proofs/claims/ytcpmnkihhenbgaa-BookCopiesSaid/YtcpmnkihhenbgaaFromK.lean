/- The keys from a key on; append at a step of a drawing region inside a fence. -/
import Derived.Test.YtcpmnkihhenbgaaSameP
import Derived.Maps.AppendAt
namespace Go.Proofs.Ytcpmnkihhenbgaa
open Go.RowKit
set_option maxRecDepth 1000000
set_option maxHeartbeats 4000000

/-- append onto a row of the call's own, at a step of a region that draws its order, inside a fence. -/
theorem step_appIn {F : Fence} {n0 : Nat} {w : World} {ops : Array Oper} {o : Oper} {a : Act} {K : Act → World → Prop} {Q : Exit → Act → World → Prop} {E : Prop} (hgd : o.guard = none) (s x : Operand) (tS e : TypeId)
    (ho : o.op = .call { callee := .builtin .append, args := #[s, x], argTypes := #[tS, tS] })
    (B : Nat) (i : TypeInfo) (z : Value) (size bytes : Nat) (ht : Try.prog.underlying tS = some (.slice e)) (hi : Try.prog.info? e = some i) (hz : i.zero = some z) (hsize : i.size = size) (hby : i.bytes = bytes) (hzs : z.cells.size = size) (hsz : 0 < size) (hb16 : bytes ≤ 64)
    (v : Value) (n : Nat) (xs : List Value) (hs : a.eval s = v) (hown : w.ownsRow B e size v n xs) (hB : B ≤ w.heap.size)
    (ad : Addr) (m c : Nat) (news : List Value) (hx : a.eval x = .slice (some ad) m c) (hl : news.length = m * size) (hnews : ∀ j u, news[j]? = some u → w.cell? (ad.add j) = some u) (h1 : ∀ u ∈ news, u.oneCell' = true)
    (hnm : n + m ≤ 2000000)
    (h : ∀ v' w', w'.ownsRow B e size v' (n + m) (xs ++ news) → w.grownBy w' v.ownBlock → K (a.put o.dst v') w') :
    if Region.wanted o (yielded ops a.tmps) = true then Oper.wpIn F n0 Try.prog o a w K Q else E := by
  have hw : Region.wanted o (yielded ops a.tmps) = true := by simp [Region.wanted, hgd]
  rw [if_pos hw]
  have hbb : (n + m) * bytes ≤ 140737488355328 := Nat.le_trans (Nat.mul_le_mul hnm hb16) (by decide)
  obtain ⟨v', w', hr, h2, h3, h4⟩ := run_append_own (P := Try.prog) w B tS o.type e i z size bytes ht hi hz hsize hby hzs hsz v n xs hown ad m c news hl hnews h1 (by unfold maxLen; omega) hbb hB
  unfold Oper.wpIn
  refine ⟨?_, ?_⟩
  · simp [Oper.about, ho, resolve, Target.leads, Sem.run_pure]
  · rw [Oper.semAt_plain F _ _ (by rw [ho]; intro c hc'; cases hc')]
    simp [execOp, ho, resolve, invoke, builtin, hs, hx, hr, Result.andThen]
    exact h v' w' h2 h3

theorem from_any {W : World} {e : Nat} {ks : List ByteArray} {v : Value} (h : RowS W e ks v) (hs : SrtK ks) (hn : ks.length < 1000000) (x : ByteArray) :
    Calls Try.prog 39 #[v, .string x] W fun e' w' => ∃ v', e' = .returned v' ∧ Below W.heap.size W w' ∧ SlcS W e (ks.drop (atK x ks)) v' ∧ ∀ a n c, v' = .slice a n c → n ≤ c := by
  obtain ⟨a, cap, hv, hcap⟩ := h.slice
  have HS := Lib.hid (search_any h hs hn x)
  have HR := Lib.hid h
  have hal := atK_le x ks
  obtain ⟨i, hi⟩ : ∃ i, atK x ks = i := ⟨_, rfl⟩
  rw [hi] at HS hal ⊢
  obtain ⟨n, hnn⟩ : ∃ n, ks.length = n := ⟨_, rfl⟩
  have HN := Lib.hid hnn
  have HV := Lib.hid hv
  rw [hv] at HS ⊢
  rw [hnn] at HS hal hcap ⊢
  obtain ⟨r, hr⟩ : ∃ r, hasK x ks = r := ⟨_, rfl⟩
  rw [hr] at HS
  clear h hs hn hnn hv hi hr
  have i0 : (0 : Int) ≤ (i : Int) := by omega
  have i1 : (i : Int) ≤ (n : Int) := by omega
  have i2 : (n : Int) ≤ (cap : Int) := by omega
  cases a with
  | none =>
    have hz : n = 0 ∧ cap = 0 := by
      rcases HR.out.form with ⟨h1, h2⟩ | ⟨_, _, h1, _⟩
      · rw [HV.out, HN.out] at h1
        simp only [Value.slice.injEq] at h1
        exact h1.2
      · rw [HV.out] at h1
        simp at h1
    obtain ⟨rfl, rfl⟩ := hz
    obtain rfl : i = 0 := by omega
    go_enter Try.func39, Try.ntmps39
    go_wp2_with (go_at_call 53; refine HS.out.mono ?_; rintro e1 w1 ⟨rfl, hb1⟩; have HB := Lib.hid hb1; clear hb1)
    go_ret
    refine ⟨_, rfl, HB.out, ⟨none, 0, ?_, fun j k hk => ?_⟩, fun a n c h => by simp at h; omega⟩
    · simp [HN.out]
    · have : ks = [] := List.length_eq_zero_iff.1 HN.out
      rw [this] at hk
      simp at hk
  | some ad =>
    obtain ⟨b, o, sp⟩ := ad
    have hb : b = e ∧ o = 0 ∧ sp = none := by
      rcases HR.out.form with ⟨h1, h2⟩ | ⟨_, _, h1, _⟩
      · rw [HV.out] at h1; simp at h1
      · rw [HV.out] at h1
        simp only [Value.slice.injEq, Option.some.injEq, Addr.mk.injEq] at h1
        exact h1.1
    obtain ⟨rfl, rfl, rfl⟩ := hb
    obtain ⟨ad, had, hcell⟩ : ∃ ad : Addr, (if cap = i then some (⟨b, 0, none⟩ : Addr) else some ⟨b, i, none⟩) = some ad ∧ Hid (∀ (j : Nat) k, (ks.drop i)[j]? = some k → ad = ⟨b, i, none⟩) := by
      by_cases h : cap = i
      · refine ⟨_, by rw [if_pos h], fun j k hk => ?_⟩
        have hl := (List.getElem?_eq_some_iff.1 hk).1
        have := HN.out
        simp at hl
        omega
      · exact ⟨_, by rw [if_neg h], fun _ _ _ => rfl⟩
    go_enter Try.func39, Try.ntmps39
    go_wp2_with (go_at_call 53; refine HS.out.mono ?_; rintro e1 w1 ⟨rfl, hb1⟩; have HB := Lib.hid hb1; clear hb1)
    go_ret
    refine ⟨_, rfl, HB.out, ⟨some ad, cap - i, ?_, fun j k hk => ⟨i, ?_, ?_⟩⟩, fun a n c h => by simp at h; omega⟩
    · simp [HN.out]
    · rw [hcell.out j k hk]
    · rcases HR.out.form with ⟨_, h2⟩ | ⟨_, cur, _, hf, _, _, _, h6⟩
      · rw [h2] at hk; simp at hk
      · rw [hf.cell]
        rw [List.getElem?_drop] at hk
        exact h6 _ k hk
end Go.Proofs.Ytcpmnkihhenbgaa
