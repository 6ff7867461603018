/- A purse: committing and refunding. -/
import Derived.Test.YtpnddccanelcnaaTake
namespace Go.Proofs.Ytpnddccanelcnaa
open Go.RowKit
set_option maxRecDepth 100000
set_option maxHeartbeats 4000000

/-- What a ticket's end is to answer: 0, or that there is none. -/
def endCode (s : Pu) (n : Int) : Int := match getT s.tk n with | some _ => 0 | none => 5
def refP (s : Pu) (t : Tk) : Pu := { s with bk := s.bk - t.k, bb := s.bb - t.b, tk := delT s.tk t.n }
def comP (s : Pu) (t : Tk) : Pu := { s with hk := s.hk + t.k, hb := s.hb + t.b, tk := delT s.tk t.n }

theorem end_no {W : World} {p a m : Nat} {s : Pu} (n : Int) (f : Value) (h : At W p a m s) (hu : Uniq s.tk) (hg : getT s.tk n = none) :
    Calls Try.prog 36 #[.pointer (some ⟨p, 0, none⟩), .int .i64 n, f] W fun e w' => e = .returned (.int .i64 5) ∧ Turned [a, m] W w' ∧ At w' p a m s := by
  have HI := Lib.hid (isNil_any h)
  have HC := Lib.hid (closed_any s a m n W h.ha h.hm hu)
  have HA := Lib.hid h
  have hv : getV s.tk n = .tuple #[lim 0 0, .bool false] := by unfold getV; rw [hg]
  have hd : delT s.tk n = s.tk := by
    unfold delT
    unfold getT at hg
    rw [List.find?_eq_none] at hg
    exact List.filter_eq_self.2 (fun t ht => by simpa using hg t ht)
  have HV := Lib.hid (And.intro hv hd)
  have c := h.cells
  clear h hv hd hg hu
  go_enter Try.func36, Try.ntmps36
  go_wp2_with fail
  refine HI.out.mono ?_
  rintro e w1 ⟨rfl, hw1⟩
  obtain rfl := hw1
  go_wp2_with fail
  refine HC.out.mono ?_
  rw [HV.out.1]
  rintro e w2 ⟨rfl, ht, hm2⟩
  have HT := Lib.hid ht
  have HM2 := Lib.hid hm2
  clear ht hm2 c
  go_wp2_with fail
  go_ret
  have hn : p ∉ [m] := by simpa using HA.out.hm.ne HA.out.hp
  have hn2 : a ∉ [m] := by simpa using HA.out.hm.ne HA.out.ha
  have A2 : At w2 p a m s := ⟨HT.out.other HA.out.hp hn, HT.out.other HA.out.ha hn2, by have := HM2.out; rw [HV.out.2] at this; exact this⟩
  exact ⟨rfl, (HT.out.more (by simp)).alloc _, A2.below ((Below.refl _ _).alloc (Nat.le_refl _) _)⟩

theorem getT_n {l : List Tk} {n : Int} {t : Tk} (h : getT l n = some t) : t.n = n ∧ t ∈ l := by
  unfold getT at h
  have h1 := List.find?_some h
  exact ⟨by simpa using h1, List.mem_of_find?_eq_some h⟩

theorem meth_free (a : Nat) (W : World) : (method 199 42 (.pointer (some ⟨a, 0, none⟩)) "burgage/purse.free").run Try.prog W = .ok (38, .pointer (some ⟨a, 0, none⟩)) W := by kernel_rfl
theorem meth_use (a : Nat) (W : World) : (method 199 42 (.pointer (some ⟨a, 0, none⟩)) "burgage/purse.use").run Try.prog W = .ok (37, .pointer (some ⟨a, 0, none⟩)) W := by kernel_rfl

theorem end_free {W : World} {p a m : Nat} {s : Pu} (n : Int) (t : Tk) (h : At W p a m s) (hu : Uniq s.tk) (hg : getT s.tk n = some t) (h1 : 0 ≤ t.k) (h2 : t.k ≤ s.bk) (h3 : s.bk < 18446744073709551616) (h4 : 0 ≤ t.b) (h5 : t.b ≤ s.bb) (h6 : s.bb < 18446744073709551616) :
    Calls Try.prog 36 #[.pointer (some ⟨p, 0, none⟩), .int .i64 n, .func (.methodOf 42 "burgage/purse.free") #[] #[]] W fun e w' => e = .returned (.int .i64 0) ∧ Turned [a, m] W w' ∧ At w' p a m (refP s t) := by
  have HI := Lib.hid (isNil_any h)
  have HC := Lib.hid (closed_any s a m n W h.ha h.hm hu)
  have HA := Lib.hid h
  have hv : getV s.tk n = .tuple #[lim t.k t.b, .bool true] := by unfold getV; rw [hg]
  have HV := Lib.hid hv
  have HN := Lib.hid (getT_n hg).1
  have HU := Lib.hid (fun w h => free_any s a m t.k t.b w h h1 h2 h3 h4 h5 h6)
  have hnp : p ∉ [m] := by simpa using h.hm.ne h.hp
  have hna : a ∉ [m] := by simpa using h.hm.ne h.ha
  have HNN := Lib.hid (And.intro hnp hna)
  have c := h.cells
  clear h hv hg hu hnp hna h1 h2 h3 h4 h5 h6
  go_enter Try.func36, Try.ntmps36
  go_wp2_with fail
  refine HI.out.mono ?_
  rintro e w1 ⟨rfl, hw1⟩
  obtain rfl := hw1
  go_wp2_with fail
  refine HC.out.mono ?_
  rw [HV.out]
  rintro e w2 ⟨rfl, ht, hm2⟩
  have HT := Lib.hid (ht.alloc (.cells #[.int .u64 t.k, .int .u64 t.b] 24))
  have HP2 := Lib.hid ((ht.other HA.out.hp HNN.out.1).alloc (.cells #[.int .u64 t.k, .int .u64 t.b] 24))
  have HA2 := Lib.hid ((ht.other HA.out.ha HNN.out.2).alloc (.cells #[.int .u64 t.k, .int .u64 t.b] 24))
  have HX2 := Lib.hid (Fresh.new w2 w2.heap.size #[.int .u64 t.k, .int .u64 t.b] 24 rfl)
  have HM2 := Lib.hid (hm2.turned (S := []) (.of_below (((Below.refl w2.heap.size w2)).alloc (Nat.le_refl _) (.cells #[.int .u64 t.k, .int .u64 t.b] 24))) (by simp))
  clear ht hm2 c
  go_wp2_with fail
  obtain ⟨W3, hW3⟩ : ∃ W3, W3 = w2.alloc (.cells #[.int .u64 t.k, .int .u64 t.b] 24) := ⟨_, rfl⟩
  rw [← hW3] at HT HP2 HA2 HX2 HM2 ⊢
  clear hW3
  have c : W3.cell? ⟨p, 0, none⟩ = some (.pointer (some ⟨a, 0, none⟩)) := HP2.out.cell 0
  have x0 := HX2.out.cell 0
  have x1 := HX2.out.cell 1
  simp only [List.getElem?_toArray, List.getElem?_cons_zero, List.getElem?_cons_succ] at x0 x1
  have hme := fun W => meth_free a W
  go_region_with
    (first
      | (go_at_call 38
         refine (HU.out _ HA2.out.drew).mono ?_
         rintro e wz ⟨rfl, htz, hfz⟩))
  all_goals
    have HTz := Lib.hid htz.ofDrew
    have HFz := Lib.hid hfz
    clear htz hfz c x0 x1 hme
    go_wp2_with fail
    go_ret
    have hpa : p ∉ [a] := by simpa using HA.out.pa
    have hma : m ∉ [a] := by simpa using (HA.out.hm.ne HA.out.ha).symm
    exact ⟨rfl, (HT.out.more (by simp)).trans (HTz.out.more (by simp)), HTz.out.other HP2.out hpa, HFz.out, by have h := HM2.out.turned HTz.out hma; show MapAt _ m (delT s.tk t.n); rw [HN.out]; exact h⟩

theorem end_use {W : World} {p a m : Nat} {s : Pu} (n : Int) (t : Tk) (h : At W p a m s) (hu : Uniq s.tk) (hg : getT s.tk n = some t) (h1 : 0 ≤ s.hk) (h2 : 0 ≤ t.k) (h3 : s.hk + t.k < 18446744073709551616) (h4 : 0 ≤ s.hb) (h5 : 0 ≤ t.b) (h6 : s.hb + t.b < 18446744073709551616) :
    Calls Try.prog 36 #[.pointer (some ⟨p, 0, none⟩), .int .i64 n, .func (.methodOf 42 "burgage/purse.use") #[] #[]] W fun e w' => e = .returned (.int .i64 0) ∧ Turned [a, m] W w' ∧ At w' p a m (comP s t) := by
  have HI := Lib.hid (isNil_any h)
  have HC := Lib.hid (closed_any s a m n W h.ha h.hm hu)
  have HA := Lib.hid h
  have hv : getV s.tk n = .tuple #[lim t.k t.b, .bool true] := by unfold getV; rw [hg]
  have HV := Lib.hid hv
  have HN := Lib.hid (getT_n hg).1
  have HU := Lib.hid (fun w h => use_any s a m t.k t.b w h h1 h2 h3 h4 h5 h6)
  have hnp : p ∉ [m] := by simpa using h.hm.ne h.hp
  have hna : a ∉ [m] := by simpa using h.hm.ne h.ha
  have HNN := Lib.hid (And.intro hnp hna)
  have c := h.cells
  clear h hv hg hu hnp hna h1 h2 h3 h4 h5 h6
  go_enter Try.func36, Try.ntmps36
  go_wp2_with fail
  refine HI.out.mono ?_
  rintro e w1 ⟨rfl, hw1⟩
  obtain rfl := hw1
  go_wp2_with fail
  refine HC.out.mono ?_
  rw [HV.out]
  rintro e w2 ⟨rfl, ht, hm2⟩
  have HT := Lib.hid (ht.alloc (.cells #[.int .u64 t.k, .int .u64 t.b] 24))
  have HP2 := Lib.hid ((ht.other HA.out.hp HNN.out.1).alloc (.cells #[.int .u64 t.k, .int .u64 t.b] 24))
  have HA2 := Lib.hid ((ht.other HA.out.ha HNN.out.2).alloc (.cells #[.int .u64 t.k, .int .u64 t.b] 24))
  have HX2 := Lib.hid (Fresh.new w2 w2.heap.size #[.int .u64 t.k, .int .u64 t.b] 24 rfl)
  have HM2 := Lib.hid (hm2.turned (S := []) (.of_below (((Below.refl w2.heap.size w2)).alloc (Nat.le_refl _) (.cells #[.int .u64 t.k, .int .u64 t.b] 24))) (by simp))
  clear ht hm2 c
  go_wp2_with fail
  obtain ⟨W3, hW3⟩ : ∃ W3, W3 = w2.alloc (.cells #[.int .u64 t.k, .int .u64 t.b] 24) := ⟨_, rfl⟩
  rw [← hW3] at HT HP2 HA2 HX2 HM2 ⊢
  clear hW3
  have c : W3.cell? ⟨p, 0, none⟩ = some (.pointer (some ⟨a, 0, none⟩)) := HP2.out.cell 0
  have x0 := HX2.out.cell 0
  have x1 := HX2.out.cell 1
  simp only [List.getElem?_toArray, List.getElem?_cons_zero, List.getElem?_cons_succ] at x0 x1
  have hme := fun W => meth_use a W
  go_region_with
    (first
      | (go_at_call 37
         refine (HU.out _ HA2.out.drew).mono ?_
         rintro e wz ⟨rfl, htz, hfz⟩))
  all_goals
    have HTz := Lib.hid htz.ofDrew
    have HFz := Lib.hid hfz
    clear htz hfz c x0 x1 hme
    go_wp2_with fail
    go_ret
    have hpa : p ∉ [a] := by simpa using HA.out.pa
    have hma : m ∉ [a] := by simpa using (HA.out.hm.ne HA.out.ha).symm
    exact ⟨rfl, (HT.out.more (by simp)).trans (HTz.out.more (by simp)), HTz.out.other HP2.out hpa, HFz.out, by have h := HM2.out.turned HTz.out hma; show MapAt _ m (delT s.tk t.n); rw [HN.out]; exact h⟩

theorem refund_yes {W : World} {p a m : Nat} {s : Pu} (n : Int) (t : Tk) (h : At W p a m s) (hu : Uniq s.tk) (hg : getT s.tk n = some t) (h1 : 0 ≤ t.k) (h2 : t.k ≤ s.bk) (h3 : s.bk < 18446744073709551616) (h4 : 0 ≤ t.b) (h5 : t.b ≤ s.bb) (h6 : s.bb < 18446744073709551616) :
    Calls Try.prog 16 #[.pointer (some ⟨p, 0, none⟩), .int .i64 n] W fun e w' => e = .returned (.int .i64 0) ∧ Turned [a, m] W w' ∧ At w' p a m (refP s t) := by
  have HC := Lib.hid (end_free n t h hu hg h1 h2 h3 h4 h5 h6)
  have hmf := @makeFunc_run Try.prog
  clear h hg hu h1 h2 h3 h4 h5 h6
  go_enter Try.func16, Try.ntmps16
  go_wp2_with fail
  refine HC.out.mono ?_
  rintro e w1 ⟨rfl, ht, ha⟩
  have H1 := Lib.hid ht
  have H2 := Lib.hid ha
  clear ht ha
  go_wp2_with fail
  go_ret
  exact ⟨rfl, H1.out, H2.out⟩

theorem refund_no {W : World} {p a m : Nat} {s : Pu} (n : Int) (h : At W p a m s) (hu : Uniq s.tk) (hg : getT s.tk n = none) :
    Calls Try.prog 16 #[.pointer (some ⟨p, 0, none⟩), .int .i64 n] W fun e w' => e = .returned (.int .i64 5) ∧ Turned [a, m] W w' ∧ At w' p a m s := by
  have HC := Lib.hid (end_no n (.func (.methodOf 42 "burgage/purse.free") #[] #[]) h hu hg)
  have hmf := @makeFunc_run Try.prog
  clear h hg hu
  go_enter Try.func16, Try.ntmps16
  go_wp2_with fail
  refine HC.out.mono ?_
  rintro e w1 ⟨rfl, ht, ha⟩
  have H1 := Lib.hid ht
  have H2 := Lib.hid ha
  clear ht ha
  go_wp2_with fail
  go_ret
  exact ⟨rfl, H1.out, H2.out⟩

theorem commit_yes {W : World} {p a m : Nat} {s : Pu} (n : Int) (t : Tk) (h : At W p a m s) (hu : Uniq s.tk) (hg : getT s.tk n = some t) (h1 : 0 ≤ s.hk) (h2 : 0 ≤ t.k) (h3 : s.hk + t.k < 18446744073709551616) (h4 : 0 ≤ s.hb) (h5 : 0 ≤ t.b) (h6 : s.hb + t.b < 18446744073709551616) :
    Calls Try.prog 15 #[.pointer (some ⟨p, 0, none⟩), .int .i64 n] W fun e w' => e = .returned (.int .i64 0) ∧ Turned [a, m] W w' ∧ At w' p a m (comP s t) := by
  have HC := Lib.hid (end_use n t h hu hg h1 h2 h3 h4 h5 h6)
  have hmf := @makeFunc_run Try.prog
  clear h hg hu h1 h2 h3 h4 h5 h6
  go_enter Try.func15, Try.ntmps15
  go_wp2_with fail
  refine HC.out.mono ?_
  rintro e w1 ⟨rfl, ht, ha⟩
  have H1 := Lib.hid ht
  have H2 := Lib.hid ha
  clear ht ha
  go_wp2_with fail
  go_ret
  exact ⟨rfl, H1.out, H2.out⟩

theorem commit_no {W : World} {p a m : Nat} {s : Pu} (n : Int) (h : At W p a m s) (hu : Uniq s.tk) (hg : getT s.tk n = none) :
    Calls Try.prog 15 #[.pointer (some ⟨p, 0, none⟩), .int .i64 n] W fun e w' => e = .returned (.int .i64 5) ∧ Turned [a, m] W w' ∧ At w' p a m s := by
  have HC := Lib.hid (end_no n (.func (.methodOf 42 "burgage/purse.use") #[] #[]) h hu hg)
  have hmf := @makeFunc_run Try.prog
  clear h hg hu
  go_enter Try.func15, Try.ntmps15
  go_wp2_with fail
  refine HC.out.mono ?_
  rintro e w1 ⟨rfl, ht, ha⟩
  have H1 := Lib.hid ht
  have H2 := Lib.hid ha
  clear ht ha
  go_wp2_with fail
  go_ret
  exact ⟨rfl, H1.out, H2.out⟩

end Go.Proofs.Ytpnddccanelcnaa
