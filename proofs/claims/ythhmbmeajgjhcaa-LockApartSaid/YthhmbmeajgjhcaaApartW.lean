/- The walk of LockApart. -/
import Derived.Test.YthhmbmeajgjhcaaDeed
import Derived.Test.YthhmbmeajgjhcaaRefEq
import Derived.Test.YthhmbmeajgjhcaaDeeds
import Derived.Test.YthhmbmeajgjhcaaAwakeW
namespace Go.Proofs.Ythhmbmeajgjhcaa
open Go.RowKit
set_option maxRecDepth 100000
set_option maxHeartbeats 16000000

/-- Two tables beside one another, and the box of the reference. -/
structure Two (w W : World) (p a m p' a' m' q : Nat) (ox og : Int) (s s' : Lk) : Prop where
  A : At W p a m s
  B : At W p' a' m' s'
  box : Fresh W q #[.int .i64 ox, .int .u32 og] 33
  low : Below w.heap.size w W
  gA : ∀ k ∈ [a, m], w.heap.size ≤ k
  gB : ∀ k ∈ [a', m'], w.heap.size ≤ k
  nA : ∀ k ∈ [p', a', m', q], k ∉ [a, m]
  nB : ∀ k ∈ [p, a, m, q], k ∉ [a', m']
theorem At.other {W W' : World} {p a m : Nat} {s : Lk} {S : List Nat} (h : At W p a m s) (ht : Turned S W W') (hn : ∀ k ∈ [p, a, m], k ∉ S) : At W' p a m s :=
  ⟨ht.other h.hp (hn p (by simp)), ht.other h.ha (hn a (by simp)), h.hm.turned ht (hn m (by simp)), h.uniq⟩
section
variable {w W W' : World} {p a m p' a' m' q : Nat} {ox og : Int} {s s' t : Lk}
theorem Two.below (h : Two w W p a m p' a' m' q ox og s s') (hb : Below W.heap.size W W') : Two w W' p a m p' a' m' q ox og s s' :=
  ⟨h.A.below hb, h.B.below hb, h.box.below hb, Below.step h.low hb, h.gA, h.gB, h.nA, h.nB⟩
theorem Two.turnA (h : Two w W p a m p' a' m' q ox og s s') (ht : Turned [a, m] W W') (hA : At W' p a m t) : Two w W' p a m p' a' m' q ox og t s' :=
  ⟨hA, h.B.other ht (fun k hk => h.nA k (by simp at hk ⊢; rcases hk with rfl | rfl | rfl <;> simp)), ht.other h.box (h.nA q (by simp)), ht.below h.low h.gA h.low.size, h.gA, h.gB, h.nA, h.nB⟩
theorem Two.turnB (h : Two w W p a m p' a' m' q ox og s s') (ht : Turned [a', m'] W W') (hB : At W' p' a' m' t) : Two w W' p a m p' a' m' q ox og s t :=
  ⟨h.A.other ht (fun k hk => h.nB k (by simp at hk ⊢; rcases hk with rfl | rfl | rfl <;> simp)), hB, ht.other h.box (h.nB q (by simp)), ht.below h.low h.gB h.low.size, h.gA, h.gB, h.nA, h.nB⟩
theorem Two.ref (h : Two w W p a m p' a' m' q ox og s s') : W.cell? ⟨q, 0, none⟩ = some (.int .i64 ox) ∧ W.cell? ⟨q, 1, none⟩ = some (.int .u32 og) := ⟨h.box.cell 0, h.box.cell 1⟩
end
def Loop2 (w : World) (p a m p' a' m' q len : Nat) (ox og : Int) (tk it : Value) (wr : World) : Prop := ∃ (i : Nat) (T : Int) (s s' : Lk), i ≤ len ∧ i ≤ 200 ∧ it = .int .i64 i ∧ tk = .int .i64 T ∧ s.Ok (i + 1) ∧ s'.Ok (i + 1) ∧ getW s.l ox og = getW s'.l ox og ∧ s.taken - T = s'.taken ∧ 0 ≤ T ∧ Two w wr p a m p' a' m' q ox og s s'
theorem dO_taken (o : Option Wd) (y x g v w : Int) : 0 ≤ (dO o y x g v w).2.2 := by
  unfold dO
  repeat' split
  all_goals (first | exact Int.le_refl _ | simp)
theorem ok_nil : Lk.Ok ⟨0, 0, []⟩ 0 := ⟨List.Pairwise.nil, fun t h => (by cases h), rfl, by decide, by decide, by decide⟩
theorem get_w64 {s : Lk} {N : Int} (h : s.Ok N) (x g : Int) : W64 (zeroW (getW s.l x g)) := by
  cases hg : getW s.l x g with
  | none => exact ⟨by decide, by decide⟩
  | some t => exact h.w t (mem_get hg).1

theorem lockApart_walk (ao : Option Addr) (len cap : Nat) (ox og : Int) (w : World) (hd : IsDeeds w ao len) (hr : RefOk ox og) :
    Calls Try.prog 6 #[.slice ao len cap, refV ox og] w fun e w' => e = .returned (.bool true) ∧ Below w.heap.size w w' := by
  have HD := Lib.hid hd
  have hlen := hd.1
  have HR := Lib.hid hr
  clear hd hr
  obtain ⟨W0, hW0⟩ : ∃ W0, W0 = w.alloc (.cells #[.int .i64 ox, .int .u32 og] 33) := ⟨_, rfl⟩
  have HW := Lib.hid hW0
  have HF0 : Hid (Fresh W0 w.heap.size #[.int .i64 ox, .int .u32 og] 33) := by show Fresh _ _ _ _; rw [hW0]; exact Fresh.new _ _ _ _ rfl
  have HB00 : Hid (Below w.heap.size w W0) := by show Below _ _ _; rw [hW0]; exact Below.new (Below.refl _ _) _
  clear hW0
  by_cases hl : 200 < len
  · have hl2 : (200 : Int) < (len : Int) := by omega
    have hl3 : decide (200 < len) = true := decide_eq_true hl
    clear hl
    go_enter Try.func6, Try.ntmps6
    go_upto_region 1 with fail
    rw [← HW.out]
    go_wp2_with fail
    refine (awake_any _).mono ?_
    rintro e w1 ⟨rfl, hb1⟩
    have HB1 := Lib.hid (Below.step HB00.out hb1)
    clear hb1
    go_wp2_with fail
    go_ret
    exact ⟨rfl, HB1.out⟩
  have hl2 : ¬ (200 : Int) < (len : Int) := by omega
  have hl3 : decide (200 < len) = false := decide_eq_false hl
  have HL := Lib.hid hl
  clear hl
  go_enter Try.func6, Try.ntmps6
  go_upto_region 1 with fail
  rw [← HW.out]
  go_wp2_with fail
  refine (awake_any _).mono ?_
  rintro e w0 ⟨rfl, hb0⟩
  have HB0 := Lib.hid (Below.step HB00.out hb0)
  have HF1 := Lib.hid (HF0.out.below hb0)
  clear hb0
  go_wp2_with fail
  refine (new_any _).mono ?_
  rintro e w1 ⟨p, a, m, hp, ha, hm, rfl, hb1, hA1⟩
  have HG1 : Hid (w0.heap.size ≤ p ∧ w0.heap.size ≤ a ∧ w0.heap.size ≤ m) := ⟨hp, ha, hm⟩
  have HB1 := Lib.hid hb1
  have HA1 := Lib.hid hA1
  clear hp ha hm hb1 hA1 hl2 hl3
  go_wp2_with fail
  refine (new_any _).mono ?_
  rintro e w2 ⟨p', a', m', hp, ha, hm, rfl, hb1, hA2⟩
  have H2 : Hid (Two w w2 p a m p' a' m' w.heap.size ox og ⟨0, 0, []⟩ ⟨0, 0, []⟩) := by
    have g1 := HG1.out
    have g2 := HB0.out.size
    have g3 := HF1.out.lt
    have g4 := HA1.out.ha.lt
    have g5 := HA1.out.hm.lt
    have g6 := HA1.out.hp.lt
    have g7 := HB1.out.size
    refine ⟨HA1.out.below hb1, hA2, (HF1.out.below HB1.out).below hb1, Below.step (Below.step HB0.out HB1.out) hb1, ?_, ?_, ?_, ?_⟩
    all_goals
      intro k hk
      simp at hk ⊢
      omega
  clear hp ha hm hb1 hA2 HA1 HG1 HF1 HF0 HB1
  obtain ⟨q, hq⟩ : ∃ q, w.heap.size = q := ⟨_, rfl⟩
  rw [hq] at H2 ⊢
  have HQ := Lib.hid hq
  clear hq
  obtain ⟨r0, r1⟩ := H2.out.ref
  go_wp2_with fail
  refine (add_any H2.out.A ox og HR.out).mono ?_
  rintro e w3 ⟨rfl, ht, ha⟩
  have H3 := Lib.hid (H2.out.turnA ht ha)
  clear ht ha r0 r1
  obtain ⟨r0, r1⟩ := H3.out.ref
  go_wp2_with fail
  refine (add_any H3.out.B ox og HR.out).mono ?_
  rintro e w4 ⟨rfl, ht, ha⟩
  have H4 := Lib.hid (H3.out.turnB ht ha)
  clear ht ha r0 r1
  go_wp2_with fail
  go_loopw [7, 8] (fun tk it wr => Loop2 w p a m p' a' m' q len ox og tk it wr) (fun _ it _ => 200 - (intOf it).toNat)
  case atStart => exact ⟨0, 0, _, _, by omega, by omega, rfl, rfl, add_ok ok_nil ox og, add_ok ok_nil ox og, rfl, by simp, by omega, H4.out⟩
  case round =>
    obtain ⟨i, T, s, s', hi, hi2, rfl, rfl, ho1, ho2, hg, ht, hT, h2⟩ := hrel
    have HO := Lib.hid h2
    have HK := Lib.hid (And.intro ho1 (And.intro ho2 (And.intro hg (And.intro ht hT))))
    clear h2 ho1 ho2 hg ht hT H2 H3 H4
    by_cases hgo : i < len
    · have q1 : (i : Int) < (len : Int) := by omega
      have q3 : decide (i < len) = true := decide_eq_true hgo
      have q0 : (0 : Int) ≤ (i : Int) := Int.natCast_nonneg _
      have HI : Hid (i < len ∧ i < 200) := ⟨hgo, by have := HL.out; omega⟩
      obtain ⟨g, off, rfl, c, x, k, v, u1, u2, HG⟩ := HD.out.at' i hgo
      have HG := Lib.hid HG
      have HX := Lib.hid u1
      clear u1 u2 hgo hi hi2
      obtain ⟨hgl, e0, e1, e2, e3⟩ := HG.out _ HO.out.low
      go_upto_region 13 with fail
      obtain ⟨W5, hW5⟩ : ∃ W5, W5 = wr.alloc (.cells #[.int .i64 c, .int .i64 x, .int .u32 k, .int .u64 v] 37) := ⟨_, rfl⟩
      rw [← hW5]
      obtain ⟨d, hd⟩ : ∃ d, wr.heap.size = d := ⟨_, rfl⟩
      rw [hd]
      have H5 : Hid (Two w W5 p a m p' a' m' q ox og s s') := by show Two _ _ _ _ _ _ _ _ _ _ _ _ _; rw [hW5]; exact HO.out.below (Below.new (Below.refl _ _) _)
      have F5 : Hid (Fresh W5 d #[.int .i64 c, .int .i64 x, .int .u32 k, .int .u64 v] 37) := by show Fresh _ _ _ _; rw [hW5]; exact Fresh.new _ _ _ _ hd
      have ND : Hid (d ∉ [a, m] ∧ d ∉ [a', m']) := by
        have h1 := HO.out.A.ha.lt
        have h2 := HO.out.A.hm.lt
        have h3 := HO.out.B.ha.lt
        have h4 := HO.out.B.hm.lt
        show d ∉ [a, m] ∧ d ∉ [a', m']
        simp
        omega
      clear hW5 hd e0 e1 e2 e3 hgl
      have d0 := F5.out.cell 0
      have d1 := F5.out.cell 1
      have d2 := F5.out.cell 2
      have d3 := F5.out.cell 3
      simp only [List.getElem?_toArray, List.getElem?_cons_zero, List.getElem?_cons_succ] at d0 d1 d2 d3
      go_wp2_with fail
      have HBx := Lib.hid (begin_any H5.out.A x k HX.out HK.out.1.w)
      obtain ⟨z, hz⟩ : ∃ z, zeroW (getW s.l x k) = z := ⟨_, rfl⟩
      rw [hz] at HBx
      clear hz
      obtain ⟨st, hst⟩ : ∃ z, stOf (getW s.l x k) = z := ⟨_, rfl⟩
      rw [hst] at HBx
      clear hst
      refine HBx.out.mono ?_
      rintro e w6 ⟨rfl, hb6⟩
      have H6 := Lib.hid (H5.out.below hb6)
      have F6 := Lib.hid (F5.out.below hb6)
      clear hb6 d0 d1 d2 d3 HBx H5 F5
      have d0 := F6.out.cell 0
      have d1 := F6.out.cell 1
      have d2 := F6.out.cell 2
      have d3 := F6.out.cell 3
      simp only [List.getElem?_toArray, List.getElem?_cons_zero, List.getElem?_cons_succ] at d0 d1 d2 d3
      go_wp2_with fail
      refine (taken_any H6.out.A).mono ?_
      rintro e w7 ⟨rfl, hw7⟩
      subst hw7
      go_wp2_with fail
      refine (deed_any c x k v z H6.out.A HK.out.1 (by have := HI.out; omega) HX.out).mono ?_
      have hy := And.intro (Int.emod_nonneg c (show (7 : Int) ≠ 0 by decide)) (Int.emod_lt_of_pos c (show (0 : Int) < 7 by decide))
      obtain ⟨y, hy'⟩ : ∃ y, c % 7 = y := ⟨_, rfl⟩
      have HC7 := Lib.hid hy'
      rw [hy'] at hy ⊢
      clear hy'
      have HDo := Lib.hid (dS_does s y x k v z hy)
      have HDb := Lib.hid (dS_does s' y x k v z hy)
      have HOk := Lib.hid (dS_ok HK.out.1 y x k v z)
      have HOb := Lib.hid (dS_ok HK.out.2.1 y x k v z)
      obtain ⟨⟨s1, b1⟩, h1⟩ : ∃ r, dS s y x k v z = r := ⟨_, rfl⟩
      rw [h1] at HDo HOk ⊢
      dsimp only at HDo HOk ⊢
      clear h1 hy
      rintro e w8 ⟨rfl, ht, ha⟩
      have H8 := Lib.hid (H6.out.turnA ht ha)
      have F8 := Lib.hid (ht.other F6.out ND.out.1)
      clear ht ha d0 d1 d2 d3 H6 F6
      have d0 := F8.out.cell 0
      have d1 := F8.out.cell 1
      have d2 := F8.out.cell 2
      have d3 := F8.out.cell 3
      simp only [List.getElem?_toArray, List.getElem?_cons_zero, List.getElem?_cons_succ] at d0 d1 d2 d3
      obtain ⟨r0, r1⟩ := H8.out.ref
      by_cases he : x = ox ∧ k = og
      · as_aux_lemma =>
          obtain rfl : ox = x := he.1.symm
          obtain rfl : og = k := he.2.symm
          clear he
          have kd : decide (ox = ox ∧ og = og) = true := by simp
          have he1 := fun W => run_eqref HR.out HR.out W
          go_wp2_with fail
          refine (deed_any c ox og v z H8.out.B HK.out.2.1 (by have := HI.out; omega) HX.out).mono ?_
          rw [HC7.out]
          obtain ⟨⟨s2, b2⟩, h2⟩ : ∃ r, dS s' y ox og v z = r := ⟨_, rfl⟩
          rw [h2] at HDb HOb ⊢
          dsimp only at HDb HOb ⊢
          clear h2
          have hbe : b2 = b1 := by rw [HDb.out.res, HDo.out.res, HK.out.2.2.1]
          subst hbe
          rintro e w9 ⟨rfl, ht, ha⟩
          have H9 := Lib.hid (H8.out.turnB ht ha)
          have F9 := Lib.hid (ht.other F8.out ND.out.2)
          clear ht ha d0 d1 d2 d3 H8 F8 r0 r1
          have d0 := F9.out.cell 0
          have d1 := F9.out.cell 1
          have d2 := F9.out.cell 2
          have d3 := F9.out.cell 3
          simp only [List.getElem?_toArray, List.getElem?_cons_zero, List.getElem?_cons_succ] at d0 d1 d2 d3
          obtain ⟨r0, r1⟩ := H9.out.ref
          have kb : (b2 != b2) = false := by simp
          go_upto_region 20 with fail
          clear kb kd he1
          have HP : Hid (getW s1.l ox og = getW s2.l ox og ∧ s1.taken - T = s2.taken ∧ 0 ≤ T ∧ s1.Ok (i + 2) ∧ s2.Ok (i + 2)) := by refine ⟨by rw [HDo.out.at', HDb.out.at', HK.out.2.2.1], ?_, HK.out.2.2.2.2, HOk.out.more (by omega), HOb.out.more (by omega)⟩; have h1 := HDo.out.taken; have h2 := HDb.out.taken; rw [HK.out.2.2.1] at h1; have h3 := HK.out.2.2.2.1; omega
          clear d0 d1 d2 d3 r0 r1 
          obtain ⟨r0, r1⟩ := H9.out.ref
          go_wp2_with fail
          have HBa := Lib.hid (begin_any H9.out.A ox og HR.out HP.out.2.2.2.1.w)
          have HBb := Lib.hid (fun W (h : At W p' a' m' s2) => begin_any h ox og HR.out HP.out.2.2.2.2.w)
          have HCa := Lib.hid (fun W u (h : At W p a m s1) => check_any h ox og u HR.out)
          have HCb := Lib.hid (fun W u (h : At W p' a' m' s2) => check_any h ox og u HR.out)
          rw [HP.out.1] at HBa HCa
          obtain ⟨o, hoo⟩ : ∃ o, getW s2.l ox og = o := ⟨_, rfl⟩
          rw [hoo] at HBa HBb HCa HCb
          clear hoo
          obtain ⟨u, hu⟩ : ∃ u, zeroW o = u := ⟨_, rfl⟩
          rw [hu] at HBa HBb HCa HCb
          clear hu
          obtain ⟨t2, ht2⟩ : ∃ u, stOf o = u := ⟨_, rfl⟩
          rw [ht2] at HBa HBb
          clear ht2
          refine HBa.out.mono ?_
          rintro e w10 ⟨rfl, hb⟩
          have H10 := Lib.hid (H9.out.below hb)
          clear hb r0 r1 HBa
          obtain ⟨r0, r1⟩ := H10.out.ref
          go_wp2_with fail
          refine (HBb.out _ H10.out.B).mono ?_
          rintro e w11 ⟨rfl, hb⟩
          have H11 := Lib.hid (H10.out.below hb)
          clear hb r0 r1 HBb
          go_wp2_with fail
          obtain ⟨r0, r1⟩ := H11.out.ref
          obtain ⟨bb, hbb⟩ : ∃ b, (o.isSome && (u == u)) = b := ⟨_, rfl⟩
          have HCa' : Hid (∀ W, At W p a m s1 → Calls Try.prog 15 #[.pointer (some ⟨p, 0, none⟩), refV ox og, .int .u64 u] W fun e w' => e = .returned (.bool bb) ∧ Below W.heap.size W w') := fun W h => by have := HCa.out W u h; rw [hbb] at this; exact this
          have HCb' : Hid (∀ W, At W p' a' m' s2 → Calls Try.prog 15 #[.pointer (some ⟨p', 0, none⟩), refV ox og, .int .u64 u] W fun e w' => e = .returned (.bool bb) ∧ Below W.heap.size W w') := fun W h => by have := HCb.out W u h; rw [hbb] at this; exact this
          have HTa : Hid (∀ W, At W p a m s1 → Calls Try.prog 21 #[.pointer (some ⟨p, 0, none⟩)] W fun e w' => e = .returned (.int .i64 s1.taken) ∧ Below W.heap.size W w') := fun W h => (taken_any h).mono fun e w' q => ⟨q.1, by rw [q.2]; exact Below.refl _ _⟩
          have HTb : Hid (∀ W, At W p' a' m' s2 → Calls Try.prog 21 #[.pointer (some ⟨p', 0, none⟩)] W fun e w' => e = .returned (.int .i64 (s1.taken - T)) ∧ Below W.heap.size W w') := fun W h => (taken_any h).mono fun e w' q => ⟨by rw [HP.out.2.1]; exact q.1, by rw [q.2]; exact Below.refl _ _⟩
          clear hbb HCa HCb
          have k1 : (u != u) = false := by simp
          have k2 : (t2 != t2) = false := by simp
          have k3 : ((s1.taken - T) != (s1.taken - T)) = false := by simp
          have k5 : (bb != bb) = false := by simp
          have k4 : IntKind.i64.wrap (s1.taken - T) = s1.taken - T := IntWalk.i64_in _ (by have := HP.out.2.2.2.1; have := this.t0; have := HP.out.2.2.2.2.t0; have := HP.out.2.1; have := HP.out.2.2.1; have := HP.out.2.2.2.2.t1; have := HI.out; omega)
          have KCa : Hid (∀ (d : Nat) (os : Array Obj), Calls Try.prog 15 #[.pointer (some ⟨p, 0, none⟩), refV ox og, .int .u64 u] (Sort.grow (redrawn w11 d) os) fun e w' => e = .returned (.bool bb) ∧ Below (Sort.grow (redrawn w11 d) os).heap.size (Sort.grow (redrawn w11 d) os) w') := fun d os => HCa'.out _ (H11.out.below (below_regrown _ _ _)).A
          have KCb : Hid (∀ (d : Nat) (os : Array Obj), Calls Try.prog 15 #[.pointer (some ⟨p', 0, none⟩), refV ox og, .int .u64 u] (Sort.grow (redrawn w11 d) os) fun e w' => e = .returned (.bool bb) ∧ Below (Sort.grow (redrawn w11 d) os).heap.size (Sort.grow (redrawn w11 d) os) w') := fun d os => HCb'.out _ (H11.out.below (below_regrown _ _ _)).B
          have KTa : Hid (∀ (d : Nat) (os : Array Obj), Calls Try.prog 21 #[.pointer (some ⟨p, 0, none⟩)] (Sort.grow (redrawn w11 d) os) fun e w' => e = .returned (.int .i64 s1.taken) ∧ Below (Sort.grow (redrawn w11 d) os).heap.size (Sort.grow (redrawn w11 d) os) w') := fun d os => HTa.out _ (H11.out.below (below_regrown _ _ _)).A
          have KTb : Hid (∀ (d : Nat) (os : Array Obj), Calls Try.prog 21 #[.pointer (some ⟨p', 0, none⟩)] (Sort.grow (redrawn w11 d) os) fun e w' => e = .returned (.int .i64 (s1.taken - T)) ∧ Below (Sort.grow (redrawn w11 d) os).heap.size (Sort.grow (redrawn w11 d) os) w') := fun d os => HTb.out _ (H11.out.below (below_regrown _ _ _)).B
          clear HCa' HCb' HTa HTb
          have g0 := fun d os => cell_regrown r0 d os
          have g1 := fun d os => cell_regrown r1 d os
          refine wp_region_quiet_below (by kernel_rfl) (by kernel_rfl) ?_
          repeat (any_goals (first | go_big_quiet_step (first
            | (go_at_call 15; with_reducible exact Calls.regrown_of (KCa.out _ _))
            | (go_at_call 15; with_reducible exact Calls.regrown_of (KCb.out _ _))
            | (go_at_call 21; with_reducible exact Calls.regrown_of (KTa.out _ _))
            | (go_at_call 21; with_reducible exact Calls.regrown_of (KTb.out _ _))) | quiet_step (fail)))
          all_goals
            refine wpQuiet_nil ?_
            intro w12 hw12
            have hb12 : Below w11.heap.size w11 w12 := by obtain ⟨p, rfl⟩ := hw12; exact below_regrown _ _ _
            have H12 := Lib.hid (H11.out.below hb12)
            clear hw12 hb12 g0 g1 r0 r1 k1 k2 k3 k4 k5
            go_wp2_with fail
            go_roundw
            case rel => exact ⟨i + 1, T, s1, s2, by have := HI.out; omega, by have := HI.out; omega, by go_num, rfl, HP.out.2.2.2.1.more (by omega), HP.out.2.2.2.2.more (by omega), HP.out.1, HP.out.2.1, HP.out.2.2.1, H12.out⟩
            case measure => have := HI.out; simp [intOf]; omega
      · as_aux_lemma =>
          rcases (show (¬ x = ox) ∨ (¬ k = og) from if e : x = ox then .inr (fun e2 => he ⟨e, e2⟩) else .inl e) with hxx | hxx
          all_goals
            have kd : decide (x = ox ∧ k = og) = false := decide_eq_false he
            have he1 := fun W => run_eqref HX.out HR.out W
            simp only [kd] at he1
            have HE := Lib.hid he
            clear he
            have hT := HK.out.2.2.2
            have hO := HOk.out
            have kw1 : IntKind.i64.wrap (T + s1.taken) = T + s1.taken := IntWalk.i64_in _ (by have := hO.t0; have := hO.t1; have := HK.out.1.t1; have := HK.out.2.1.t0; have := HI.out; omega)
            have kw2 : IntKind.i64.wrap (T + s1.taken - s.taken) = T + s1.taken - s.taken := IntWalk.i64_in _ (by have := hO.t0; have := hO.t1; have := HK.out.1.t1; have := HK.out.1.t0; have := HK.out.2.1.t0; have := HI.out; omega)
            clear hT hO
            go_upto_region 19 with fail
            clear hxx
            go_wp2_with fail
            refine (taken_any H8.out.A).mono ?_
            rintro e w9 ⟨rfl, hw9⟩
            subst hw9
            have H9 := Lib.hid H8.out
            go_upto_region 20 with fail
            clear kd he1 kw1 kw2
            have HP : Hid (getW s1.l ox og = getW s'.l ox og ∧ s1.taken - (T + s1.taken - s.taken) = s'.taken ∧ 0 ≤ (T + s1.taken - s.taken) ∧ s1.Ok (i + 2) ∧ s'.Ok (i + 2)) := by refine ⟨(HDo.out.other ox og (fun e => HE.out ⟨e.1.symm, e.2.symm⟩)).trans HK.out.2.2.1, ?_, ?_, HOk.out.more (by omega), HK.out.2.1.more (by omega)⟩; have h3 := HK.out.2.2.2.1; omega; have h1 := HDo.out.taken; have h4 := HK.out.2.2.2.2; have h5 := dO_taken (getW s.l x k) y x k v z; omega
            clear d0 d1 d2 d3 r0 r1 
            obtain ⟨r0, r1⟩ := H9.out.ref
            go_wp2_with fail
            have HBa := Lib.hid (begin_any H9.out.A ox og HR.out HP.out.2.2.2.1.w)
            have HBb := Lib.hid (fun W (h : At W p' a' m' s') => begin_any h ox og HR.out HP.out.2.2.2.2.w)
            have HCa := Lib.hid (fun W u (h : At W p a m s1) => check_any h ox og u HR.out)
            have HCb := Lib.hid (fun W u (h : At W p' a' m' s') => check_any h ox og u HR.out)
            rw [HP.out.1] at HBa HCa
            obtain ⟨o, hoo⟩ : ∃ o, getW s'.l ox og = o := ⟨_, rfl⟩
            rw [hoo] at HBa HBb HCa HCb
            clear hoo
            obtain ⟨u, hu⟩ : ∃ u, zeroW o = u := ⟨_, rfl⟩
            rw [hu] at HBa HBb HCa HCb
            clear hu
            obtain ⟨t2, ht2⟩ : ∃ u, stOf o = u := ⟨_, rfl⟩
            rw [ht2] at HBa HBb
            clear ht2
            refine HBa.out.mono ?_
            rintro e w10 ⟨rfl, hb⟩
            have H10 := Lib.hid (H9.out.below hb)
            clear hb r0 r1 HBa
            obtain ⟨r0, r1⟩ := H10.out.ref
            go_wp2_with fail
            refine (HBb.out _ H10.out.B).mono ?_
            rintro e w11 ⟨rfl, hb⟩
            have H11 := Lib.hid (H10.out.below hb)
            clear hb r0 r1 HBb
            go_wp2_with fail
            obtain ⟨r0, r1⟩ := H11.out.ref
            obtain ⟨bb, hbb⟩ : ∃ b, (o.isSome && (u == u)) = b := ⟨_, rfl⟩
            have HCa' : Hid (∀ W, At W p a m s1 → Calls Try.prog 15 #[.pointer (some ⟨p, 0, none⟩), refV ox og, .int .u64 u] W fun e w' => e = .returned (.bool bb) ∧ Below W.heap.size W w') := fun W h => by have := HCa.out W u h; rw [hbb] at this; exact this
            have HCb' : Hid (∀ W, At W p' a' m' s' → Calls Try.prog 15 #[.pointer (some ⟨p', 0, none⟩), refV ox og, .int .u64 u] W fun e w' => e = .returned (.bool bb) ∧ Below W.heap.size W w') := fun W h => by have := HCb.out W u h; rw [hbb] at this; exact this
            have HTa : Hid (∀ W, At W p a m s1 → Calls Try.prog 21 #[.pointer (some ⟨p, 0, none⟩)] W fun e w' => e = .returned (.int .i64 s1.taken) ∧ Below W.heap.size W w') := fun W h => (taken_any h).mono fun e w' q => ⟨q.1, by rw [q.2]; exact Below.refl _ _⟩
            have HTb : Hid (∀ W, At W p' a' m' s' → Calls Try.prog 21 #[.pointer (some ⟨p', 0, none⟩)] W fun e w' => e = .returned (.int .i64 (s1.taken - (T + s1.taken - s.taken))) ∧ Below W.heap.size W w') := fun W h => (taken_any h).mono fun e w' q => ⟨by rw [HP.out.2.1]; exact q.1, by rw [q.2]; exact Below.refl _ _⟩
            clear hbb HCa HCb
            have k1 : (u != u) = false := by simp
            have k2 : (t2 != t2) = false := by simp
            have k3 : ((s1.taken - (T + s1.taken - s.taken)) != (s1.taken - (T + s1.taken - s.taken))) = false := by simp
            have k5 : (bb != bb) = false := by simp
            have k4 : IntKind.i64.wrap (s1.taken - (T + s1.taken - s.taken)) = s1.taken - (T + s1.taken - s.taken) := IntWalk.i64_in _ (by have := HP.out.2.2.2.1; have := this.t0; have := HP.out.2.2.2.2.t0; have := HP.out.2.1; have := HP.out.2.2.1; have := HP.out.2.2.2.2.t1; have := HI.out; omega)
            have KCa : Hid (∀ (d : Nat) (os : Array Obj), Calls Try.prog 15 #[.pointer (some ⟨p, 0, none⟩), refV ox og, .int .u64 u] (Sort.grow (redrawn w11 d) os) fun e w' => e = .returned (.bool bb) ∧ Below (Sort.grow (redrawn w11 d) os).heap.size (Sort.grow (redrawn w11 d) os) w') := fun d os => HCa'.out _ (H11.out.below (below_regrown _ _ _)).A
            have KCb : Hid (∀ (d : Nat) (os : Array Obj), Calls Try.prog 15 #[.pointer (some ⟨p', 0, none⟩), refV ox og, .int .u64 u] (Sort.grow (redrawn w11 d) os) fun e w' => e = .returned (.bool bb) ∧ Below (Sort.grow (redrawn w11 d) os).heap.size (Sort.grow (redrawn w11 d) os) w') := fun d os => HCb'.out _ (H11.out.below (below_regrown _ _ _)).B
            have KTa : Hid (∀ (d : Nat) (os : Array Obj), Calls Try.prog 21 #[.pointer (some ⟨p, 0, none⟩)] (Sort.grow (redrawn w11 d) os) fun e w' => e = .returned (.int .i64 s1.taken) ∧ Below (Sort.grow (redrawn w11 d) os).heap.size (Sort.grow (redrawn w11 d) os) w') := fun d os => HTa.out _ (H11.out.below (below_regrown _ _ _)).A
            have KTb : Hid (∀ (d : Nat) (os : Array Obj), Calls Try.prog 21 #[.pointer (some ⟨p', 0, none⟩)] (Sort.grow (redrawn w11 d) os) fun e w' => e = .returned (.int .i64 (s1.taken - (T + s1.taken - s.taken))) ∧ Below (Sort.grow (redrawn w11 d) os).heap.size (Sort.grow (redrawn w11 d) os) w') := fun d os => HTb.out _ (H11.out.below (below_regrown _ _ _)).B
            clear HCa' HCb' HTa HTb
            have g0 := fun d os => cell_regrown r0 d os
            have g1 := fun d os => cell_regrown r1 d os
            refine wp_region_quiet_below (by kernel_rfl) (by kernel_rfl) ?_
            repeat (any_goals (first | go_big_quiet_step (first
              | (go_at_call 15; with_reducible exact Calls.regrown_of (KCa.out _ _))
              | (go_at_call 15; with_reducible exact Calls.regrown_of (KCb.out _ _))
              | (go_at_call 21; with_reducible exact Calls.regrown_of (KTa.out _ _))
              | (go_at_call 21; with_reducible exact Calls.regrown_of (KTb.out _ _))) | quiet_step (fail)))
            all_goals
              refine wpQuiet_nil ?_
              intro w12 hw12
              have hb12 : Below w11.heap.size w11 w12 := by obtain ⟨p, rfl⟩ := hw12; exact below_regrown _ _ _
              have H12 := Lib.hid (H11.out.below hb12)
              clear hw12 hb12 g0 g1 r0 r1 k1 k2 k3 k4 k5
              go_wp2_with fail
              go_roundw
              case rel => exact ⟨i + 1, (T + s1.taken - s.taken), s1, s', by have := HI.out; omega, by have := HI.out; omega, by go_num, rfl, HP.out.2.2.2.1.more (by omega), HP.out.2.2.2.2.more (by omega), HP.out.1, HP.out.2.1, HP.out.2.2.1, H12.out⟩
              case measure => have := HI.out; simp [intOf]; omega
    · have q1 : ¬ (i : Int) < (len : Int) := by omega
      have q3 : decide (i < len) = false := decide_eq_false hgo
      clear hgo hi hi2
      go_wp2_with fail
      go_ret
      exact ⟨rfl, HO.out.low⟩
end Go.Proofs.Ythhmbmeajgjhcaa
