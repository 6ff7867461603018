/- The reference model of a table: Add. -/
import Derived.Test.YthhmbmeajgjhcaaRbeg
import Derived.Deep.RegionLaw
namespace Go.Proofs.Ythhmbmeajgjhcaa
open Go.RowKit
set_option maxRecDepth 100000
set_option maxHeartbeats 4000000

/-- append onto a row of the call's own, at a step of a region that draws its order. -/
theorem step_appO {w : World} {ops : Array Oper} {o : Oper} {a : Act} {K : Act → World → Prop} {Q : Exit → Act → World → Prop} {E : Prop} (hgd : o.guard = none) (s x : Operand) (tS e : TypeId)
    (ho : o.op = .call { callee := .builtin .append, args := #[s, x], argTypes := #[tS, tS] })
    (B : Nat) (i : TypeInfo) (z : Value) (size bytes : Nat) (ht : Try.prog.underlying tS = some (.slice e)) (hi : Try.prog.info? e = some i) (hz : i.zero = some z) (hsize : i.size = size) (hby : i.bytes = bytes) (hzs : z.cells.size = size) (hsz : 0 < size) (hb16 : bytes ≤ 16)
    (v : Value) (n : Nat) (xs : List Value) (hs : a.eval s = v) (hown : w.ownsRow B e size v n xs) (hB : B ≤ w.heap.size)
    (ad : Addr) (m c : Nat) (news : List Value) (hx : a.eval x = .slice (some ad) m c) (hl : news.length = m * size) (hnews : ∀ j u, news[j]? = some u → w.cell? (ad.add j) = some u) (h1 : ∀ u ∈ news, u.oneCell' = true)
    (hnm : n + m ≤ 2000000)
    (h : ∀ v' w', w'.ownsRow B e size v' (n + m) (xs ++ news) → w.grownBy w' v.ownBlock → (v'.ownBlock = v.ownBlock ∨ v'.ownBlock = some w.heap.size) → K (a.put o.dst v') w') :
    if Region.wanted o (yielded ops a.tmps) = true then Oper.wp Try.prog o a w K Q else E := by
  have hw : Region.wanted o (yielded ops a.tmps) = true := by simp [Region.wanted, hgd]
  rw [if_pos hw]
  have hbb : (n + m) * bytes ≤ 140737488355328 := Nat.le_trans (Nat.mul_le_mul hnm hb16) (by decide)
  obtain ⟨v', w', hr, h2, h3, h4, h5⟩ := run_append_own_at (P := Try.prog) w B tS o.type e i z size bytes ht hi hz hsize hby hzs hsz v n xs hown ad m c news hl hnews h1 (by unfold maxLen; omega) hbb hB
  unfold Oper.wp execOp
  simp only [ho, resolve, invoke, builtin, Sem.run_bind, Sem.run_pure, Result.andThen_ok, List.map_toArray, List.map_cons, List.map_nil, hs, hx, hr]
  exact h v' w' h2 h3 h5

theorem infoR : ∃ i0 : TypeInfo, Try.prog.info? 33 = some i0 ∧ i0.zero = some (.agg #[.int .i64 0, .int .u32 0]) ∧ i0.size = 2 ∧ i0.bytes = 16 := by
  have h : (Try.prog.info? 33).map (fun i => (i.zero, i.size, i.bytes)) = some (some (.agg #[.int .i64 0, .int .u32 0]), 2, 16) := by kernel_rfl
  cases hi : Try.prog.info? 33 with
  | none => rw [hi] at h; simp at h
  | some i0 =>
    rw [hi] at h
    simp only [Option.map_some, Option.some.injEq, Prod.mk.injEq] at h
    exact ⟨i0, rfl, h.1, h.2.1, h.2.2⟩
theorem infoW : ∃ i0 : TypeInfo, Try.prog.info? 35 = some i0 ∧ i0.zero = some (.int .u64 0) ∧ i0.size = 1 ∧ i0.bytes = 8 := by
  have h : (Try.prog.info? 35).map (fun i => (i.zero, i.size, i.bytes)) = some (some (.int .u64 0), 1, 8) := by kernel_rfl
  cases hi : Try.prog.info? 35 with
  | none => rw [hi] at h; simp at h
  | some i0 =>
    rw [hi] at h
    simp only [Option.map_some, Option.some.injEq, Prod.mk.injEq] at h
    exact ⟨i0, rfl, h.1, h.2.1, h.2.2⟩
/-- What grows a row of the model turns nothing but it. -/
theorem Mod.grown {B r : Nat} {W W' : World} {n z : Nat} {e : TypeId} {v : Value} {xs : List Value} (h : W.ownsRow B e z v n xs) (he : e = 33 ∨ e = 35) (hg : W.grownBy W' v.ownBlock) : Mod B r W W' := by
  obtain ⟨g1, g2, g3, g4, g5⟩ := hg
  refine ⟨g1, g2, g3, g4, fun k hk _ hb => g5 k hk fun e' => ?_⟩
  obtain ⟨cs, ht⟩ := row_type h e'.symm
  rcases hb with hb | hb
  · have := (h.lt k e'.symm).1
    omega
  · obtain ⟨n1, n2⟩ := hb _ _ ht
    rcases he with rfl | rfl
    · exact n1 rfl
    · exact n2 rfl
theorem Fresh.grown {W W' : World} {p : Nat} {cs : Array Value} {t : TypeId} {row : Option Nat} (h : Fresh W p cs t) (hg : W.grownBy W' row) (hr : some p ≠ row) : Fresh W' p cs t := (hg.block p h.lt hr).trans h
theorem Mod.set {B r : Nat} (W : World) (i : Nat) (v : Value) : Mod B r W (W.setCell ⟨r, i, none⟩ v) :=
  ⟨rfl, rfl, rfl, by simp [World.setCell], fun k _ hn _ => Below.heap_setCell W ⟨r, i, none⟩ v k hn⟩
theorem row_two {W : World} {B n z n' z' : Nat} {e e' : TypeId} {v v' : Value} {xs xs' : List Value} (h : W.ownsRow B e z v n xs) (h' : W.ownsRow B e' z' v' n' xs') (he : e ≠ e') {k : Nat} (hk : v.ownBlock = some k) : some k ≠ v'.ownBlock := by
  intro e2
  obtain ⟨cs, h1⟩ := row_type h hk
  obtain ⟨cs', h2⟩ := row_type h' e2.symm
  rw [h1] at h2
  cases h2
  exact he rfl
theorem put_new {l : List Wd} {x g w : Int} (h : getW l x g = none) : putW l x g w = l ++ [⟨x, g, w⟩] := by
  unfold putW
  rw [h]
  rfl

theorem radd_arg {W : World} {B r : Nat} {s : Lk} (h : RAt W B r s.l s.taken) (x g : Int) (hr : ¬ (0 ≤ x ∧ x < 4096 ∧ 1 ≤ g)) :
    Calls Try.prog 26 #[.pointer (some ⟨r, 0, none⟩), refV x g] W fun e w' => e = .returned (.int .i64 2) ∧ Mod B r W w' ∧ RAt w' B r s.l s.taken := by
  obtain ⟨W1, hx⟩ := h.boxed x g
  have HX := Lib.hid hx
  have HW := Lib.hid hx.is
  obtain ⟨r0, r1⟩ := hx.ref
  clear h hx
  have hc : decide (x < 0) = true ∨ (decide (x < 0) = false ∧ decide (4095 < x) = true) ∨ (decide (x < 0) = false ∧ decide (4095 < x) = false ∧ decide (g < 1) = true) := by
    simp only [decide_eq_true_eq, decide_eq_false_iff_not]; omega
  clear hr
  rcases hc with q1 | ⟨q1, q2⟩ | ⟨q1, q2, q3⟩
  all_goals
    go_enter Try.func26, Try.ntmps26
    go_upto_region 1 with fail
    rw [← HW.out]
    go_wp2_with fail
    go_ret
    exact ⟨rfl, Mod.of_below HX.out.low, HX.out.at'⟩

theorem radd_twice {W : World} {B r : Nat} {s : Lk} (h : RAt W B r s.l s.taken) (ho : ∀ u ∈ s.l, RefOk u.s u.g) (hl : s.l.length ≤ 1000000) (x g : Int) (hr : RefOk x g) (h1 : 0 ≤ x ∧ x < 4096 ∧ 1 ≤ g) (t : Wd) (hg : getW s.l x g = some t) :
    Calls Try.prog 26 #[.pointer (some ⟨r, 0, none⟩), refV x g] W fun e w' => e = .returned (.int .i64 8) ∧ Mod B r W w' ∧ RAt w' B r s.l s.taken := by
  obtain ⟨W1, hx⟩ := h.boxed x g
  have HX := Lib.hid hx
  have HW := Lib.hid hx.is
  have HA := rat_any hx.at' ho hl x g hr
  obtain ⟨r0, r1⟩ := hx.ref
  have q1 : decide (x < 0) = false := decide_eq_false (by omega)
  have q2 : decide (4095 < x) = false := decide_eq_false (by omega)
  have q3 : decide (g < 1) = false := decide_eq_false (by omega)
  rcases at_get x g s.l with ⟨e1, _⟩ | ⟨j, u, hj, e1, e2⟩
  · rw [e1] at hg; cases hg
  · rw [e2] at HA
    have HA := Lib.hid HA
    clear h hx hg hr h1 e1 e2 hj ho hl
    go_enter Try.func26, Try.ntmps26
    go_upto_region 1 with fail
    rw [← HW.out]
    go_wp2_with fail
    refine HA.out.mono ?_
    rintro e w2 ⟨rfl, hb2⟩
    have H2 := Lib.hid hb2
    clear hb2 r0 r1
    go_wp2_with fail
    go_ret
    exact ⟨rfl, Mod.of_below (Below.step HX.out.low H2.out), HX.out.at'.below H2.out⟩

theorem radd_yes {W : World} {B r : Nat} {s : Lk} (h : RAt W B r s.l s.taken) (hB : B ≤ W.heap.size) (hrB : r < B) (ho : ∀ u ∈ s.l, RefOk u.s u.g) (hl : s.l.length ≤ 1000000) (x g : Int) (hr : RefOk x g) (h1 : 0 ≤ x ∧ x < 4096 ∧ 1 ≤ g) (hg : getW s.l x g = none) :
    Calls Try.prog 26 #[.pointer (some ⟨r, 0, none⟩), refV x g] W fun e w' => e = .returned (.int .i64 0) ∧ Mod B r W w' ∧ RAt w' B r (putW s.l x g 0) s.taken := by
  obtain ⟨W1, hx⟩ := h.boxed x g
  have HX := Lib.hid hx
  have HW := Lib.hid hx.is
  have HA := rat_any hx.at' ho hl x g hr
  obtain ⟨r0, r1⟩ := hx.ref
  have q1 : decide (x < 0) = false := decide_eq_false (by omega)
  have q2 : decide (4095 < x) = false := decide_eq_false (by omega)
  have q3 : decide (g < 1) = false := decide_eq_false (by omega)
  rw [put_new hg]
  obtain ⟨aR, cR, aW, cW, hf0, oR0, oW0⟩ := h.view
  have HRL := Lib.hid (fun k hk => (oR0.lt k hk).2)
  have HF0 := Lib.hid hf0
  have HR0 := Lib.hid oR0
  have HW0 := Lib.hid oW0
  clear hf0 oR0 oW0
  rcases at_get x g s.l with ⟨_, e2⟩ | ⟨j, u, hj, e1, e2⟩
  rotate_left
  · rw [e1] at hg; cases hg
  · rw [e2] at HA
    have HA := Lib.hid HA
    clear h hx hg hr h1 e2 ho
    obtain ⟨iR, jR, jR0, jR1, jR2⟩ := infoR
    obtain ⟨iW, jW, jW0, jW1, jW2⟩ := infoW
    have HJR := Lib.hid jR
    have HJW := Lib.hid jW
    go_enter Try.func26, Try.ntmps26
    go_upto_region 1 with fail
    rw [← HW.out]
    go_wp2_with fail
    refine HA.out.mono ?_
    rintro e w2 ⟨rfl, hb2⟩
    have H2 := Lib.hid hb2
    clear hb2 r0 r1 HA
    have BL2 := Lib.hid (Below.step HX.out.low H2.out)
    have hf := HF0.out.below BL2.out
    have oR := row_keep HR0.out fun k hk => BL2.out.block k (HR0.out.lt k hk).2
    have oW := row_keep HW0.out fun k hk => BL2.out.block k (HW0.out.lt k hk).2
    have HBX := Lib.hid (HX.out.box.below H2.out)
    have c0 := hf.cell 0
    have r0 := HBX.out.cell 0
    have r1 := HBX.out.cell 1
    simp only [List.getElem?_toArray, List.getElem?_cons_zero, List.getElem?_cons_succ] at c0 r0 r1
    have z0 := hf.thawed 0
    have B2 : B ≤ w2.heap.size := Nat.le_trans hB (Below.step HX.out.low H2.out).size
    have HO := Lib.hid oR
    have HOW := Lib.hid oW
    have HF := Lib.hid hf
    clear oR oW hf
    obtain ⟨W3, hW3⟩ : ∃ W3, W3 = (w2.alloc (.cells #[.int .i64 x, .int .u32 g] 33)).drew := ⟨_, rfl⟩
    have B3 : Below w2.heap.size w2 W3 := by rw [hW3]; exact (Below.new (Below.refl _ _) _).drew
    have D3 : Fresh W3 w2.heap.size #[.int .i64 x, .int .u32 g] 33 := by rw [hW3]; exact (Fresh.new _ _ _ _ rfl).drew
    have HE3 := Lib.hid hW3
    have O3 := Lib.hid (row_keep HO.out fun k hk => B3.block k (HO.out.lt k hk).2)
    have P3 := Lib.hid (row_keep HOW.out fun k hk => B3.block k (HOW.out.lt k hk).2)
    have F3 := Lib.hid (HF.out.below B3)
    have N3 : Hid (∀ (j : Nat) u, [Value.int .i64 x, Value.int .u32 g][j]? = some u → W3.cell? ((⟨w2.heap.size, 0, none⟩ : Addr).add j) = some u) := by
      intro j u hj
      rw [Addr.add_lit, Nat.zero_add, D3.cell j]
      simpa using hj
    have B3s : Hid (B ≤ W3.heap.size) := Nat.le_trans B2 B3.size
    have HB3 := Lib.hid B3
    clear hW3 D3 B3
    go_wp2_with fail
    have ca := (HF.out.alloc (.cells #[.int .i64 x, .int .u32 g] 33)).cell 0
    simp only [List.getElem?_toArray, List.getElem?_cons_zero] at ca
    go_region_law ((first
      | (rw [← HE3.out]
         refine step_appO (by rfl) (.tmp 26) (.tmp 28) 27 33 (by rfl) B iR (.agg #[.int .i64 0, .int .u32 0]) 2 16 Try.underlying27 HJR.out jR0 jR1 jR2 (by rfl) (by omega) (by omega) (.slice aR s.l.length cR) s.l.length (rc s.l) (by rfl) O3.out B3s.out ⟨w2.heap.size, 0, none⟩ 1 1 [.int .i64 x, .int .u32 g] (by rfl) (by rfl) N3.out ?_ (by omega) ?_
         · intro u hu; simp at hu; rcases hu with rfl | rfl <;> rfl
         intro v4 w4 hown4 hgr4 hat4
         obtain ⟨a4, k4, rfl⟩ := row_form hown4
         have HO4 := Lib.hid hown4
         have HG4 := Lib.hid hgr4
         have HT4 := Lib.hid hat4
         have hrn : Hid (some r ≠ (Value.slice aR s.l.length cR).ownBlock) := Ne.symm (row_apart O3.out F3.out (by decide))
         have F4 := Lib.hid (F3.out.grown hgr4 hrn.out)
         have z4 := F4.out.thawed 0
         have c4 := F4.out.cell 0
         simp only [List.getElem?_toArray, List.getElem?_cons_zero] at c4
         clear hown4 hgr4 hat4)))
    all_goals
      clear ca c0 r0 r1 z0 z4 c4
      obtain ⟨W5, hW5⟩ : ∃ W5, W5 = w4.setCell ⟨r, 0, none⟩ (.slice a4 (s.l.length + 1) k4) := ⟨_, rfl⟩
      have M3 : Mod B r W W3 := Mod.of_below (Below.step BL2.out HB3.out)
      have M4 : Mod B r W W5 := by rw [hW5]; exact (M3.trans (Mod.grown O3.out (.inl rfl) HG4.out)).trans (Mod.set _ _ _)
      have F5 : Fresh W5 r #[.slice a4 (s.l.length + 1) k4, .slice aW s.l.length cW, .int .i64 s.taken] TL := by rw [hW5]; exact F4.out.set 0 _
      have O5 : W5.ownsRow B 33 2 (.slice a4 (s.l.length + 1) k4) (s.l.length + 1) (rc (s.l ++ [⟨x, g, 0⟩])) := by
        rw [hW5, rc_append]
        exact row_keep HO4.out fun k hk => Below.heap_setCell w4 ⟨r, 0, none⟩ _ k (by rintro rfl; exact row_apart HO4.out F4.out (by decide) hk)
      have P5 : W5.ownsRow B 35 1 (.slice aW s.l.length cW) s.l.length (wc s.l) := by
        rw [hW5]
        refine row_keep P3.out fun k hk => ?_
        have n1 : k ≠ r := by rintro rfl; exact row_apart P3.out F3.out (by decide) hk
        rw [Below.heap_setCell w4 ⟨r, 0, none⟩ _ k n1]
        exact HG4.out.block k (P3.out.lt k hk).2 (row_two P3.out O3.out (by decide) hk)
      have H4 := Lib.hid M4
      have H5 := Lib.hid F5
      have H6 := Lib.hid O5
      have H7 := Lib.hid P5
      rw [← hW5]
      clear hW5 M3 M4 O5 P5 HO4 HG4 HT4 hrn F4 HE3 O3 P3 F3 N3
      have c1 := F5.cell 1
      simp only [List.getElem?_toArray, List.getElem?_cons_zero, List.getElem?_cons_succ] at c1
      have z1 := F5.thawed 1
      clear F5
      go_upto_region 6 with fail
      have B6 := Below.new (Below.refl W5.heap.size W5) (.cells #[.int .u64 0] 35)
      have P6 := Lib.hid (row_keep H7.out fun k hk => B6.block k (H7.out.lt k hk).2)
      have O6 := Lib.hid (row_keep H6.out fun k hk => B6.block k (H6.out.lt k hk).2)
      have F6 := Lib.hid (H5.out.below B6)
      have M6 := Lib.hid (H4.out.trans (Mod.of_below B6))
      have N6 : Hid (∀ (j : Nat) u, [Value.int .u64 0][j]? = some u → (W5.alloc (.cells #[.int .u64 0] 35)).cell? ((⟨W5.heap.size, 0, none⟩ : Addr).add j) = some u) := by
        intro j u hj
        have hf := Fresh.new W5 W5.heap.size #[.int .u64 0] 35 rfl
        rw [Addr.add_lit, Nat.zero_add, hf.cell j]
        simpa using hj
      have B6s : Hid (B ≤ (W5.alloc (.cells #[.int .u64 0] 35)).heap.size) := by
        have h1 := H4.out.size
        show B ≤ _
        simp
        omega
      clear B6
      go_wp2_with (at_builtin; refine wpList_append_own _ rfl (.tmp 36) (.tmp 37) 28 rfl B 35 iW (.int .u64 0) 1 8 Try.underlying28 HJW.out jW0 jW1 jW2 rfl (by omega) (.slice aW s.l.length cW) s.l.length (wc s.l) rfl P6.out ⟨W5.heap.size, 0, none⟩ 1 1 [.int .u64 0] rfl rfl N6.out (by intro u hu; simp at hu; subst hu; rfl) (by unfold maxLen; omega) (by omega) B6s.out ?_)
      intro v7 w7 hown hgrow hnn
      obtain ⟨a7, k7, rfl⟩ := row_form hown
      have M7 := Lib.hid (M6.out.trans (Mod.grown P6.out (.inr rfl) hgrow))
      have F7 := Lib.hid (F6.out.grown hgrow (Ne.symm (row_apart P6.out F6.out (by decide))))
      have O7 := Lib.hid (row_keep O6.out fun k hk => hgrow.block k (O6.out.lt k hk).2 (row_two O6.out P6.out (by decide) hk))
      have P7 := Lib.hid hown
      clear hown hgrow hnn c1 z1
      have c1 := F7.out.cell 1
      simp only [List.getElem?_toArray, List.getElem?_cons_zero, List.getElem?_cons_succ] at c1
      have z1 := F7.out.thawed 1
      go_wp2_with fail
      go_ret
      refine ⟨rfl, M7.out.trans (Mod.set _ _ _), _, _, F7.out.set 1 _, ?_, ?_⟩
      · rw [List.length_append]
        exact row_keep O7.out fun k hk => Below.heap_setCell w7 ⟨r, 1, none⟩ _ k (by rintro rfl; exact row_apart O7.out F7.out (by decide) hk)
      · rw [List.length_append, wc_append]
        exact row_keep P7.out fun k hk => Below.heap_setCell w7 ⟨r, 1, none⟩ _ k (by rintro rfl; exact row_apart P7.out F7.out (by decide) hk)

theorem radd_any {W : World} {B r : Nat} {s : Lk} (h : RAt W B r s.l s.taken) (hB : B ≤ W.heap.size) (hrB : r < B) (ho : ∀ u ∈ s.l, RefOk u.s u.g) (hl : s.l.length ≤ 1000000) (x g : Int) (hr : RefOk x g) :
    Calls Try.prog 26 #[.pointer (some ⟨r, 0, none⟩), refV x g] W fun e w' => e = .returned (.int .i64 (addS s x g).2) ∧ Mod B r W w' ∧ RAt w' B r (addS s x g).1.l (addS s x g).1.taken := by
  unfold addS
  split
  · rename_i h1
    cases hg : getW s.l x g with
    | some t => exact radd_twice h ho hl x g hr h1 t hg
    | none => exact radd_yes h hB hrB ho hl x g hr h1 hg
  · rename_i h1
    exact radd_arg h x g h1
end Go.Proofs.Ythhmbmeajgjhcaa
