/- with: the node that holds what a table holds. -/
import Derived.Test.YtjaijomkdgoenaaDoorNdFill
import Derived.Maps.OwnIn
namespace Go.Proofs.YtjaijomkdgoenaaDoor.Nd
open Go.RowKit
open Mn
set_option maxRecDepth 1000000
set_option maxHeartbeats 4000000

attribute [local go_sem] Oper.semAt_some
section
variable {W : World} {n : No} {ba : Option Addr} {bc : Nat} {ka : Option Addr} {kc : Nat}
theorem withf_any {B p : Nat} {L : List En} {R : Nat} (keep : Bool) (ht : FTab W B p L R) (hrm : Rm W) (hL : L.length ≤ 256) (hcl : n.c.size ≤ 1000000) :
    Calls Tryd.prog 27 #[n.val ba bc ka kc, .iface 69 (.pointer (some ⟨p, 0, none⟩)), .bool keep] W fun e w' =>
      ∃ ba' bc' ka' kc', e = .returned ((n.kids (kindOf n keep L.length) L).val ba' bc' ka' kc') ∧ Below W.heap.size W w' ∧ NdAt w' (n.kids (kindOf n keep L.length) L) ba' bc' ka' kc' := by
  obtain ⟨q, hfew, hBp, hBq, hsrt, hlR, hR16⟩ := ht
  obtain ⟨bn, hbn⟩ : ∃ bn, n.bs.length = bn := ⟨_, rfl⟩
  obtain ⟨kn, hkn⟩ : ∃ kn, n.rs.length = kn := ⟨_, rfl⟩
  obtain ⟨W3, hW3⟩ : ∃ W3, W3 = ((W.alloc (.cells #[.int .i64 n.k, .string n.c, .string n.v, .string n.p, .slice ba bn bc, .slice ka kn kc] 49)).alloc (.cells #[.int .i64 0, .string ⟨#[]⟩, .string ⟨#[]⟩, .string ⟨#[]⟩, .slice none 0 0, .slice none 0 0] 26)).alloc (.cells #[.int .i64 n.k, .string n.c, .string n.v, .string n.p, .slice none 0 0, .slice none 0 0] 26) := ⟨_, rfl⟩
  have B3 : Below W.heap.size W W3 := by rw [hW3]; exact Below.new (Below.new (Below.new (Below.refl _ _) _) _) _
  have s3 : W3.heap.size = W.heap.size + 3 := by rw [hW3]; simp
  have FZ : Fresh W3 (W.heap.size + 1) zeroC 26 := by rw [hW3]; exact (Fresh.new _ _ _ _ (by simp)).alloc _
  have FX : Fresh W3 (W.heap.size + 1 + 1) #[.int .i64 n.k, .string n.c, .string n.v, .string n.p, .slice none 0 0, .slice none 0 0] 26 := by rw [hW3]; exact Fresh.new _ _ _ _ (by simp)
  have HW3 := Lib.hid hW3
  have H3 := Lib.hid (And.intro B3 (And.intro s3 (And.intro FZ (And.intro FX (And.intro (hfew.below B3) hrm)))))
  have HC := Lib.hid (And.intro hL hcl)
  have HPQ := Lib.hid (And.intro hfew.lt hfew.row.lt)
  clear hW3 hfew hBp hBq hsrt hlR hR16 hrm hL hcl B3 s3 FZ FX
  unfold No.val
  rw [hbn, hkn]
  unfold ndv
  clear hbn hkn
  have hmeth : ∀ (p : Addr) (w : World), (method 244 69 (.pointer (some p)) "All").run Tryd.prog w = .ok (83, .pointer (some p)) w := methfAll 243
  refine (callsIn_wide (n := 10)).1 ?_
  refine callsIn_of_wp_marks Tryd.func27 rfl trivial ?_ rfl
  simp only [Tryd.ntmps27, List.size_toArray, List.length_cons, List.length_nil, Nat.reduceAdd, Nat.reduceSub, Array.replicate_succ, Array.replicate_zero, List.push_toArray, List.append_toArray, List.nil_append, List.cons_append]
  refine wpIn_wide.2 ?_
  refine wp_mono (Q := calmQ _) ?_ calmQ_out
  go_upto_region 3 with fail
  rw [← HW3.out]
  go_wp2_with (go_at_call 83; refine (Fw.allv_any p _).mono ?_; rintro e WL ⟨rfl, hWL⟩; have HWL := Lib.hid hWL; clear hWL)
  obtain ⟨iU, hU0, hU1, hU2, hU3⟩ := infoU
  have HU := Lib.hid (And.intro hU0 (And.intro hU1 (And.intro hU2 hU3)))
  obtain ⟨iR, hR0, hR1, hR2, hR3⟩ := infoR
  have HR := Lib.hid (And.intro hR0 (And.intro hR1 (And.intro hR2 hR3)))
  clear hU0 hU1 hU2 hU3 hR0 hR1 hR2 hR3
  have szL : WL.heap.size = W3.heap.size + 1 := by rw [HWL.out]; simp
  have BL : Below W3.heap.size W3 WL := by rw [HWL.out]; exact Below.new (Below.refl _ _) _
  have fa : Fresh WL W3.heap.size #[.pointer (some ⟨p, 0, none⟩)] 69 := by rw [HWL.out]; exact Fresh.new _ _ _ _ rfl
  obtain ⟨C, hC⟩ : ∃ C, C = WL.heap.size := ⟨_, rfl⟩
  have h31 := H3.out.2.1
  have ML : WiX W WL (W.heap.size + 1 + 1) (W.heap.size + 1) C n L (.slice none 0 0) (.slice none 0 0) 0 0 :=
    ⟨Below.step H3.out.1 BL, H3.out.2.2.2.1.below BL, H3.out.2.2.1.below BL, ⟨rfl, .inl ⟨rfl, rfl⟩⟩, ⟨rfl, .inl ⟨rfl, rfl⟩⟩, by omega⟩
  obtain ⟨S, hS⟩ : ∃ S, S = [W.heap.size + 1 + 1, WL.heap.size + 1] := ⟨_, rfl⟩
  have SZ := Lib.hid (And.intro szL (And.intro hC h31))
  refine (wpIn_wide (n := 10)).1 ?_
  generalize hA0 : ({ tmps := _, defers := _ } : Act) = A0
  refine range_box rfl (by omega) (gf := 88) (lb := #[.pointer (some ⟨W3.heap.size, 0, none⟩)]) (by rw [← hA0]; rfl) trivial (enters_of Tryd.func88 (by kernel_rfl) rfl)
    (Fw.allT_own 9 (by omega) W3.heap.size S L R WL p q (H3.out.2.2.2.2.1.below BL) ((fa.cell 0).trans rfl) (fun k h => by rw [hS] at h; simp at h; omega))
    (fun h k => h.trans k) (fun Wc o _ => Fw.KeepT.put (by rw [hS]; simp) o) (Below.refl _ _) (fun _ => rfl)
    (fun pre Wc => ∃ (k : Nat) (vb vr : Value), k ≤ L.length ∧ pre = L.take k ∧ WiX W Wc (W.heap.size + 1 + 1) (W.heap.size + 1) C n L vb vr k k)
    (fun _ _ _ => False)
    (fun pre Y Z row ⟨k, vb, vr, h1, h2, h3⟩ hg hr => ⟨k, vb, vr, h1, h2, h3.kept hg (fun r e => ⟨by have := (hr r e).1; omega, (hr r e).2⟩)⟩)
    (fun _ _ _ _ _ h _ _ => h)
    ⟨0, _, _, Nat.zero_le _, rfl, ML⟩
    (fun x a' Wc => ∃ bx, a' = { tmps := (((A0.tmps.setIfInBounds 16 (.int .u8 (x.1.toNat : Int))).setIfInBounds 17 (.agg #[.int .i64 x.2.1, .int .u32 x.2.2])).setIfInBounds 8 (.int .u8 (x.1.toNat : Int))).setIfInBounds 9 (.pointer (some ⟨bx, 0, none⟩)), defers := [] } ∧ Fresh Wc bx #[.int .i64 x.2.1, .int .u32 x.2.2] 29)
    (fun x a' _ Y Z row ⟨bx, h1, h2⟩ hg hr => ⟨bx, h1, h2.kept hg (fun r e => (hr r e).2)⟩)
    ?assignment ?round ?done ?stop
  all_goals subst hA0
  case assignment =>
    rintro l' pre x Wc K' hG ⟨k, vb, vr, hk, hpre, hM⟩ hK'
    have low : Below Wc.heap.size Wc (Wc.alloc (.cells #[.int .i64 x.2.1, .int .u32 x.2.2] 29)) := Below.new (Below.refl _ _) _
    have HK := hK' _ (Wc.alloc (.cells #[.int .i64 x.2.1, .int .u32 x.2.2] 29)) ((KeepsOthers.alloc _ _).from _) (Fw.KeepT.of_below low) ⟨k, vb, vr, hk, hpre, hM.below low⟩ ⟨Wc.heap.size, rfl, Fresh.new _ _ _ _ rfl⟩
    clear hK' hM hG low szL BL fa ML h31
    simp only [List.setIfInBounds_toArray, List.set_cons_succ, List.set_cons_zero] at HK
    replace HK := Lib.hid HK
    unfold Fw.enV Fw.refV
    gi_wp2
    exact HK.out
  case round =>
    rintro l' pre x a' W5 hG ⟨k, vb, vr, hk, hpre, hM⟩ ⟨bx, rfl, hbx⟩ hz
    simp only [List.setIfInBounds_toArray, List.set_cons_succ, List.set_cons_zero]
    obtain ⟨j, hj, hjx⟩ := hG
    obtain ⟨h4, h5⟩ := List.append_inj' hjx rfl
    obtain rfl : k = j := by
      have := congrArg List.length (hpre.symm.trans h4)
      rw [List.length_take, List.length_take] at this
      omega
    have hx : x = L[k] := by simpa using h5
    have hnx : pre ++ [x] = L.take (k + 1) := by rw [hjx]; exact (List.take_succ_eq_append_getElem hj).symm
    have hbt : Fw.bytesOf (L.take (k + 1)) = Fw.bytesOf (L.take k) ++ [.int .u8 (x.1.toNat : Int)] := by
      rw [List.take_succ_eq_append_getElem hj, ← hx]; simp [Fw.bytesOf]
    have hrt : Fw.refsOf (L.take (k + 1)) = Fw.refsOf (L.take k) ++ [.int .i64 x.2.1, .int .u32 x.2.2] := by
      rw [List.take_succ_eq_append_getElem hj, ← hx]; simp [Fw.refsOf]
    obtain ⟨c, s, g⟩ := x
    dsimp only at hbx hbt hrt ⊢
    have d4 := hM.fx.cell 4
    simp only [List.getElem?_toArray, List.getElem?_cons_zero, List.getElem?_cons_succ] at d4
    have hl1 := hM.fx.lt
    have hCW : C ≤ W5.heap.size := by omega
    obtain ⟨ab, kb, rfl⟩ := own_form hM.ob
    have low : Below W5.heap.size W5 (W5.alloc (.cells #[.int .u8 (c.toNat : Int)] 5)) := Below.new (Below.refl _ _) _
    have o5 := Lib.hid (hM.below low).ob
    have N5 : Hid (∀ (j : Nat) u, [Value.int .u8 (c.toNat : Int)][j]? = some u → (W5.alloc (.cells #[.int .u8 (c.toNat : Int)] 5)).cell? ((⟨W5.heap.size, 0, none⟩ : Addr).add j) = some u) := by
      intro j u hj
      rw [Addr.add_lit, Nat.zero_add, (Fresh.new W5 W5.heap.size #[.int .u8 (c.toNat : Int)] 5 rfl).cell j]
      simpa using hj
    have hbX : bx ≠ W.heap.size + 1 + 1 := by
      rintro rfl
      have h1 := hM.fx
      unfold Fresh at h1 hbx
      rw [h1] at hbx
      cases hbx
    have HM := Lib.hid (And.intro hM (And.intro hCW (And.intro hj (And.intro hnx (And.intro hbt (And.intro hrt (And.intro hbx hbX)))))))
    have hk16 : Hid (k ≤ 256) := by have := HC.out.1; show k ≤ 256; omega
    have HC5 : Hid (C ≤ (W5.alloc (.cells #[.int .u8 (c.toNat : Int)] 5)).heap.size) := by show _ ≤ _; simp; omega
    clear hM hbx hj hjx h4 h5 hx hnx hpre hk low hCW hbt hrt hbX
    clear szL BL fa ML h31 hC
    gi_wp2_with (gi_at_builtin; refine wpListIn_append_own _ rfl (.tmp 19) (.tmp 21) 23 rfl C 5 iU (.int .u8 0) 1 1 Tryd.underlying23 HU.out.1 HU.out.2.1 HU.out.2.2.1 HU.out.2.2.2 rfl (by omega) (.slice ab k kb) k (Fw.bytesOf (L.take k)) rfl o5.out ⟨W5.heap.size, 0, none⟩ 1 1 [.int .u8 (c.toNat : Int)] rfl rfl N5.out (by intro u hu; simp at hu; rw [hu]; rfl) (by have := hk16.out; unfold maxLen; omega) (by have := hk16.out; omega) HC5.out ?_)
    intro v7 w7 hown hgrow hnn
    obtain ⟨a7, k7, rfl⟩ := own_form hown
    have HP := Lib.hid (HM.out.1.pushB hown hgrow HM.out.2.2.2.2.1)
    obtain ⟨e1, e2, e3, e4, e5⟩ := HP.out
    have hbx8 := e5 bx _ _ HM.out.2.2.2.2.2.2.1 HM.out.2.2.2.2.2.2.2 (by decide)
    have hl8 := e3.fx.lt
    have d5 := e3.fx.cell 5
    have x0 := hbx8.cell 0
    have x1 := hbx8.cell 1
    simp only [List.getElem?_toArray, List.getElem?_cons_zero, List.getElem?_cons_succ] at d5 x0 x1
    obtain ⟨ar, kr, rfl⟩ := own_form e3.orr
    obtain ⟨w8, hw8⟩ : ∃ w8, w8 = w7.setCell ⟨W.heap.size + 1 + 1, 4, none⟩ (.slice a7 (k + 1) k7) := ⟨_, rfl⟩
    have low8 : Below w8.heap.size w8 (w8.alloc (.cells #[.int .i64 s, .int .u32 g] 29)) := Below.new (Below.refl _ _) _
    have N8 : Hid (∀ (j : Nat) u, [Value.int .i64 s, Value.int .u32 g][j]? = some u → (w8.alloc (.cells #[.int .i64 s, .int .u32 g] 29)).cell? ((⟨w7.heap.size, 0, none⟩ : Addr).add j) = some u) := by
      intro j u hj
      rw [Addr.add_lit, Nat.zero_add, (Fresh.new w8 w7.heap.size #[.int .i64 s, .int .u32 g] 29 (by rw [hw8]; simp)).cell j]
      simpa using hj
    rw [← hw8] at hl8
    have HC8 : Hid (C ≤ (w8.alloc (.cells #[.int .i64 s, .int .u32 g] 29)).heap.size) := by
      have h1 := HM.out.2.1
      have h2 := e4.size
      rw [← hw8] at h2
      show _ ≤ _
      simp
      omega
    have o8 : Hid ((w8.alloc (.cells #[.int .i64 s, .int .u32 g] 29)).ownsRow C 29 2 (.slice ar k kr) k (Fw.refsOf (L.take k))) := by
      rw [← hw8] at e3
      exact (e3.below low8).orr
    rw [hw8] at N8 HC8 o8
    have HP2 := Lib.hid (And.intro e3 e4)
    clear hown hgrow hnn e3 e4 e5 HP hbx8 hl8 low8 hw8
    gi_wp2_with (gi_at_builtin; refine wpListIn_append_own _ rfl (.tmp 25) (.tmp 27) 24 rfl C 29 iR (.agg #[.int .i64 0, .int .u32 0]) 2 16 Tryd.underlying24 HR.out.1 HR.out.2.1 HR.out.2.2.1 HR.out.2.2.2 rfl (by omega) (.slice ar k kr) k (Fw.refsOf (L.take k)) rfl o8.out ⟨w7.heap.size, 0, none⟩ 1 1 [.int .i64 s, .int .u32 g] rfl rfl N8.out (by intro u hu; simp at hu; rcases hu with rfl | rfl <;> rfl) (by have := hk16.out; unfold maxLen; omega) (by have := hk16.out; omega) HC8.out ?_)
    intro v9 w9 hown hgrow hnn
    obtain ⟨a9, k9, rfl⟩ := own_form hown
    have HP3 := Lib.hid (HP2.out.1.pushR hown hgrow HM.out.2.2.2.2.2.1)
    obtain ⟨f1, f2, f3, f4, f5⟩ := HP3.out
    have HP4 := Lib.hid (And.intro f3 (Fw.KeepT.trans HP2.out.2 f4))
    clear hown hgrow hnn f3 f4 f5 HP3
    gi_wp2
    refine ⟨Fw.KeepsFrom.of_keepT HP4.out.2 (by intro k hk; simp at hk; have := SZ.out; omega), HP4.out.2.wide (by intro k hk; simp at hk; subst hk; rw [hS]; simp), k + 1, _, _, HM.out.2.2.1, HM.out.2.2.2.1, HP4.out.1⟩
  case done =>
    rintro D xs W5 hD hxs ⟨k, vb, vr, hk, hpre, hM⟩ hd
    obtain rfl : k = L.length := by
      have := congrArg List.length (hpre.symm.trans hxs)
      rw [List.length_take] at this
      omega
    have d0 := hM.fx.cell 0
    have d1 := hM.fx.cell 1
    have d2 := hM.fx.cell 2
    have d3 := hM.fx.cell 3
    have d4 := hM.fx.cell 4
    have d5 := hM.fx.cell 5
    have t0 := hM.fx.thawed 0
    simp only [List.getElem?_toArray, List.getElem?_cons_zero, List.getElem?_cons_succ] at d0 d1 d2 d3 d4 d5
    obtain ⟨z0, z1, z2, z3, z4, z5⟩ := box6 hM.fz
    have y0 := hM.fz.thawed 0
    have y1 := hM.fz.thawed 1
    have y2 := hM.fz.thawed 2
    have y3 := hM.fz.thawed 3
    have y4 := hM.fz.thawed 4
    have y5 := hM.fz.thawed 5
    obtain ⟨ab, kb, rfl⟩ := own_form hM.ob
    obtain ⟨ar, kr, rfl⟩ := own_form hM.orr
    have HOf := Lib.hid (fun w (hb : Below W.heap.size W w) => of_any (L.length : Int) w (H3.out.2.2.2.2.2.on hb))
    obtain ⟨kd, hkd⟩ : ∃ kd, (ofK (L.length : Int)).1 = kd := ⟨_, rfl⟩
    obtain ⟨kd2, hkd2⟩ : ∃ kd, (ofK (L.length : Int)).2 = kd := ⟨_, rfl⟩
    have hlow := hM.low
    rw [hkd, hkd2] at HOf
    have HLow := Lib.hid hlow
    have HKD := Lib.hid hkd
    clear hlow hkd hkd2
    have HM := Lib.hid hM
    have HD := Lib.hid (And.intro hD hd)
    clear hM hD hd szL BL fa ML h31 hC hk hpre
    cases keep
    all_goals
      dsimp only
      go_wp2_with (go_at_call 17; refine (HOf.out _ HLow.out).mono ?_; rintro e1 w1 ⟨rfl, h1⟩; replace h1 := h1.symm; subst h1)
    · obtain ⟨D7, B8, F8, b8, r8⟩ := with_fin HM.out rfl ((Turned.refl [W.heap.size + 1 + 1] W5).setCell (p := W.heap.size + 1 + 1) (.inl (by simp)) 0 (.int .i64 kd)) (by have := SZ.out; have := HD.out.1; omega) HD.out.2 kd rfl
      obtain ⟨q0, q1, q2, q3, q4, q5⟩ := box6 F8
      have hk : kindOf n false L.length = kd := HKD.out
      rw [hk]
      exact calm_ret1 (v := .agg #[.int .i64 kd, .string n.c, .string n.v, .string n.p, .slice ab L.length kb, .slice ar L.length kr]) rfl D7 (by rw [results_cell1 rfl]; simp [go_sem, q0, q1, q2, q3, q4, q5])
        ⟨ab, kb, ar, kr, by simp [No.kids], B8, H3.out.2.2.2.2.2.on B8, by simpa [No.kids] using b8, by simpa [No.kids] using r8, by simp [No.kids]; have := HC.out.1; omega, by simp [No.kids]; have := HC.out.1; omega, HC.out.2⟩
    · obtain ⟨D7, B8, F8, b8, r8⟩ := with_fin HM.out rfl (Turned.refl [W.heap.size + 1 + 1] W5) (by have := SZ.out; have := HD.out.1; omega) HD.out.2 n.k rfl
      obtain ⟨q0, q1, q2, q3, q4, q5⟩ := box6 F8
      have hk : kindOf n true L.length = n.k := rfl
      rw [hk]
      exact calm_ret1 (v := .agg #[.int .i64 n.k, .string n.c, .string n.v, .string n.p, .slice ab L.length kb, .slice ar L.length kr]) rfl D7 (by rw [results_cell1 rfl]; simp [go_sem, q0, q1, q2, q3, q4, q5])
        ⟨ab, kb, ar, kr, by simp [No.kids], B8, H3.out.2.2.2.2.2.on B8, by simpa [No.kids] using b8, by simpa [No.kids] using r8, by simp [No.kids]; have := HC.out.1; omega, by simp [No.kids]; have := HC.out.1; omega, HC.out.2⟩
  case stop =>
    rintro D c pre W5 hD hSp hF hd
    exact hF.elim
theorem keepM {S : List Nat} {W W' : World} (h : Fw.KeepT S W W') : Mn.KeepT S W W' := ⟨h.os, h.tape, h.output, h.size, h.block⟩
theorem pushBm {a b c e : Prop} {S : List Nat} {W W' : World} (h : a ∧ b ∧ c ∧ Fw.KeepT S W W' ∧ e) : a ∧ b ∧ c ∧ Mn.KeepT S W W' ∧ e := ⟨h.1, h.2.1, h.2.2.1, keepM h.2.2.2.1, h.2.2.2.2⟩
theorem withm_any {B p : Nat} {L : List En} {R : Nat} (keep : Bool) (ht : MTab W B p L R) (hrm : Rm W) (hL : L.length ≤ 256) (hcl : n.c.size ≤ 1000000) :
    Calls Tryd.prog 27 #[n.val ba bc ka kc, .iface 72 (.pointer (some ⟨p, 0, none⟩)), .bool keep] W fun e w' =>
      ∃ ba' bc' ka' kc', e = .returned ((n.kids (kindOf n keep L.length) L).val ba' bc' ka' kc') ∧ Below W.heap.size W w' ∧ NdAt w' (n.kids (kindOf n keep L.length) L) ba' bc' ka' kc' := by
  obtain ⟨q, e, hfew, hBp, hBq, hBe, hlR, hR16⟩ := ht
  obtain ⟨bn, hbn⟩ : ∃ bn, n.bs.length = bn := ⟨_, rfl⟩
  obtain ⟨kn, hkn⟩ : ∃ kn, n.rs.length = kn := ⟨_, rfl⟩
  obtain ⟨W3, hW3⟩ : ∃ W3, W3 = ((W.alloc (.cells #[.int .i64 n.k, .string n.c, .string n.v, .string n.p, .slice ba bn bc, .slice ka kn kc] 49)).alloc (.cells #[.int .i64 0, .string ⟨#[]⟩, .string ⟨#[]⟩, .string ⟨#[]⟩, .slice none 0 0, .slice none 0 0] 26)).alloc (.cells #[.int .i64 n.k, .string n.c, .string n.v, .string n.p, .slice none 0 0, .slice none 0 0] 26) := ⟨_, rfl⟩
  have B3 : Below W.heap.size W W3 := by rw [hW3]; exact Below.new (Below.new (Below.new (Below.refl _ _) _) _) _
  have s3 : W3.heap.size = W.heap.size + 3 := by rw [hW3]; simp
  have FZ : Fresh W3 (W.heap.size + 1) zeroC 26 := by rw [hW3]; exact (Fresh.new _ _ _ _ (by simp)).alloc _
  have FX : Fresh W3 (W.heap.size + 1 + 1) #[.int .i64 n.k, .string n.c, .string n.v, .string n.p, .slice none 0 0, .slice none 0 0] 26 := by rw [hW3]; exact Fresh.new _ _ _ _ (by simp)
  have HW3 := Lib.hid hW3
  have H3 := Lib.hid (And.intro B3 (And.intro s3 (And.intro FZ (And.intro FX (And.intro (hfew.below B3) hrm)))))
  have HC := Lib.hid (And.intro hL hcl)
  have HPQ := Lib.hid hfew.lt
  clear hW3 hfew hBp hBq hBe hlR hR16 hrm hL hcl B3 s3 FZ FX
  unfold No.val
  rw [hbn, hkn]
  unfold ndv
  clear hbn hkn
  have hmeth : ∀ (p : Addr) (w : World), (method 244 72 (.pointer (some p)) "All").run Tryd.prog w = .ok (97, .pointer (some p)) w := methmAll 243
  refine (callsIn_wide (n := 10)).1 ?_
  refine callsIn_of_wp_marks Tryd.func27 rfl trivial ?_ rfl
  simp only [Tryd.ntmps27, List.size_toArray, List.length_cons, List.length_nil, Nat.reduceAdd, Nat.reduceSub, Array.replicate_succ, Array.replicate_zero, List.push_toArray, List.append_toArray, List.nil_append, List.cons_append]
  refine wpIn_wide.2 ?_
  refine wp_mono (Q := calmQ _) ?_ calmQ_out
  go_upto_region 3 with fail
  rw [← HW3.out]
  go_wp2_with (go_at_call 97; refine (Mn.allv_any p _).mono ?_; rintro e WL ⟨rfl, hWL⟩; have HWL := Lib.hid hWL; clear hWL)
  obtain ⟨iU, hU0, hU1, hU2, hU3⟩ := infoU
  have HU := Lib.hid (And.intro hU0 (And.intro hU1 (And.intro hU2 hU3)))
  obtain ⟨iR, hR0, hR1, hR2, hR3⟩ := infoR
  have HR := Lib.hid (And.intro hR0 (And.intro hR1 (And.intro hR2 hR3)))
  clear hU0 hU1 hU2 hU3 hR0 hR1 hR2 hR3
  have szL : WL.heap.size = W3.heap.size + 1 := by rw [HWL.out]; simp
  have BL : Below W3.heap.size W3 WL := by rw [HWL.out]; exact Below.new (Below.refl _ _) _
  have fa : Fresh WL W3.heap.size #[.pointer (some ⟨p, 0, none⟩)] 72 := by rw [HWL.out]; exact Fresh.new _ _ _ _ rfl
  obtain ⟨C, hC⟩ : ∃ C, C = WL.heap.size := ⟨_, rfl⟩
  have h31 := H3.out.2.1
  have ML : WiX W WL (W.heap.size + 1 + 1) (W.heap.size + 1) C n L (.slice none 0 0) (.slice none 0 0) 0 0 :=
    ⟨Below.step H3.out.1 BL, H3.out.2.2.2.1.below BL, H3.out.2.2.1.below BL, ⟨rfl, .inl ⟨rfl, rfl⟩⟩, ⟨rfl, .inl ⟨rfl, rfl⟩⟩, by omega⟩
  obtain ⟨S, hS⟩ : ∃ S, S = [W.heap.size + 1 + 1, WL.heap.size + 1] := ⟨_, rfl⟩
  have SZ := Lib.hid (And.intro szL (And.intro hC h31))
  refine (wpIn_wide (n := 10)).1 ?_
  generalize hA0 : ({ tmps := _, defers := _ } : Act) = A0
  refine range_box rfl (by omega) (gf := 102) (lb := #[.pointer (some ⟨W3.heap.size, 0, none⟩)]) (by rw [← hA0]; rfl) trivial (enters_of Tryd.func102 (by kernel_rfl) rfl)
    (Mn.all_own Mn.kKeepT 9 (by omega) W3.heap.size S L R WL p q e (H3.out.2.2.2.2.1.below BL) ((fa.cell 0).trans rfl) (fun k h => by rw [hS] at h; simp at h; omega))
    (fun h k => h.trans k) (fun Wc o _ => Mn.KeepT.put (by rw [hS]; simp) o) (Below.refl _ _) (fun _ => rfl)
    (fun pre Wc => ∃ (k : Nat) (vb vr : Value), k ≤ L.length ∧ pre = L.take k ∧ WiX W Wc (W.heap.size + 1 + 1) (W.heap.size + 1) C n L vb vr k k)
    (fun _ _ _ => False)
    (fun pre Y Z row ⟨k, vb, vr, h1, h2, h3⟩ hg hr => ⟨k, vb, vr, h1, h2, h3.kept hg (fun r e => ⟨by have := (hr r e).1; omega, (hr r e).2⟩)⟩)
    (fun _ _ _ _ _ h _ _ => h)
    ⟨0, _, _, Nat.zero_le _, rfl, ML⟩
    (fun x a' Wc => ∃ bx, a' = { tmps := (((A0.tmps.setIfInBounds 16 (.int .u8 (x.1.toNat : Int))).setIfInBounds 17 (.agg #[.int .i64 x.2.1, .int .u32 x.2.2])).setIfInBounds 8 (.int .u8 (x.1.toNat : Int))).setIfInBounds 9 (.pointer (some ⟨bx, 0, none⟩)), defers := [] } ∧ Fresh Wc bx #[.int .i64 x.2.1, .int .u32 x.2.2] 29)
    (fun x a' _ Y Z row ⟨bx, h1, h2⟩ hg hr => ⟨bx, h1, h2.kept hg (fun r e => (hr r e).2)⟩)
    ?assignment ?round ?done ?stop
  all_goals subst hA0
  case assignment =>
    rintro l' pre x Wc K' hG ⟨k, vb, vr, hk, hpre, hM⟩ hK'
    have low : Below Wc.heap.size Wc (Wc.alloc (.cells #[.int .i64 x.2.1, .int .u32 x.2.2] 29)) := Below.new (Below.refl _ _) _
    have HK := hK' _ (Wc.alloc (.cells #[.int .i64 x.2.1, .int .u32 x.2.2] 29)) ((KeepsOthers.alloc _ _).from _) (Mn.KeepT.of_below low) ⟨k, vb, vr, hk, hpre, hM.below low⟩ ⟨Wc.heap.size, rfl, Fresh.new _ _ _ _ rfl⟩
    clear hK' hM hG low szL BL fa ML h31
    simp only [List.setIfInBounds_toArray, List.set_cons_succ, List.set_cons_zero] at HK
    replace HK := Lib.hid HK
    unfold Mn.enV Mn.refV
    gi_wp2
    exact HK.out
  case round =>
    rintro l' pre x a' W5 hG ⟨k, vb, vr, hk, hpre, hM⟩ ⟨bx, rfl, hbx⟩ hz
    simp only [List.setIfInBounds_toArray, List.set_cons_succ, List.set_cons_zero]
    obtain ⟨j, hj, hjx⟩ := hG
    obtain ⟨h4, h5⟩ := List.append_inj' hjx rfl
    obtain rfl : k = j := by
      have := congrArg List.length (hpre.symm.trans h4)
      rw [List.length_take, List.length_take] at this
      omega
    have hx : x = L[k] := by simpa using h5
    have hnx : pre ++ [x] = L.take (k + 1) := by rw [hjx]; exact (List.take_succ_eq_append_getElem hj).symm
    have hbt : Fw.bytesOf (L.take (k + 1)) = Fw.bytesOf (L.take k) ++ [.int .u8 (x.1.toNat : Int)] := by
      rw [List.take_succ_eq_append_getElem hj, ← hx]; simp [Fw.bytesOf]
    have hrt : Fw.refsOf (L.take (k + 1)) = Fw.refsOf (L.take k) ++ [.int .i64 x.2.1, .int .u32 x.2.2] := by
      rw [List.take_succ_eq_append_getElem hj, ← hx]; simp [Fw.refsOf]
    obtain ⟨c, s, g⟩ := x
    dsimp only at hbx hbt hrt ⊢
    have d4 := hM.fx.cell 4
    simp only [List.getElem?_toArray, List.getElem?_cons_zero, List.getElem?_cons_succ] at d4
    have hl1 := hM.fx.lt
    have hCW : C ≤ W5.heap.size := by omega
    obtain ⟨ab, kb, rfl⟩ := own_form hM.ob
    have low : Below W5.heap.size W5 (W5.alloc (.cells #[.int .u8 (c.toNat : Int)] 5)) := Below.new (Below.refl _ _) _
    have o5 := Lib.hid (hM.below low).ob
    have N5 : Hid (∀ (j : Nat) u, [Value.int .u8 (c.toNat : Int)][j]? = some u → (W5.alloc (.cells #[.int .u8 (c.toNat : Int)] 5)).cell? ((⟨W5.heap.size, 0, none⟩ : Addr).add j) = some u) := by
      intro j u hj
      rw [Addr.add_lit, Nat.zero_add, (Fresh.new W5 W5.heap.size #[.int .u8 (c.toNat : Int)] 5 rfl).cell j]
      simpa using hj
    have hbX : bx ≠ W.heap.size + 1 + 1 := by
      rintro rfl
      have h1 := hM.fx
      unfold Fresh at h1 hbx
      rw [h1] at hbx
      cases hbx
    have HM := Lib.hid (And.intro hM (And.intro hCW (And.intro hj (And.intro hnx (And.intro hbt (And.intro hrt (And.intro hbx hbX)))))))
    have hk16 : Hid (k ≤ 256) := by have := HC.out.1; show k ≤ 256; omega
    have HC5 : Hid (C ≤ (W5.alloc (.cells #[.int .u8 (c.toNat : Int)] 5)).heap.size) := by show _ ≤ _; simp; omega
    clear hM hbx hj hjx h4 h5 hx hnx hpre hk low hCW hbt hrt hbX
    clear szL BL fa ML h31 hC
    gi_wp2_with (gi_at_builtin; refine wpListIn_append_own _ rfl (.tmp 19) (.tmp 21) 23 rfl C 5 iU (.int .u8 0) 1 1 Tryd.underlying23 HU.out.1 HU.out.2.1 HU.out.2.2.1 HU.out.2.2.2 rfl (by omega) (.slice ab k kb) k (Fw.bytesOf (L.take k)) rfl o5.out ⟨W5.heap.size, 0, none⟩ 1 1 [.int .u8 (c.toNat : Int)] rfl rfl N5.out (by intro u hu; simp at hu; rw [hu]; rfl) (by have := hk16.out; unfold maxLen; omega) (by have := hk16.out; omega) HC5.out ?_)
    intro v7 w7 hown hgrow hnn
    obtain ⟨a7, k7, rfl⟩ := own_form hown
    have HP := Lib.hid (pushBm (HM.out.1.pushB hown hgrow HM.out.2.2.2.2.1))
    obtain ⟨e1, e2, e3, e4, e5⟩ := HP.out
    have hbx8 := e5 bx _ _ HM.out.2.2.2.2.2.2.1 HM.out.2.2.2.2.2.2.2 (by decide)
    have hl8 := e3.fx.lt
    have d5 := e3.fx.cell 5
    have x0 := hbx8.cell 0
    have x1 := hbx8.cell 1
    simp only [List.getElem?_toArray, List.getElem?_cons_zero, List.getElem?_cons_succ] at d5 x0 x1
    obtain ⟨ar, kr, rfl⟩ := own_form e3.orr
    obtain ⟨w8, hw8⟩ : ∃ w8, w8 = w7.setCell ⟨W.heap.size + 1 + 1, 4, none⟩ (.slice a7 (k + 1) k7) := ⟨_, rfl⟩
    have low8 : Below w8.heap.size w8 (w8.alloc (.cells #[.int .i64 s, .int .u32 g] 29)) := Below.new (Below.refl _ _) _
    have N8 : Hid (∀ (j : Nat) u, [Value.int .i64 s, Value.int .u32 g][j]? = some u → (w8.alloc (.cells #[.int .i64 s, .int .u32 g] 29)).cell? ((⟨w7.heap.size, 0, none⟩ : Addr).add j) = some u) := by
      intro j u hj
      rw [Addr.add_lit, Nat.zero_add, (Fresh.new w8 w7.heap.size #[.int .i64 s, .int .u32 g] 29 (by rw [hw8]; simp)).cell j]
      simpa using hj
    rw [← hw8] at hl8
    have HC8 : Hid (C ≤ (w8.alloc (.cells #[.int .i64 s, .int .u32 g] 29)).heap.size) := by
      have h1 := HM.out.2.1
      have h2 := e4.size
      rw [← hw8] at h2
      show _ ≤ _
      simp
      omega
    have o8 : Hid ((w8.alloc (.cells #[.int .i64 s, .int .u32 g] 29)).ownsRow C 29 2 (.slice ar k kr) k (Fw.refsOf (L.take k))) := by
      rw [← hw8] at e3
      exact (e3.below low8).orr
    rw [hw8] at N8 HC8 o8
    have HP2 := Lib.hid (And.intro e3 e4)
    clear hown hgrow hnn e3 e4 e5 HP hbx8 hl8 low8 hw8
    gi_wp2_with (gi_at_builtin; refine wpListIn_append_own _ rfl (.tmp 25) (.tmp 27) 24 rfl C 29 iR (.agg #[.int .i64 0, .int .u32 0]) 2 16 Tryd.underlying24 HR.out.1 HR.out.2.1 HR.out.2.2.1 HR.out.2.2.2 rfl (by omega) (.slice ar k kr) k (Fw.refsOf (L.take k)) rfl o8.out ⟨w7.heap.size, 0, none⟩ 1 1 [.int .i64 s, .int .u32 g] rfl rfl N8.out (by intro u hu; simp at hu; rcases hu with rfl | rfl <;> rfl) (by have := hk16.out; unfold maxLen; omega) (by have := hk16.out; omega) HC8.out ?_)
    intro v9 w9 hown hgrow hnn
    obtain ⟨a9, k9, rfl⟩ := own_form hown
    have HP3 := Lib.hid (pushBm (HP2.out.1.pushR hown hgrow HM.out.2.2.2.2.2.1))
    obtain ⟨f1, f2, f3, f4, f5⟩ := HP3.out
    have HP4 := Lib.hid (And.intro f3 (Mn.KeepT.trans HP2.out.2 f4))
    clear hown hgrow hnn f3 f4 f5 HP3
    gi_wp2
    refine ⟨Mn.KeepsFrom.of_keepT HP4.out.2 (by intro k hk; simp at hk; have := SZ.out; omega), HP4.out.2.wide (by intro k hk; simp at hk; subst hk; rw [hS]; simp), k + 1, _, _, HM.out.2.2.1, HM.out.2.2.2.1, HP4.out.1⟩
  case done =>
    rintro D xs W5 hD hxs ⟨k, vb, vr, hk, hpre, hM⟩ hd
    obtain rfl : k = L.length := by
      have := congrArg List.length (hpre.symm.trans hxs)
      rw [List.length_take] at this
      omega
    have d0 := hM.fx.cell 0
    have d1 := hM.fx.cell 1
    have d2 := hM.fx.cell 2
    have d3 := hM.fx.cell 3
    have d4 := hM.fx.cell 4
    have d5 := hM.fx.cell 5
    have t0 := hM.fx.thawed 0
    simp only [List.getElem?_toArray, List.getElem?_cons_zero, List.getElem?_cons_succ] at d0 d1 d2 d3 d4 d5
    obtain ⟨z0, z1, z2, z3, z4, z5⟩ := box6 hM.fz
    have y0 := hM.fz.thawed 0
    have y1 := hM.fz.thawed 1
    have y2 := hM.fz.thawed 2
    have y3 := hM.fz.thawed 3
    have y4 := hM.fz.thawed 4
    have y5 := hM.fz.thawed 5
    obtain ⟨ab, kb, rfl⟩ := own_form hM.ob
    obtain ⟨ar, kr, rfl⟩ := own_form hM.orr
    have HOf := Lib.hid (fun w (hb : Below W.heap.size W w) => of_any (L.length : Int) w (H3.out.2.2.2.2.2.on hb))
    obtain ⟨kd, hkd⟩ : ∃ kd, (ofK (L.length : Int)).1 = kd := ⟨_, rfl⟩
    obtain ⟨kd2, hkd2⟩ : ∃ kd, (ofK (L.length : Int)).2 = kd := ⟨_, rfl⟩
    have hlow := hM.low
    rw [hkd, hkd2] at HOf
    have HLow := Lib.hid hlow
    have HKD := Lib.hid hkd
    clear hlow hkd hkd2
    have HM := Lib.hid hM
    have HD := Lib.hid (And.intro hD hd)
    clear hM hD hd szL BL fa ML h31 hC hk hpre
    cases keep
    all_goals
      dsimp only
      go_wp2_with (go_at_call 17; refine (HOf.out _ HLow.out).mono ?_; rintro e1 w1 ⟨rfl, h1⟩; replace h1 := h1.symm; subst h1)
    · obtain ⟨D7, B8, F8, b8, r8⟩ := with_fin HM.out rfl ((Turned.refl [W.heap.size + 1 + 1] W5).setCell (p := W.heap.size + 1 + 1) (.inl (by simp)) 0 (.int .i64 kd)) (by have := SZ.out; have := HD.out.1; omega) HD.out.2 kd rfl
      obtain ⟨q0, q1, q2, q3, q4, q5⟩ := box6 F8
      have hk : kindOf n false L.length = kd := HKD.out
      rw [hk]
      exact calm_ret1 (v := .agg #[.int .i64 kd, .string n.c, .string n.v, .string n.p, .slice ab L.length kb, .slice ar L.length kr]) rfl D7 (by rw [results_cell1 rfl]; simp [go_sem, q0, q1, q2, q3, q4, q5])
        ⟨ab, kb, ar, kr, by simp [No.kids], B8, H3.out.2.2.2.2.2.on B8, by simpa [No.kids] using b8, by simpa [No.kids] using r8, by simp [No.kids]; have := HC.out.1; omega, by simp [No.kids]; have := HC.out.1; omega, HC.out.2⟩
    · obtain ⟨D7, B8, F8, b8, r8⟩ := with_fin HM.out rfl (Turned.refl [W.heap.size + 1 + 1] W5) (by have := SZ.out; have := HD.out.1; omega) HD.out.2 n.k rfl
      obtain ⟨q0, q1, q2, q3, q4, q5⟩ := box6 F8
      have hk : kindOf n true L.length = n.k := rfl
      rw [hk]
      exact calm_ret1 (v := .agg #[.int .i64 n.k, .string n.c, .string n.v, .string n.p, .slice ab L.length kb, .slice ar L.length kr]) rfl D7 (by rw [results_cell1 rfl]; simp [go_sem, q0, q1, q2, q3, q4, q5])
        ⟨ab, kb, ar, kr, by simp [No.kids], B8, H3.out.2.2.2.2.2.on B8, by simpa [No.kids] using b8, by simpa [No.kids] using r8, by simp [No.kids]; have := HC.out.1; omega, by simp [No.kids]; have := HC.out.1; omega, HC.out.2⟩
  case stop =>
    rintro D c pre W5 hD hSp hF hd
    exact hF.elim
end
end Go.Proofs.YtjaijomkdgoenaaDoor.Nd
