/- Cut (printed by mkndadd.py). -/
import Derived.Test.YtjaijomkdgoenaaDoorNdAddB
namespace Go.Proofs.YtjaijomkdgoenaaDoor.Nd
open Go.RowKit
open Mn
set_option maxRecDepth 1000000
set_option maxHeartbeats 4000000
section
variable {W : World} {n : No} {ba : Option Addr} {bc : Nat} {ka : Option Addr} {kc : Nat}
theorem cut_bad (h : NdAt W n ba bc ka kc) (b : UInt8) (keep : Bool) (hu : n.usable = false) :
    Calls Tryd.prog 10 #[n.val ba bc ka kc, .int .u8 (b.toNat : Int), .bool keep] W (MkP W zeroNo 4) := by
  obtain ⟨W4, hW4⟩ : ∃ W4, W4 = ((W.alloc (.cells #[.int .i64 n.k, .string n.c, .string n.v, .string n.p, .slice ba n.bs.length bc, .slice ka n.rs.length kc] 26)).alloc (.cells #[.int .i64 0, .string ⟨#[]⟩, .string ⟨#[]⟩, .string ⟨#[]⟩, .slice none 0 0, .slice none 0 0] 26)).alloc (.cells #[.int .i64 n.k, .string n.c, .string n.v, .string n.p, .slice ba n.bs.length bc, .slice ka n.rs.length kc] 49) := ⟨_, rfl⟩
  have X4 : Bx3 W W4 W.heap.size (W.heap.size + 1) (W.heap.size + 1 + 1) n ba n.bs.length bc ka n.rs.length kc := by
    rw [hW4]
    exact ⟨Below.new (Below.new (Below.new (Below.refl _ _) _) _) _, ((Fresh.new _ _ _ _ rfl).alloc _).alloc _, (Fresh.new _ _ _ _ (by simp)).alloc _, Fresh.new _ _ _ _ (by simp), by omega⟩
  have H4 := h.below X4.low
  have HX := Lib.hid X4
  have HW4 := Lib.hid hW4
  have hv0 := X4.view (Below.refl _ _)
  have HRM := Lib.hid h.rm
  have HU := Lib.hid (vusable_any H4)
  have HH4 := Lib.hid H4
  rw [hu] at HU
  have hv0' := hv0
  clear h X4 hW4 H4 hv0 
  unfold No.val ndv at *
  obtain ⟨v0, v1, v2, v3, v4, v5⟩ := hv0'
  go_enter Tryd.func10, Tryd.ntmps10
  go_upto_region 2 with fail
  rw [← HW4.out]
  go_wp2_with (first
    | (go_at_call 22; refine (HU.out).mono ?_; rintro e1 w1 ⟨rfl, hb⟩; have HB1 := Lib.hid hb; obtain ⟨⟨z0, z1, z2, z3, z4, z5⟩, y0, y1, y2, y3, y4, y5⟩ := HX.out.res HB1.out; clear hb))
  obtain ⟨T9, B9, q0, q1, q2, q3, q4, q5⟩ := HX.out.fin HB1.out (.int .i64 0) (.string ⟨#[]⟩) (.string ⟨#[]⟩) (.string ⟨#[]⟩) (.slice none 0 0) (.slice none 0 0) rfl
  exact bodyPost_ret (v := .tuple #[.agg #[.int .i64 0, .string ⟨#[]⟩, .string ⟨#[]⟩, .string ⟨#[]⟩, .slice none 0 0, .slice none 0 0], .int .i64 4]) (by rw [results_cell_tmp rfl]; simp [go_sem, q0, q1, q2, q3, q4, q5]) rfl ⟨none, 0, none, 0, rfl, B9, zeroNo_at (HRM.out.on B9)⟩

theorem cut_fy (h : NdAt W n ba bc ka kc) (b : UInt8) (keep : Bool) (hu : n.usable = true) (hc : decide (b ∈ n.bs) = true) (he : n.bs.length = n.rs.length) (hr : Ris n.bs) (hm2 : n.bs.length ≤ 256) (R : Nat) (hR : roomOf (ofK (n.bs.length : Int)).1 = (R : Int)) (hRR : R = 4 ∨ R = 16) :
    Calls Tryd.prog 10 #[n.val ba bc ka kc, .int .u8 (b.toNat : Int), .bool keep] W (MkP W (n.kids (kindOf n keep (n.bs.length - 1)) (takeS b n.ens)) 0) := by
  have hm1 : n.bs.length ≤ n.bs.length := Nat.le_refl _
  obtain ⟨W4, hW4⟩ : ∃ W4, W4 = ((W.alloc (.cells #[.int .i64 n.k, .string n.c, .string n.v, .string n.p, .slice ba n.bs.length bc, .slice ka n.rs.length kc] 26)).alloc (.cells #[.int .i64 0, .string ⟨#[]⟩, .string ⟨#[]⟩, .string ⟨#[]⟩, .slice none 0 0, .slice none 0 0] 26)).alloc (.cells #[.int .i64 n.k, .string n.c, .string n.v, .string n.p, .slice ba n.bs.length bc, .slice ka n.rs.length kc] 49) := ⟨_, rfl⟩
  have X4 : Bx3 W W4 W.heap.size (W.heap.size + 1) (W.heap.size + 1 + 1) n ba n.bs.length bc ka n.rs.length kc := by
    rw [hW4]
    exact ⟨Below.new (Below.new (Below.new (Below.refl _ _) _) _) _, ((Fresh.new _ _ _ _ rfl).alloc _).alloc _, (Fresh.new _ _ _ _ (by simp)).alloc _, Fresh.new _ _ _ _ (by simp), by omega⟩
  have H4 := h.below X4.low
  have HX := Lib.hid X4
  have HW4 := Lib.hid hW4
  have hv0 := X4.view (Below.refl _ _)
  have HRM := Lib.hid h.rm
  have HU := Lib.hid (vusable_any H4)
  have HH4 := Lib.hid H4
  rw [hu] at HU
  have HRow := Lib.hid (fun w (hb : Below W4.heap.size W4 w) => rowf_any (H4.below hb) he hr n.bs.length hm1 hm2 R hR hRR)
  have HWith := Lib.hid (fun w (hb : Below W4.heap.size W4 w) (B p : Nat) (L : List En) (hL : L.length ≤ 256) (ht : FTab w B p L R) => withf_any (W := w) (n := n) (ba := ba) (bc := bc) (ka := ka) (kc := kc) keep ht (H4.rm.on hb) hL H4.cl)
  have hmeth : ∀ (p : Addr) (w : World), (method 244 69 (.pointer (some p)) "Take").run Tryd.prog w = .ok (86, .pointer (some p)) w := methfTake 243
  have hin : isIn b n.ens = true := (mem_in he hr).trans hc
  have hel := ens_len he
  obtain ⟨L, hL⟩ : ∃ L, takeS b n.ens = L := ⟨_, rfl⟩
  have hLl : L.length = n.bs.length - 1 := by rw [← hL, Mn.take_len, hel, hin]; simp
  have hlen256 : L.length ≤ 256 := by omega
  obtain ⟨rs, rg, hrf⟩ := refOf_agg b n.ens
  have HP := Lib.hid (fun w (B p : Nat) (ht : FTab w B p n.ens R) => ftake_any ht b)
  rw [hL, hin, hrf] at HP
  simp only [if_true] at HP
  rw [hL]
  have HW' : Hid (∀ w, Below W4.heap.size W4 w → ∀ (B p : Nat), FTab w B p L R → Calls Tryd.prog 27 #[n.val ba bc ka kc, .iface 69 (.pointer (some ⟨p, 0, none⟩)), .bool keep] w fun e w' => ∃ (m : No) (ba' : Option Addr) (bc' : Nat) (ka' : Option Addr) (kc' : Nat), m = n.kids (kindOf n keep (n.bs.length - 1)) L ∧ e = .returned (m.val ba' bc' ka' kc') ∧ Below w.heap.size w w' ∧ NdAt w' m ba' bc' ka' kc') := by
    intro w hb B p ht
    refine (HWith.out w hb B p L hlen256 ht).mono ?_
    rw [hLl]
    rintro e w' ⟨ba', bc', ka', kc', h1, h2, h3⟩
    exact ⟨_, ba', bc', ka', kc', rfl, h1, h2, h3⟩
  have hbl : (n.bs.length : Int) ≤ 256 := by omega
  have hbl0 : (0 : Int) ≤ (n.bs.length : Int) := by omega
  clear HWith hin hel hL hLl hlen256 hm1 hm2 hR hRR he hr hrf
  have hv0' := hv0
  clear h X4 hW4 H4 hv0 
  unfold No.val ndv at *
  obtain ⟨v0, v1, v2, v3, v4, v5⟩ := hv0'
  go_enter Tryd.func10, Tryd.ntmps10
  go_upto_region 2 with fail
  rw [← HW4.out]
  go_wp2_with (first
    | (go_at_call 22; refine (HU.out).mono ?_; rintro e1 w1 ⟨rfl, hb⟩; have HB1 := Lib.hid hb; obtain ⟨v0, v1, v2, v3, v4, v5⟩ := HX.out.view HB1.out; obtain ⟨a0, a1, a2, a3, a4, a5⟩ := HX.out.node HB1.out; clear hb)
    | (go_at_call 26; refine (HRow.out _ HB1.out).mono ?_; rintro e5 w5 ⟨pt, rfl, hb, ht⟩; have HT5 := Lib.hid ht; have HB5 := Lib.hid (Below.step HB1.out hb); clear hb ht)
    | (go_at_call 86; refine (HP.out _ _ _ HT5.out).mono ?_; rintro e6 w6 ⟨rfl, hb, ht⟩; have HT6 := Lib.hid ht; have HB6 := Lib.hid (HB5.out.trans (hb.mono HB1.out.size)); obtain ⟨v0, v1, v2, v3, v4, v5⟩ := HX.out.view (Below.new HB6.out (.cells #[.int .i64 rs, .int .u32 rg] 29)); clear hb ht)
    | (go_at_call 27; refine (HW'.out _ (Below.new HB6.out (.cells #[.int .i64 rs, .int .u32 rg] 29)) _ _ (HT6.out.below (Below.new (Below.refl _ _) _))).mono ?_; rintro e7 w7 ⟨m, ba', bc', ka', kc', hm, rfl, hb, hnd⟩; have HM := Lib.hid hm; have HND := Lib.hid hnd; have HB7 := Lib.hid (Below.step (Below.new HB6.out (.cells #[.int .i64 rs, .int .u32 rg] 29)) hb); obtain ⟨⟨z0, z1, z2, z3, z4, z5⟩, y0, y1, y2, y3, y4, y5⟩ := HX.out.res HB7.out; clear hb hnd hm))
  rw [← HM.out]
  obtain ⟨T9, B9, q0, q1, q2, q3, q4, q5⟩ := HX.out.fin HB7.out (.int .i64 m.k) (.string m.c) (.string m.v) (.string m.p) (.slice ba' m.bs.length bc') (.slice ka' m.rs.length kc') rfl
  exact bodyPost_ret (v := .tuple #[.agg #[.int .i64 m.k, .string m.c, .string m.v, .string m.p, .slice ba' m.bs.length bc', .slice ka' m.rs.length kc'], .int .i64 0]) (by rw [results_cell_tmp rfl]; simp [go_sem, q0, q1, q2, q3, q4, q5]) rfl ⟨ba', bc', ka', kc', rfl, B9, NdAt.turned HND.out T9 (HRM.out.on B9) (HX.out.f2.below HB7.out)⟩

theorem cut_fn (h : NdAt W n ba bc ka kc) (b : UInt8) (keep : Bool) (hu : n.usable = true) (hc : decide (b ∈ n.bs) = false) (he : n.bs.length = n.rs.length) (hr : Ris n.bs) (hm2 : n.bs.length ≤ 256) (R : Nat) (hR : roomOf (ofK (n.bs.length : Int)).1 = (R : Int)) (hRR : R = 4 ∨ R = 16) :
    Calls Tryd.prog 10 #[n.val ba bc ka kc, .int .u8 (b.toNat : Int), .bool keep] W (MkP W zeroNo 5) := by
  have hm1 : n.bs.length ≤ n.bs.length := Nat.le_refl _
  obtain ⟨W4, hW4⟩ : ∃ W4, W4 = ((W.alloc (.cells #[.int .i64 n.k, .string n.c, .string n.v, .string n.p, .slice ba n.bs.length bc, .slice ka n.rs.length kc] 26)).alloc (.cells #[.int .i64 0, .string ⟨#[]⟩, .string ⟨#[]⟩, .string ⟨#[]⟩, .slice none 0 0, .slice none 0 0] 26)).alloc (.cells #[.int .i64 n.k, .string n.c, .string n.v, .string n.p, .slice ba n.bs.length bc, .slice ka n.rs.length kc] 49) := ⟨_, rfl⟩
  have X4 : Bx3 W W4 W.heap.size (W.heap.size + 1) (W.heap.size + 1 + 1) n ba n.bs.length bc ka n.rs.length kc := by
    rw [hW4]
    exact ⟨Below.new (Below.new (Below.new (Below.refl _ _) _) _) _, ((Fresh.new _ _ _ _ rfl).alloc _).alloc _, (Fresh.new _ _ _ _ (by simp)).alloc _, Fresh.new _ _ _ _ (by simp), by omega⟩
  have H4 := h.below X4.low
  have HX := Lib.hid X4
  have HW4 := Lib.hid hW4
  have hv0 := X4.view (Below.refl _ _)
  have HRM := Lib.hid h.rm
  have HU := Lib.hid (vusable_any H4)
  have HH4 := Lib.hid H4
  rw [hu] at HU
  have HRow := Lib.hid (fun w (hb : Below W4.heap.size W4 w) => rowf_any (H4.below hb) he hr n.bs.length hm1 hm2 R hR hRR)
  have HWith := Lib.hid (fun w (hb : Below W4.heap.size W4 w) (B p : Nat) (L : List En) (hL : L.length ≤ 256) (ht : FTab w B p L R) => withf_any (W := w) (n := n) (ba := ba) (bc := bc) (ka := ka) (kc := kc) keep ht (H4.rm.on hb) hL H4.cl)
  have hmeth : ∀ (p : Addr) (w : World), (method 244 69 (.pointer (some p)) "Take").run Tryd.prog w = .ok (86, .pointer (some p)) w := methfTake 243
  have hin : isIn b n.ens = false := (mem_in he hr).trans hc
  have hel := ens_len he
  obtain ⟨L, hL⟩ : ∃ L, takeS b n.ens = L := ⟨_, rfl⟩
  have hLl : L.length = n.bs.length := by rw [← hL, Mn.take_len, hel, hin]; simp
  have hlen256 : L.length ≤ 256 := by omega
  obtain ⟨rs, rg, hrf⟩ := refOf_agg b n.ens
  have HP := Lib.hid (fun w (B p : Nat) (ht : FTab w B p n.ens R) => ftake_any ht b)
  rw [hL, hin, hrf] at HP
  simp only [if_false, Bool.false_eq_true] at HP
  have HW' : Hid (∀ w, Below W4.heap.size W4 w → ∀ (B p : Nat), FTab w B p L R → Calls Tryd.prog 27 #[n.val ba bc ka kc, .iface 69 (.pointer (some ⟨p, 0, none⟩)), .bool keep] w fun e w' => ∃ (m : No) (ba' : Option Addr) (bc' : Nat) (ka' : Option Addr) (kc' : Nat), m = n.kids (kindOf n keep n.bs.length) L ∧ e = .returned (m.val ba' bc' ka' kc') ∧ Below w.heap.size w w' ∧ NdAt w' m ba' bc' ka' kc') := by
    intro w hb B p ht
    refine (HWith.out w hb B p L hlen256 ht).mono ?_
    rw [hLl]
    rintro e w' ⟨ba', bc', ka', kc', h1, h2, h3⟩
    exact ⟨_, ba', bc', ka', kc', rfl, h1, h2, h3⟩
  have hbl : (n.bs.length : Int) ≤ 256 := by omega
  have hbl0 : (0 : Int) ≤ (n.bs.length : Int) := by omega
  clear HWith hin hel hL hLl hlen256 hm1 hm2 hR hRR he hr hrf
  have hv0' := hv0
  clear h X4 hW4 H4 hv0 
  unfold No.val ndv at *
  obtain ⟨v0, v1, v2, v3, v4, v5⟩ := hv0'
  go_enter Tryd.func10, Tryd.ntmps10
  go_upto_region 2 with fail
  rw [← HW4.out]
  go_wp2_with (first
    | (go_at_call 22; refine (HU.out).mono ?_; rintro e1 w1 ⟨rfl, hb⟩; have HB1 := Lib.hid hb; obtain ⟨v0, v1, v2, v3, v4, v5⟩ := HX.out.view HB1.out; obtain ⟨a0, a1, a2, a3, a4, a5⟩ := HX.out.node HB1.out; clear hb)
    | (go_at_call 26; refine (HRow.out _ HB1.out).mono ?_; rintro e5 w5 ⟨pt, rfl, hb, ht⟩; have HT5 := Lib.hid ht; have HB5 := Lib.hid (Below.step HB1.out hb); clear hb ht)
    | (go_at_call 86; refine (HP.out _ _ _ HT5.out).mono ?_; rintro e6 w6 ⟨rfl, hb, ht⟩; have HB6 := Lib.hid (HB5.out.trans (hb.mono HB1.out.size)); have HB8 := Lib.hid (Below.new HB6.out (.cells #[.int .i64 rs, .int .u32 rg] 29)); obtain ⟨⟨z0, z1, z2, z3, z4, z5⟩, y0, y1, y2, y3, y4, y5⟩ := HX.out.res HB8.out; clear hb ht))
  obtain ⟨T9, B9, q0, q1, q2, q3, q4, q5⟩ := HX.out.fin HB8.out (.int .i64 0) (.string ⟨#[]⟩) (.string ⟨#[]⟩) (.string ⟨#[]⟩) (.slice none 0 0) (.slice none 0 0) rfl
  exact bodyPost_ret (v := .tuple #[.agg #[.int .i64 0, .string ⟨#[]⟩, .string ⟨#[]⟩, .string ⟨#[]⟩, .slice none 0 0, .slice none 0 0], .int .i64 5]) (by rw [results_cell_tmp rfl]; simp [go_sem, q0, q1, q2, q3, q4, q5]) rfl ⟨none, 0, none, 0, rfl, B9, zeroNo_at (HRM.out.on B9)⟩

theorem cut_my (h : NdAt W n ba bc ka kc) (b : UInt8) (keep : Bool) (hu : n.usable = true) (hc : decide (b ∈ n.bs) = true) (he : n.bs.length = n.rs.length) (hr : Ris n.bs) (hm2 : n.bs.length ≤ 256) (R : Nat) (hR : roomOf (ofK (n.bs.length : Int)).1 = (R : Int)) (hRR : R = 48 ∨ R = 256) :
    Calls Tryd.prog 10 #[n.val ba bc ka kc, .int .u8 (b.toNat : Int), .bool keep] W (MkP W (n.kids (kindOf n keep (n.bs.length - 1)) (takeS b n.ens)) 0) := by
  have hm1 : n.bs.length ≤ n.bs.length := Nat.le_refl _
  obtain ⟨W4, hW4⟩ : ∃ W4, W4 = ((W.alloc (.cells #[.int .i64 n.k, .string n.c, .string n.v, .string n.p, .slice ba n.bs.length bc, .slice ka n.rs.length kc] 26)).alloc (.cells #[.int .i64 0, .string ⟨#[]⟩, .string ⟨#[]⟩, .string ⟨#[]⟩, .slice none 0 0, .slice none 0 0] 26)).alloc (.cells #[.int .i64 n.k, .string n.c, .string n.v, .string n.p, .slice ba n.bs.length bc, .slice ka n.rs.length kc] 49) := ⟨_, rfl⟩
  have X4 : Bx3 W W4 W.heap.size (W.heap.size + 1) (W.heap.size + 1 + 1) n ba n.bs.length bc ka n.rs.length kc := by
    rw [hW4]
    exact ⟨Below.new (Below.new (Below.new (Below.refl _ _) _) _) _, ((Fresh.new _ _ _ _ rfl).alloc _).alloc _, (Fresh.new _ _ _ _ (by simp)).alloc _, Fresh.new _ _ _ _ (by simp), by omega⟩
  have H4 := h.below X4.low
  have HX := Lib.hid X4
  have HW4 := Lib.hid hW4
  have hv0 := X4.view (Below.refl _ _)
  have HRM := Lib.hid h.rm
  have HU := Lib.hid (vusable_any H4)
  have HH4 := Lib.hid H4
  rw [hu] at HU
  have HRow := Lib.hid (fun w (hb : Below W4.heap.size W4 w) => rowm_any (H4.below hb) he hr n.bs.length hm1 hm2 R hR hRR)
  have HWith := Lib.hid (fun w (hb : Below W4.heap.size W4 w) (B p : Nat) (L : List En) (hL : L.length ≤ 256) (ht : MTab w B p L R) => withm_any (W := w) (n := n) (ba := ba) (bc := bc) (ka := ka) (kc := kc) keep ht (H4.rm.on hb) hL H4.cl)
  have hmeth : ∀ (p : Addr) (w : World), (method 244 72 (.pointer (some p)) "Take").run Tryd.prog w = .ok (100, .pointer (some p)) w := methmTake 243
  have hin : isIn b n.ens = true := (mem_in he hr).trans hc
  have hel := ens_len he
  obtain ⟨L, hL⟩ : ∃ L, takeS b n.ens = L := ⟨_, rfl⟩
  have hLl : L.length = n.bs.length - 1 := by rw [← hL, Mn.take_len, hel, hin]; simp
  have hlen256 : L.length ≤ 256 := by omega
  obtain ⟨rs, rg, hrf⟩ := refOf_agg b n.ens
  have HP := Lib.hid (fun w (B p : Nat) (ht : MTab w B p n.ens R) => mtake_any ht b)
  rw [hL, hin, hrf] at HP
  simp only [if_true] at HP
  rw [hL]
  have HW' : Hid (∀ w, Below W4.heap.size W4 w → ∀ (B p : Nat), MTab w B p L R → Calls Tryd.prog 27 #[n.val ba bc ka kc, .iface 72 (.pointer (some ⟨p, 0, none⟩)), .bool keep] w fun e w' => ∃ (m : No) (ba' : Option Addr) (bc' : Nat) (ka' : Option Addr) (kc' : Nat), m = n.kids (kindOf n keep (n.bs.length - 1)) L ∧ e = .returned (m.val ba' bc' ka' kc') ∧ Below w.heap.size w w' ∧ NdAt w' m ba' bc' ka' kc') := by
    intro w hb B p ht
    refine (HWith.out w hb B p L hlen256 ht).mono ?_
    rw [hLl]
    rintro e w' ⟨ba', bc', ka', kc', h1, h2, h3⟩
    exact ⟨_, ba', bc', ka', kc', rfl, h1, h2, h3⟩
  have hbl : (n.bs.length : Int) ≤ 256 := by omega
  have hbl0 : (0 : Int) ≤ (n.bs.length : Int) := by omega
  clear HWith hin hel hL hLl hlen256 hm1 hm2 hR hRR he hr hrf
  have hv0' := hv0
  clear h X4 hW4 H4 hv0 
  unfold No.val ndv at *
  obtain ⟨v0, v1, v2, v3, v4, v5⟩ := hv0'
  go_enter Tryd.func10, Tryd.ntmps10
  go_upto_region 2 with fail
  rw [← HW4.out]
  go_wp2_with (first
    | (go_at_call 22; refine (HU.out).mono ?_; rintro e1 w1 ⟨rfl, hb⟩; have HB1 := Lib.hid hb; obtain ⟨v0, v1, v2, v3, v4, v5⟩ := HX.out.view HB1.out; obtain ⟨a0, a1, a2, a3, a4, a5⟩ := HX.out.node HB1.out; clear hb)
    | (go_at_call 26; refine (HRow.out _ HB1.out).mono ?_; rintro e5 w5 ⟨pt, rfl, hb, ht⟩; have HT5 := Lib.hid ht; have HB5 := Lib.hid (Below.step HB1.out hb); clear hb ht)
    | (go_at_call 100; refine (HP.out _ _ _ HT5.out).mono ?_; rintro e6 w6 ⟨rfl, hb, ht⟩; have HT6 := Lib.hid ht; have HB6 := Lib.hid (HB5.out.trans (hb.mono HB1.out.size)); obtain ⟨v0, v1, v2, v3, v4, v5⟩ := HX.out.view (Below.new HB6.out (.cells #[.int .i64 rs, .int .u32 rg] 29)); clear hb ht)
    | (go_at_call 27; refine (HW'.out _ (Below.new HB6.out (.cells #[.int .i64 rs, .int .u32 rg] 29)) _ _ (HT6.out.below (Below.new (Below.refl _ _) _))).mono ?_; rintro e7 w7 ⟨m, ba', bc', ka', kc', hm, rfl, hb, hnd⟩; have HM := Lib.hid hm; have HND := Lib.hid hnd; have HB7 := Lib.hid (Below.step (Below.new HB6.out (.cells #[.int .i64 rs, .int .u32 rg] 29)) hb); obtain ⟨⟨z0, z1, z2, z3, z4, z5⟩, y0, y1, y2, y3, y4, y5⟩ := HX.out.res HB7.out; clear hb hnd hm))
  rw [← HM.out]
  obtain ⟨T9, B9, q0, q1, q2, q3, q4, q5⟩ := HX.out.fin HB7.out (.int .i64 m.k) (.string m.c) (.string m.v) (.string m.p) (.slice ba' m.bs.length bc') (.slice ka' m.rs.length kc') rfl
  exact bodyPost_ret (v := .tuple #[.agg #[.int .i64 m.k, .string m.c, .string m.v, .string m.p, .slice ba' m.bs.length bc', .slice ka' m.rs.length kc'], .int .i64 0]) (by rw [results_cell_tmp rfl]; simp [go_sem, q0, q1, q2, q3, q4, q5]) rfl ⟨ba', bc', ka', kc', rfl, B9, NdAt.turned HND.out T9 (HRM.out.on B9) (HX.out.f2.below HB7.out)⟩

theorem cut_mn (h : NdAt W n ba bc ka kc) (b : UInt8) (keep : Bool) (hu : n.usable = true) (hc : decide (b ∈ n.bs) = false) (he : n.bs.length = n.rs.length) (hr : Ris n.bs) (hm2 : n.bs.length ≤ 256) (R : Nat) (hR : roomOf (ofK (n.bs.length : Int)).1 = (R : Int)) (hRR : R = 48 ∨ R = 256) :
    Calls Tryd.prog 10 #[n.val ba bc ka kc, .int .u8 (b.toNat : Int), .bool keep] W (MkP W zeroNo 5) := by
  have hm1 : n.bs.length ≤ n.bs.length := Nat.le_refl _
  obtain ⟨W4, hW4⟩ : ∃ W4, W4 = ((W.alloc (.cells #[.int .i64 n.k, .string n.c, .string n.v, .string n.p, .slice ba n.bs.length bc, .slice ka n.rs.length kc] 26)).alloc (.cells #[.int .i64 0, .string ⟨#[]⟩, .string ⟨#[]⟩, .string ⟨#[]⟩, .slice none 0 0, .slice none 0 0] 26)).alloc (.cells #[.int .i64 n.k, .string n.c, .string n.v, .string n.p, .slice ba n.bs.length bc, .slice ka n.rs.length kc] 49) := ⟨_, rfl⟩
  have X4 : Bx3 W W4 W.heap.size (W.heap.size + 1) (W.heap.size + 1 + 1) n ba n.bs.length bc ka n.rs.length kc := by
    rw [hW4]
    exact ⟨Below.new (Below.new (Below.new (Below.refl _ _) _) _) _, ((Fresh.new _ _ _ _ rfl).alloc _).alloc _, (Fresh.new _ _ _ _ (by simp)).alloc _, Fresh.new _ _ _ _ (by simp), by omega⟩
  have H4 := h.below X4.low
  have HX := Lib.hid X4
  have HW4 := Lib.hid hW4
  have hv0 := X4.view (Below.refl _ _)
  have HRM := Lib.hid h.rm
  have HU := Lib.hid (vusable_any H4)
  have HH4 := Lib.hid H4
  rw [hu] at HU
  have HRow := Lib.hid (fun w (hb : Below W4.heap.size W4 w) => rowm_any (H4.below hb) he hr n.bs.length hm1 hm2 R hR hRR)
  have HWith := Lib.hid (fun w (hb : Below W4.heap.size W4 w) (B p : Nat) (L : List En) (hL : L.length ≤ 256) (ht : MTab w B p L R) => withm_any (W := w) (n := n) (ba := ba) (bc := bc) (ka := ka) (kc := kc) keep ht (H4.rm.on hb) hL H4.cl)
  have hmeth : ∀ (p : Addr) (w : World), (method 244 72 (.pointer (some p)) "Take").run Tryd.prog w = .ok (100, .pointer (some p)) w := methmTake 243
  have hin : isIn b n.ens = false := (mem_in he hr).trans hc
  have hel := ens_len he
  obtain ⟨L, hL⟩ : ∃ L, takeS b n.ens = L := ⟨_, rfl⟩
  have hLl : L.length = n.bs.length := by rw [← hL, Mn.take_len, hel, hin]; simp
  have hlen256 : L.length ≤ 256 := by omega
  obtain ⟨rs, rg, hrf⟩ := refOf_agg b n.ens
  have HP := Lib.hid (fun w (B p : Nat) (ht : MTab w B p n.ens R) => mtake_any ht b)
  rw [hL, hin, hrf] at HP
  simp only [if_false, Bool.false_eq_true] at HP
  have HW' : Hid (∀ w, Below W4.heap.size W4 w → ∀ (B p : Nat), MTab w B p L R → Calls Tryd.prog 27 #[n.val ba bc ka kc, .iface 72 (.pointer (some ⟨p, 0, none⟩)), .bool keep] w fun e w' => ∃ (m : No) (ba' : Option Addr) (bc' : Nat) (ka' : Option Addr) (kc' : Nat), m = n.kids (kindOf n keep n.bs.length) L ∧ e = .returned (m.val ba' bc' ka' kc') ∧ Below w.heap.size w w' ∧ NdAt w' m ba' bc' ka' kc') := by
    intro w hb B p ht
    refine (HWith.out w hb B p L hlen256 ht).mono ?_
    rw [hLl]
    rintro e w' ⟨ba', bc', ka', kc', h1, h2, h3⟩
    exact ⟨_, ba', bc', ka', kc', rfl, h1, h2, h3⟩
  have hbl : (n.bs.length : Int) ≤ 256 := by omega
  have hbl0 : (0 : Int) ≤ (n.bs.length : Int) := by omega
  clear HWith hin hel hL hLl hlen256 hm1 hm2 hR hRR he hr hrf
  have hv0' := hv0
  clear h X4 hW4 H4 hv0 
  unfold No.val ndv at *
  obtain ⟨v0, v1, v2, v3, v4, v5⟩ := hv0'
  go_enter Tryd.func10, Tryd.ntmps10
  go_upto_region 2 with fail
  rw [← HW4.out]
  go_wp2_with (first
    | (go_at_call 22; refine (HU.out).mono ?_; rintro e1 w1 ⟨rfl, hb⟩; have HB1 := Lib.hid hb; obtain ⟨v0, v1, v2, v3, v4, v5⟩ := HX.out.view HB1.out; obtain ⟨a0, a1, a2, a3, a4, a5⟩ := HX.out.node HB1.out; clear hb)
    | (go_at_call 26; refine (HRow.out _ HB1.out).mono ?_; rintro e5 w5 ⟨pt, rfl, hb, ht⟩; have HT5 := Lib.hid ht; have HB5 := Lib.hid (Below.step HB1.out hb); clear hb ht)
    | (go_at_call 100; refine (HP.out _ _ _ HT5.out).mono ?_; rintro e6 w6 ⟨rfl, hb, ht⟩; have HB6 := Lib.hid (HB5.out.trans (hb.mono HB1.out.size)); have HB8 := Lib.hid (Below.new HB6.out (.cells #[.int .i64 rs, .int .u32 rg] 29)); obtain ⟨⟨z0, z1, z2, z3, z4, z5⟩, y0, y1, y2, y3, y4, y5⟩ := HX.out.res HB8.out; clear hb ht))
  obtain ⟨T9, B9, q0, q1, q2, q3, q4, q5⟩ := HX.out.fin HB8.out (.int .i64 0) (.string ⟨#[]⟩) (.string ⟨#[]⟩) (.string ⟨#[]⟩) (.slice none 0 0) (.slice none 0 0) rfl
  exact bodyPost_ret (v := .tuple #[.agg #[.int .i64 0, .string ⟨#[]⟩, .string ⟨#[]⟩, .string ⟨#[]⟩, .slice none 0 0, .slice none 0 0], .int .i64 5]) (by rw [results_cell_tmp rfl]; simp [go_sem, q0, q1, q2, q3, q4, q5]) rfl ⟨none, 0, none, 0, rfl, B9, zeroNo_at (HRM.out.on B9)⟩

end
end Go.Proofs.YtjaijomkdgoenaaDoor.Nd
