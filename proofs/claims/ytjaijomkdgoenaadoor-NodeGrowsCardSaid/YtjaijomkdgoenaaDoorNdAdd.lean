/- Add (printed by mkndadd.py). -/
import Derived.Test.YtjaijomkdgoenaaDoorNdAddB
namespace Go.Proofs.YtjaijomkdgoenaaDoor.Nd
open Go.RowKit
open Mn
set_option maxRecDepth 1000000
set_option maxHeartbeats 4000000
section
variable {W : World} {n : No} {ba : Option Addr} {bc : Nat} {ka : Option Addr} {kc : Nat}
theorem add_bad (h : NdAt W n ba bc ka kc) (b : UInt8) (s g : Int) (keep : Bool) (hu : n.usable = false) :
    Calls Tryd.prog 9 #[n.val ba bc ka kc, .int .u8 (b.toNat : Int), .agg #[.int .i64 s, .int .u32 g], .bool keep] W (MkP W zeroNo 4) := by
  obtain ⟨W4, hW4⟩ : ∃ W4, W4 = (((W.alloc (.cells #[.int .i64 n.k, .string n.c, .string n.v, .string n.p, .slice ba n.bs.length bc, .slice ka n.rs.length kc] 26)).alloc (.cells #[.int .i64 s, .int .u32 g] 29)).alloc (.cells #[.int .i64 0, .string ⟨#[]⟩, .string ⟨#[]⟩, .string ⟨#[]⟩, .slice none 0 0, .slice none 0 0] 26)).alloc (.cells #[.int .i64 n.k, .string n.c, .string n.v, .string n.p, .slice ba n.bs.length bc, .slice ka n.rs.length kc] 49) := ⟨_, rfl⟩
  have X4 : Bx4 W W4 W.heap.size (W.heap.size + 1) (W.heap.size + 1 + 1) (W.heap.size + 1 + 1 + 1) n ba n.bs.length bc ka n.rs.length kc s g := by
    rw [hW4]
    exact ⟨Below.new (Below.new (Below.new (Below.new (Below.refl _ _) _) _) _) _, (((Fresh.new _ _ _ _ rfl).alloc _).alloc _).alloc _, ((Fresh.new _ _ _ _ (by simp)).alloc _).alloc _, (Fresh.new _ _ _ _ (by simp)).alloc _, Fresh.new _ _ _ _ (by simp), by omega⟩
  have H4 := h.below X4.low
  have HX := Lib.hid X4
  have HW4 := Lib.hid hW4
  have hv0 := X4.view (Below.refl _ _)
  have HRM := Lib.hid h.rm
  have HU := Lib.hid (vusable_any H4)
  have HH4 := Lib.hid H4
  rw [hu] at HU
  have hv0' := hv0
  clear h X4 hW4 H4 hv0 
  unfold No.val ndv at *
  obtain ⟨v0, v1, v2, v3, v4, v5⟩ := hv0'
  go_enter Tryd.func9, Tryd.ntmps9
  go_upto_region 2 with fail
  rw [← HW4.out]
  go_wp2_with (first
    | (go_at_call 22; refine (HU.out).mono ?_; rintro e1 w1 ⟨rfl, hb⟩; have HB1 := Lib.hid hb; obtain ⟨⟨z0, z1, z2, z3, z4, z5⟩, y0, y1, y2, y3, y4, y5⟩ := HX.out.res HB1.out; clear hb))
  obtain ⟨T9, B9, q0, q1, q2, q3, q4, q5⟩ := HX.out.fin HB1.out (.int .i64 0) (.string ⟨#[]⟩) (.string ⟨#[]⟩) (.string ⟨#[]⟩) (.slice none 0 0) (.slice none 0 0) rfl
  exact bodyPost_ret (v := .tuple #[.agg #[.int .i64 0, .string ⟨#[]⟩, .string ⟨#[]⟩, .string ⟨#[]⟩, .slice none 0 0, .slice none 0 0], .int .i64 4]) (by rw [results_cell_tmp rfl]; simp [go_sem, q0, q1, q2, q3, q4, q5]) rfl ⟨none, 0, none, 0, rfl, B9, zeroNo_at (HRM.out.on B9)⟩

theorem add_imp (h : NdAt W n ba bc ka kc) (b : UInt8) (s g : Int) (keep : Bool) (hu : n.usable = true) (hi : impR s g = true) :
    Calls Tryd.prog 9 #[n.val ba bc ka kc, .int .u8 (b.toNat : Int), .agg #[.int .i64 s, .int .u32 g], .bool keep] W (MkP W zeroNo 4) := by
  obtain ⟨W4, hW4⟩ : ∃ W4, W4 = (((W.alloc (.cells #[.int .i64 n.k, .string n.c, .string n.v, .string n.p, .slice ba n.bs.length bc, .slice ka n.rs.length kc] 26)).alloc (.cells #[.int .i64 s, .int .u32 g] 29)).alloc (.cells #[.int .i64 0, .string ⟨#[]⟩, .string ⟨#[]⟩, .string ⟨#[]⟩, .slice none 0 0, .slice none 0 0] 26)).alloc (.cells #[.int .i64 n.k, .string n.c, .string n.v, .string n.p, .slice ba n.bs.length bc, .slice ka n.rs.length kc] 49) := ⟨_, rfl⟩
  have X4 : Bx4 W W4 W.heap.size (W.heap.size + 1) (W.heap.size + 1 + 1) (W.heap.size + 1 + 1 + 1) n ba n.bs.length bc ka n.rs.length kc s g := by
    rw [hW4]
    exact ⟨Below.new (Below.new (Below.new (Below.new (Below.refl _ _) _) _) _) _, (((Fresh.new _ _ _ _ rfl).alloc _).alloc _).alloc _, ((Fresh.new _ _ _ _ (by simp)).alloc _).alloc _, (Fresh.new _ _ _ _ (by simp)).alloc _, Fresh.new _ _ _ _ (by simp), by omega⟩
  have H4 := h.below X4.low
  have HX := Lib.hid X4
  have HW4 := Lib.hid hW4
  have hv0 := X4.view (Below.refl _ _)
  have HRM := Lib.hid h.rm
  have HU := Lib.hid (vusable_any H4)
  have HH4 := Lib.hid H4
  rw [hu] at HU
  have HI := Lib.hid (fun w => impossible_any s g w)
  rw [hi] at HI
  have hv0' := hv0
  clear h X4 hW4 H4 hv0 
  unfold No.val ndv at *
  obtain ⟨v0, v1, v2, v3, v4, v5⟩ := hv0'
  go_enter Tryd.func9, Tryd.ntmps9
  go_upto_region 2 with fail
  rw [← HW4.out]
  go_wp2_with (first
    | (go_at_call 22; refine (HU.out).mono ?_; rintro e1 w1 ⟨rfl, hb⟩; have HB1 := Lib.hid hb; obtain ⟨r0, r1⟩ := HX.out.ref HB1.out; clear hb)
    | (go_at_call 23; refine (HI.out _).mono ?_; rintro e2 w2 ⟨rfl, hb⟩; have HB2 := Lib.hid (Below.step HB1.out hb); obtain ⟨⟨z0, z1, z2, z3, z4, z5⟩, y0, y1, y2, y3, y4, y5⟩ := HX.out.res HB2.out; clear hb))
  obtain ⟨T9, B9, q0, q1, q2, q3, q4, q5⟩ := HX.out.fin HB2.out (.int .i64 0) (.string ⟨#[]⟩) (.string ⟨#[]⟩) (.string ⟨#[]⟩) (.slice none 0 0) (.slice none 0 0) rfl
  exact bodyPost_ret (v := .tuple #[.agg #[.int .i64 0, .string ⟨#[]⟩, .string ⟨#[]⟩, .string ⟨#[]⟩, .slice none 0 0, .slice none 0 0], .int .i64 4]) (by rw [results_cell_tmp rfl]; simp [go_sem, q0, q1, q2, q3, q4, q5]) rfl ⟨none, 0, none, 0, rfl, B9, zeroNo_at (HRM.out.on B9)⟩

theorem add_twice (h : NdAt W n ba bc ka kc) (b : UInt8) (s g : Int) (keep : Bool) (hu : n.usable = true) (hi : impR s g = false) (hc : decide (b ∈ n.bs) = true) :
    Calls Tryd.prog 9 #[n.val ba bc ka kc, .int .u8 (b.toNat : Int), .agg #[.int .i64 s, .int .u32 g], .bool keep] W (MkP W zeroNo 8) := by
  obtain ⟨W4, hW4⟩ : ∃ W4, W4 = (((W.alloc (.cells #[.int .i64 n.k, .string n.c, .string n.v, .string n.p, .slice ba n.bs.length bc, .slice ka n.rs.length kc] 26)).alloc (.cells #[.int .i64 s, .int .u32 g] 29)).alloc (.cells #[.int .i64 0, .string ⟨#[]⟩, .string ⟨#[]⟩, .string ⟨#[]⟩, .slice none 0 0, .slice none 0 0] 26)).alloc (.cells #[.int .i64 n.k, .string n.c, .string n.v, .string n.p, .slice ba n.bs.length bc, .slice ka n.rs.length kc] 49) := ⟨_, rfl⟩
  have X4 : Bx4 W W4 W.heap.size (W.heap.size + 1) (W.heap.size + 1 + 1) (W.heap.size + 1 + 1 + 1) n ba n.bs.length bc ka n.rs.length kc s g := by
    rw [hW4]
    exact ⟨Below.new (Below.new (Below.new (Below.new (Below.refl _ _) _) _) _) _, (((Fresh.new _ _ _ _ rfl).alloc _).alloc _).alloc _, ((Fresh.new _ _ _ _ (by simp)).alloc _).alloc _, (Fresh.new _ _ _ _ (by simp)).alloc _, Fresh.new _ _ _ _ (by simp), by omega⟩
  have H4 := h.below X4.low
  have HX := Lib.hid X4
  have HW4 := Lib.hid hW4
  have hv0 := X4.view (Below.refl _ _)
  have HRM := Lib.hid h.rm
  have HU := Lib.hid (vusable_any H4)
  have HH4 := Lib.hid H4
  rw [hu] at HU
  have HI := Lib.hid (fun w => impossible_any s g w)
  rw [hi] at HI
  have HCn := Lib.hid (fun w (hb : Below W4.heap.size W4 w) => contains_any (H4.b.below hb) H4.bl b)
  rw [hc] at HCn
  have hv0' := hv0
  clear h X4 hW4 H4 hv0 
  unfold No.val ndv at *
  obtain ⟨v0, v1, v2, v3, v4, v5⟩ := hv0'
  go_enter Tryd.func9, Tryd.ntmps9
  go_upto_region 2 with fail
  rw [← HW4.out]
  go_wp2_with (first
    | (go_at_call 22; refine (HU.out).mono ?_; rintro e1 w1 ⟨rfl, hb⟩; have HB1 := Lib.hid hb; obtain ⟨r0, r1⟩ := HX.out.ref HB1.out; clear hb)
    | (go_at_call 23; refine (HI.out _).mono ?_; rintro e2 w2 ⟨rfl, hb⟩; have HB2 := Lib.hid (Below.step HB1.out hb); obtain ⟨a0, a1, a2, a3, a4, a5⟩ := HX.out.node HB2.out; clear hb)
    | (go_at_call 24; refine (HCn.out _ HB2.out).mono ?_; rintro e3 w3 ⟨rfl, hb⟩; have HB3 := Lib.hid (Below.step HB2.out hb); obtain ⟨⟨z0, z1, z2, z3, z4, z5⟩, y0, y1, y2, y3, y4, y5⟩ := HX.out.res HB3.out; clear hb))
  obtain ⟨T9, B9, q0, q1, q2, q3, q4, q5⟩ := HX.out.fin HB3.out (.int .i64 0) (.string ⟨#[]⟩) (.string ⟨#[]⟩) (.string ⟨#[]⟩) (.slice none 0 0) (.slice none 0 0) rfl
  exact bodyPost_ret (v := .tuple #[.agg #[.int .i64 0, .string ⟨#[]⟩, .string ⟨#[]⟩, .string ⟨#[]⟩, .slice none 0 0, .slice none 0 0], .int .i64 8]) (by rw [results_cell_tmp rfl]; simp [go_sem, q0, q1, q2, q3, q4, q5]) rfl ⟨none, 0, none, 0, rfl, B9, zeroNo_at (HRM.out.on B9)⟩

theorem add_full (h : NdAt W n ba bc ka kc) (b : UInt8) (s g : Int) (keep : Bool) (hu : n.usable = true) (hi : impR s g = false) (hc : decide (b ∈ n.bs) = false) (hf : n.full = true) (hk : keep = true) :
    Calls Tryd.prog 9 #[n.val ba bc ka kc, .int .u8 (b.toNat : Int), .agg #[.int .i64 s, .int .u32 g], .bool keep] W (MkP W zeroNo 14) := by
  subst hk
  obtain ⟨W4, hW4⟩ : ∃ W4, W4 = (((W.alloc (.cells #[.int .i64 n.k, .string n.c, .string n.v, .string n.p, .slice ba n.bs.length bc, .slice ka n.rs.length kc] 26)).alloc (.cells #[.int .i64 s, .int .u32 g] 29)).alloc (.cells #[.int .i64 0, .string ⟨#[]⟩, .string ⟨#[]⟩, .string ⟨#[]⟩, .slice none 0 0, .slice none 0 0] 26)).alloc (.cells #[.int .i64 n.k, .string n.c, .string n.v, .string n.p, .slice ba n.bs.length bc, .slice ka n.rs.length kc] 49) := ⟨_, rfl⟩
  have X4 : Bx4 W W4 W.heap.size (W.heap.size + 1) (W.heap.size + 1 + 1) (W.heap.size + 1 + 1 + 1) n ba n.bs.length bc ka n.rs.length kc s g := by
    rw [hW4]
    exact ⟨Below.new (Below.new (Below.new (Below.new (Below.refl _ _) _) _) _) _, (((Fresh.new _ _ _ _ rfl).alloc _).alloc _).alloc _, ((Fresh.new _ _ _ _ (by simp)).alloc _).alloc _, (Fresh.new _ _ _ _ (by simp)).alloc _, Fresh.new _ _ _ _ (by simp), by omega⟩
  have H4 := h.below X4.low
  have HX := Lib.hid X4
  have HW4 := Lib.hid hW4
  have hv0 := X4.view (Below.refl _ _)
  have HRM := Lib.hid h.rm
  have HU := Lib.hid (vusable_any H4)
  have HH4 := Lib.hid H4
  rw [hu] at HU
  have HI := Lib.hid (fun w => impossible_any s g w)
  rw [hi] at HI
  have HCn := Lib.hid (fun w (hb : Below W4.heap.size W4 w) => contains_any (H4.b.below hb) H4.bl b)
  rw [hc] at HCn
  have HF := Lib.hid (fun w (hb : Below W4.heap.size W4 w) => full_any n.k n.c n.v n.p ba n.bs.length bc ka n.rs.length kc w (H4.rm.on hb))
  have hf' : decide ((n.bs.length : Int) = roomOf n.k) = true := hf
  rw [hf'] at HF
  clear hf'
  have hv0' := hv0
  clear h X4 hW4 H4 hv0 
  unfold No.val ndv at *
  obtain ⟨v0, v1, v2, v3, v4, v5⟩ := hv0'
  go_enter Tryd.func9, Tryd.ntmps9
  go_upto_region 2 with fail
  rw [← HW4.out]
  go_wp2_with (first
    | (go_at_call 22; refine (HU.out).mono ?_; rintro e1 w1 ⟨rfl, hb⟩; have HB1 := Lib.hid hb; obtain ⟨r0, r1⟩ := HX.out.ref HB1.out; clear hb)
    | (go_at_call 23; refine (HI.out _).mono ?_; rintro e2 w2 ⟨rfl, hb⟩; have HB2 := Lib.hid (Below.step HB1.out hb); obtain ⟨a0, a1, a2, a3, a4, a5⟩ := HX.out.node HB2.out; clear hb)
    | (go_at_call 24; refine (HCn.out _ HB2.out).mono ?_; rintro e3 w3 ⟨rfl, hb⟩; have HB3 := Lib.hid (Below.step HB2.out hb); obtain ⟨v0, v1, v2, v3, v4, v5⟩ := HX.out.view HB3.out; clear hb)
    | (go_at_call 25; refine (HF.out _ HB3.out).mono ?_; rintro e4 w4 ⟨rfl, hb⟩; have HB4 := Lib.hid (Below.step HB3.out hb); obtain ⟨⟨z0, z1, z2, z3, z4, z5⟩, y0, y1, y2, y3, y4, y5⟩ := HX.out.res HB4.out; clear hb))
  obtain ⟨T9, B9, q0, q1, q2, q3, q4, q5⟩ := HX.out.fin HB4.out (.int .i64 0) (.string ⟨#[]⟩) (.string ⟨#[]⟩) (.string ⟨#[]⟩) (.slice none 0 0) (.slice none 0 0) rfl
  exact bodyPost_ret (v := .tuple #[.agg #[.int .i64 0, .string ⟨#[]⟩, .string ⟨#[]⟩, .string ⟨#[]⟩, .slice none 0 0, .slice none 0 0], .int .i64 14]) (by rw [results_cell_tmp rfl]; simp [go_sem, q0, q1, q2, q3, q4, q5]) rfl ⟨none, 0, none, 0, rfl, B9, zeroNo_at (HRM.out.on B9)⟩

theorem add_fn (h : NdAt W n ba bc ka kc) (b : UInt8) (s g : Int) (keep : Bool) (hu : n.usable = true) (hi : impR s g = false) (hc : decide (b ∈ n.bs) = false) (hk : keep = false) (he : n.bs.length = n.rs.length) (hr : Ris n.bs) (hm2 : n.bs.length + 1 ≤ 256) (R : Nat) (hR : roomOf (ofK ((n.bs.length + 1 : Nat) : Int)).1 = (R : Int)) (hRR : R = 4 ∨ R = 16) :
    Calls Tryd.prog 9 #[n.val ba bc ka kc, .int .u8 (b.toNat : Int), .agg #[.int .i64 s, .int .u32 g], .bool keep] W (MkP W (n.kids (kindOf n keep (n.bs.length + 1)) (n.ens.insertIdx (placeIx b n.ens) (b, s, g))) 0) := by
  subst hk
  have hm1 : n.bs.length ≤ n.bs.length + 1 := Nat.le_succ _
  obtain ⟨W4, hW4⟩ : ∃ W4, W4 = (((W.alloc (.cells #[.int .i64 n.k, .string n.c, .string n.v, .string n.p, .slice ba n.bs.length bc, .slice ka n.rs.length kc] 26)).alloc (.cells #[.int .i64 s, .int .u32 g] 29)).alloc (.cells #[.int .i64 0, .string ⟨#[]⟩, .string ⟨#[]⟩, .string ⟨#[]⟩, .slice none 0 0, .slice none 0 0] 26)).alloc (.cells #[.int .i64 n.k, .string n.c, .string n.v, .string n.p, .slice ba n.bs.length bc, .slice ka n.rs.length kc] 49) := ⟨_, rfl⟩
  have X4 : Bx4 W W4 W.heap.size (W.heap.size + 1) (W.heap.size + 1 + 1) (W.heap.size + 1 + 1 + 1) n ba n.bs.length bc ka n.rs.length kc s g := by
    rw [hW4]
    exact ⟨Below.new (Below.new (Below.new (Below.new (Below.refl _ _) _) _) _) _, (((Fresh.new _ _ _ _ rfl).alloc _).alloc _).alloc _, ((Fresh.new _ _ _ _ (by simp)).alloc _).alloc _, (Fresh.new _ _ _ _ (by simp)).alloc _, Fresh.new _ _ _ _ (by simp), by omega⟩
  have H4 := h.below X4.low
  have HX := Lib.hid X4
  have HW4 := Lib.hid hW4
  have hv0 := X4.view (Below.refl _ _)
  have HRM := Lib.hid h.rm
  have HU := Lib.hid (vusable_any H4)
  have HH4 := Lib.hid H4
  rw [hu] at HU
  have HI := Lib.hid (fun w => impossible_any s g w)
  rw [hi] at HI
  have HCn := Lib.hid (fun w (hb : Below W4.heap.size W4 w) => contains_any (H4.b.below hb) H4.bl b)
  rw [hc] at HCn
  have HRow := Lib.hid (fun w (hb : Below W4.heap.size W4 w) => rowf_any (H4.below hb) he hr (n.bs.length + 1) hm1 hm2 R hR hRR)
  have HWith := Lib.hid (fun w (hb : Below W4.heap.size W4 w) (B p : Nat) (L : List En) (hL : L.length ≤ 256) (ht : FTab w B p L R) => withf_any (W := w) (n := n) (ba := ba) (bc := bc) (ka := ka) (kc := kc) false ht (H4.rm.on hb) hL H4.cl)
  have hmeth : ∀ (p : Addr) (w : World), (method 244 69 (.pointer (some p)) "Put").run Tryd.prog w = .ok (85, .pointer (some p)) w := methfPut 243
  have hsrt := ens_srt he hr
  have hin : isIn b n.ens = false := (mem_in he hr).trans hc
  have hel := ens_len he
  have hRle := (ofK_room hm2).2.1
  rw [hR] at hRle
  obtain ⟨L, hL⟩ : ∃ L, n.ens.insertIdx (placeIx b n.ens) (b, s, g) = L := ⟨_, rfl⟩
  have hLl : L.length = n.bs.length + 1 := by rw [← hL, List.length_insertIdx, if_pos (place_le _ _), hel]
  have hput : putS b s g n.ens R = L := by
    rw [← hL, putS, if_neg]
    rintro (h | h)
    · rw [hin] at h; cases h
    · rw [hel] at h; omega
  have HP := Lib.hid (fun w (B p : Nat) (ht : FTab w B p n.ens R) => fput_any ht b s g)
  rw [hput] at HP
  have hlen256 : L.length ≤ 256 := by omega
  have HL256 := Lib.hid hlen256
  have e1 : ((n.bs.length + 1 : Nat) : Int) = (n.bs.length : Int) + 1 := by omega
  simp only [e1] at HRow
  rw [hL]
  have HW' : Hid (∀ w, Below W4.heap.size W4 w → ∀ (B p : Nat), FTab w B p L R → Calls Tryd.prog 27 #[n.val ba bc ka kc, .iface 69 (.pointer (some ⟨p, 0, none⟩)), .bool false] w fun e w' => ∃ (m : No) (ba' : Option Addr) (bc' : Nat) (ka' : Option Addr) (kc' : Nat), m = n.kids (kindOf n false (n.bs.length + 1)) L ∧ e = .returned (m.val ba' bc' ka' kc') ∧ Below w.heap.size w w' ∧ NdAt w' m ba' bc' ka' kc') := by
    intro w hb B p ht
    refine (HWith.out w hb B p L hlen256 ht).mono ?_
    rw [hLl]
    rintro e w' ⟨ba', bc', ka', kc', h1, h2, h3⟩
    exact ⟨_, ba', bc', ka', kc', rfl, h1, h2, h3⟩
  have hbl : (n.bs.length : Int) < 256 := by omega
  have hbl0 : (0 : Int) ≤ (n.bs.length : Int) := by omega
  clear HWith hsrt hin hel hRle hL hLl hput hlen256 e1 hm1 hm2 hR hRR he hr
  have hv0' := hv0
  clear h X4 hW4 H4 hv0 
  unfold No.val ndv at *
  obtain ⟨v0, v1, v2, v3, v4, v5⟩ := hv0'
  go_enter Tryd.func9, Tryd.ntmps9
  go_upto_region 2 with fail
  rw [← HW4.out]
  go_wp2_with (first
    | (go_at_call 22; refine (HU.out).mono ?_; rintro e1 w1 ⟨rfl, hb⟩; have HB1 := Lib.hid hb; obtain ⟨r0, r1⟩ := HX.out.ref HB1.out; clear hb)
    | (go_at_call 23; refine (HI.out _).mono ?_; rintro e2 w2 ⟨rfl, hb⟩; have HB2 := Lib.hid (Below.step HB1.out hb); obtain ⟨a0, a1, a2, a3, a4, a5⟩ := HX.out.node HB2.out; clear hb)
    | (go_at_call 24; refine (HCn.out _ HB2.out).mono ?_; rintro e3 w3 ⟨rfl, hb⟩; have HB3 := Lib.hid (Below.step HB2.out hb); obtain ⟨v0, v1, v2, v3, v4, v5⟩ := HX.out.view HB3.out; obtain ⟨a0, a1, a2, a3, a4, a5⟩ := HX.out.node HB3.out; clear hb)
    | (go_at_call 26; refine (HRow.out _ HB3.out).mono ?_; rintro e5 w5 ⟨pt, rfl, hb, ht⟩; have HT5 := Lib.hid ht; have HB5 := Lib.hid (Below.step HB3.out hb); obtain ⟨r0, r1⟩ := HX.out.ref HB5.out; clear hb ht)
    | (go_at_call 85; refine (HP.out _ _ _ HT5.out).mono ?_; rintro e6 w6 ⟨rfl, hb, ht⟩; have HT6 := Lib.hid ht; have HB6 := Lib.hid (HB5.out.trans (hb.mono HB3.out.size)); obtain ⟨v0, v1, v2, v3, v4, v5⟩ := HX.out.view HB6.out; clear hb ht)
    | (go_at_call 27; refine (HW'.out _ HB6.out _ _ HT6.out).mono ?_; rintro e7 w7 ⟨m, ba', bc', ka', kc', hm, rfl, hb, hnd⟩; have HM := Lib.hid hm; have HND := Lib.hid hnd; have HB7 := Lib.hid (Below.step HB6.out hb); obtain ⟨⟨z0, z1, z2, z3, z4, z5⟩, y0, y1, y2, y3, y4, y5⟩ := HX.out.res HB7.out; clear hb hnd hm))
  rw [← HM.out]
  obtain ⟨T9, B9, q0, q1, q2, q3, q4, q5⟩ := HX.out.fin HB7.out (.int .i64 m.k) (.string m.c) (.string m.v) (.string m.p) (.slice ba' m.bs.length bc') (.slice ka' m.rs.length kc') rfl
  exact bodyPost_ret (v := .tuple #[.agg #[.int .i64 m.k, .string m.c, .string m.v, .string m.p, .slice ba' m.bs.length bc', .slice ka' m.rs.length kc'], .int .i64 0]) (by rw [results_cell_tmp rfl]; simp [go_sem, q0, q1, q2, q3, q4, q5]) rfl ⟨ba', bc', ka', kc', rfl, B9, NdAt.turned HND.out T9 (HRM.out.on B9) (HX.out.f2.below HB7.out)⟩

theorem add_fk (h : NdAt W n ba bc ka kc) (b : UInt8) (s g : Int) (keep : Bool) (hu : n.usable = true) (hi : impR s g = false) (hc : decide (b ∈ n.bs) = false) (hf : n.full = false) (hk : keep = true) (he : n.bs.length = n.rs.length) (hr : Ris n.bs) (hm2 : n.bs.length + 1 ≤ 256) (R : Nat) (hR : roomOf (ofK ((n.bs.length + 1 : Nat) : Int)).1 = (R : Int)) (hRR : R = 4 ∨ R = 16) :
    Calls Tryd.prog 9 #[n.val ba bc ka kc, .int .u8 (b.toNat : Int), .agg #[.int .i64 s, .int .u32 g], .bool keep] W (MkP W (n.kids (kindOf n keep (n.bs.length + 1)) (n.ens.insertIdx (placeIx b n.ens) (b, s, g))) 0) := by
  subst hk
  have hm1 : n.bs.length ≤ n.bs.length + 1 := Nat.le_succ _
  obtain ⟨W4, hW4⟩ : ∃ W4, W4 = (((W.alloc (.cells #[.int .i64 n.k, .string n.c, .string n.v, .string n.p, .slice ba n.bs.length bc, .slice ka n.rs.length kc] 26)).alloc (.cells #[.int .i64 s, .int .u32 g] 29)).alloc (.cells #[.int .i64 0, .string ⟨#[]⟩, .string ⟨#[]⟩, .string ⟨#[]⟩, .slice none 0 0, .slice none 0 0] 26)).alloc (.cells #[.int .i64 n.k, .string n.c, .string n.v, .string n.p, .slice ba n.bs.length bc, .slice ka n.rs.length kc] 49) := ⟨_, rfl⟩
  have X4 : Bx4 W W4 W.heap.size (W.heap.size + 1) (W.heap.size + 1 + 1) (W.heap.size + 1 + 1 + 1) n ba n.bs.length bc ka n.rs.length kc s g := by
    rw [hW4]
    exact ⟨Below.new (Below.new (Below.new (Below.new (Below.refl _ _) _) _) _) _, (((Fresh.new _ _ _ _ rfl).alloc _).alloc _).alloc _, ((Fresh.new _ _ _ _ (by simp)).alloc _).alloc _, (Fresh.new _ _ _ _ (by simp)).alloc _, Fresh.new _ _ _ _ (by simp), by omega⟩
  have H4 := h.below X4.low
  have HX := Lib.hid X4
  have HW4 := Lib.hid hW4
  have hv0 := X4.view (Below.refl _ _)
  have HRM := Lib.hid h.rm
  have HU := Lib.hid (vusable_any H4)
  have HH4 := Lib.hid H4
  rw [hu] at HU
  have HI := Lib.hid (fun w => impossible_any s g w)
  rw [hi] at HI
  have HCn := Lib.hid (fun w (hb : Below W4.heap.size W4 w) => contains_any (H4.b.below hb) H4.bl b)
  rw [hc] at HCn
  have HF := Lib.hid (fun w (hb : Below W4.heap.size W4 w) => full_any n.k n.c n.v n.p ba n.bs.length bc ka n.rs.length kc w (H4.rm.on hb))
  have hf' : decide ((n.bs.length : Int) = roomOf n.k) = false := hf
  rw [hf'] at HF
  clear hf'
  have HRow := Lib.hid (fun w (hb : Below W4.heap.size W4 w) => rowf_any (H4.below hb) he hr (n.bs.length + 1) hm1 hm2 R hR hRR)
  have HWith := Lib.hid (fun w (hb : Below W4.heap.size W4 w) (B p : Nat) (L : List En) (hL : L.length ≤ 256) (ht : FTab w B p L R) => withf_any (W := w) (n := n) (ba := ba) (bc := bc) (ka := ka) (kc := kc) true ht (H4.rm.on hb) hL H4.cl)
  have hmeth : ∀ (p : Addr) (w : World), (method 244 69 (.pointer (some p)) "Put").run Tryd.prog w = .ok (85, .pointer (some p)) w := methfPut 243
  have hsrt := ens_srt he hr
  have hin : isIn b n.ens = false := (mem_in he hr).trans hc
  have hel := ens_len he
  have hRle := (ofK_room hm2).2.1
  rw [hR] at hRle
  obtain ⟨L, hL⟩ : ∃ L, n.ens.insertIdx (placeIx b n.ens) (b, s, g) = L := ⟨_, rfl⟩
  have hLl : L.length = n.bs.length + 1 := by rw [← hL, List.length_insertIdx, if_pos (place_le _ _), hel]
  have hput : putS b s g n.ens R = L := by
    rw [← hL, putS, if_neg]
    rintro (h | h)
    · rw [hin] at h; cases h
    · rw [hel] at h; omega
  have HP := Lib.hid (fun w (B p : Nat) (ht : FTab w B p n.ens R) => fput_any ht b s g)
  rw [hput] at HP
  have hlen256 : L.length ≤ 256 := by omega
  have HL256 := Lib.hid hlen256
  have e1 : ((n.bs.length + 1 : Nat) : Int) = (n.bs.length : Int) + 1 := by omega
  simp only [e1] at HRow
  rw [hL]
  have HW' : Hid (∀ w, Below W4.heap.size W4 w → ∀ (B p : Nat), FTab w B p L R → Calls Tryd.prog 27 #[n.val ba bc ka kc, .iface 69 (.pointer (some ⟨p, 0, none⟩)), .bool true] w fun e w' => ∃ (m : No) (ba' : Option Addr) (bc' : Nat) (ka' : Option Addr) (kc' : Nat), m = n.kids (kindOf n true (n.bs.length + 1)) L ∧ e = .returned (m.val ba' bc' ka' kc') ∧ Below w.heap.size w w' ∧ NdAt w' m ba' bc' ka' kc') := by
    intro w hb B p ht
    refine (HWith.out w hb B p L hlen256 ht).mono ?_
    rw [hLl]
    rintro e w' ⟨ba', bc', ka', kc', h1, h2, h3⟩
    exact ⟨_, ba', bc', ka', kc', rfl, h1, h2, h3⟩
  have hbl : (n.bs.length : Int) < 256 := by omega
  have hbl0 : (0 : Int) ≤ (n.bs.length : Int) := by omega
  clear HWith hsrt hin hel hRle hL hLl hput hlen256 e1 hm1 hm2 hR hRR he hr
  have hv0' := hv0
  clear h X4 hW4 H4 hv0 
  unfold No.val ndv at *
  obtain ⟨v0, v1, v2, v3, v4, v5⟩ := hv0'
  go_enter Tryd.func9, Tryd.ntmps9
  go_upto_region 2 with fail
  rw [← HW4.out]
  go_wp2_with (first
    | (go_at_call 22; refine (HU.out).mono ?_; rintro e1 w1 ⟨rfl, hb⟩; have HB1 := Lib.hid hb; obtain ⟨r0, r1⟩ := HX.out.ref HB1.out; clear hb)
    | (go_at_call 23; refine (HI.out _).mono ?_; rintro e2 w2 ⟨rfl, hb⟩; have HB2 := Lib.hid (Below.step HB1.out hb); obtain ⟨a0, a1, a2, a3, a4, a5⟩ := HX.out.node HB2.out; clear hb)
    | (go_at_call 24; refine (HCn.out _ HB2.out).mono ?_; rintro e3 w3 ⟨rfl, hb⟩; have HB3 := Lib.hid (Below.step HB2.out hb); obtain ⟨v0, v1, v2, v3, v4, v5⟩ := HX.out.view HB3.out; obtain ⟨a0, a1, a2, a3, a4, a5⟩ := HX.out.node HB3.out; clear hb)
    | (go_at_call 25; refine (HF.out _ HB3.out).mono ?_; rintro e4 w4 ⟨rfl, hb⟩; have HB4 := Lib.hid (Below.step HB3.out hb); obtain ⟨v0, v1, v2, v3, v4, v5⟩ := HX.out.view HB4.out; obtain ⟨a0, a1, a2, a3, a4, a5⟩ := HX.out.node HB4.out; clear hb)
    | (go_at_call 26; refine (HRow.out _ HB4.out).mono ?_; rintro e5 w5 ⟨pt, rfl, hb, ht⟩; have HT5 := Lib.hid ht; have HB5 := Lib.hid (Below.step HB4.out hb); obtain ⟨r0, r1⟩ := HX.out.ref HB5.out; clear hb ht)
    | (go_at_call 85; refine (HP.out _ _ _ HT5.out).mono ?_; rintro e6 w6 ⟨rfl, hb, ht⟩; have HT6 := Lib.hid ht; have HB6 := Lib.hid (HB5.out.trans (hb.mono HB4.out.size)); obtain ⟨v0, v1, v2, v3, v4, v5⟩ := HX.out.view HB6.out; clear hb ht)
    | (go_at_call 27; refine (HW'.out _ HB6.out _ _ HT6.out).mono ?_; rintro e7 w7 ⟨m, ba', bc', ka', kc', hm, rfl, hb, hnd⟩; have HM := Lib.hid hm; have HND := Lib.hid hnd; have HB7 := Lib.hid (Below.step HB6.out hb); obtain ⟨⟨z0, z1, z2, z3, z4, z5⟩, y0, y1, y2, y3, y4, y5⟩ := HX.out.res HB7.out; clear hb hnd hm))
  rw [← HM.out]
  obtain ⟨T9, B9, q0, q1, q2, q3, q4, q5⟩ := HX.out.fin HB7.out (.int .i64 m.k) (.string m.c) (.string m.v) (.string m.p) (.slice ba' m.bs.length bc') (.slice ka' m.rs.length kc') rfl
  exact bodyPost_ret (v := .tuple #[.agg #[.int .i64 m.k, .string m.c, .string m.v, .string m.p, .slice ba' m.bs.length bc', .slice ka' m.rs.length kc'], .int .i64 0]) (by rw [results_cell_tmp rfl]; simp [go_sem, q0, q1, q2, q3, q4, q5]) rfl ⟨ba', bc', ka', kc', rfl, B9, NdAt.turned HND.out T9 (HRM.out.on B9) (HX.out.f2.below HB7.out)⟩

theorem add_mn (h : NdAt W n ba bc ka kc) (b : UInt8) (s g : Int) (keep : Bool) (hu : n.usable = true) (hi : impR s g = false) (hc : decide (b ∈ n.bs) = false) (hk : keep = false) (he : n.bs.length = n.rs.length) (hr : Ris n.bs) (hm2 : n.bs.length + 1 ≤ 256) (R : Nat) (hR : roomOf (ofK ((n.bs.length + 1 : Nat) : Int)).1 = (R : Int)) (hRR : R = 48 ∨ R = 256) :
    Calls Tryd.prog 9 #[n.val ba bc ka kc, .int .u8 (b.toNat : Int), .agg #[.int .i64 s, .int .u32 g], .bool keep] W (MkP W (n.kids (kindOf n keep (n.bs.length + 1)) (n.ens.insertIdx (placeIx b n.ens) (b, s, g))) 0) := by
  subst hk
  have hm1 : n.bs.length ≤ n.bs.length + 1 := Nat.le_succ _
  obtain ⟨W4, hW4⟩ : ∃ W4, W4 = (((W.alloc (.cells #[.int .i64 n.k, .string n.c, .string n.v, .string n.p, .slice ba n.bs.length bc, .slice ka n.rs.length kc] 26)).alloc (.cells #[.int .i64 s, .int .u32 g] 29)).alloc (.cells #[.int .i64 0, .string ⟨#[]⟩, .string ⟨#[]⟩, .string ⟨#[]⟩, .slice none 0 0, .slice none 0 0] 26)).alloc (.cells #[.int .i64 n.k, .string n.c, .string n.v, .string n.p, .slice ba n.bs.length bc, .slice ka n.rs.length kc] 49) := ⟨_, rfl⟩
  have X4 : Bx4 W W4 W.heap.size (W.heap.size + 1) (W.heap.size + 1 + 1) (W.heap.size + 1 + 1 + 1) n ba n.bs.length bc ka n.rs.length kc s g := by
    rw [hW4]
    exact ⟨Below.new (Below.new (Below.new (Below.new (Below.refl _ _) _) _) _) _, (((Fresh.new _ _ _ _ rfl).alloc _).alloc _).alloc _, ((Fresh.new _ _ _ _ (by simp)).alloc _).alloc _, (Fresh.new _ _ _ _ (by simp)).alloc _, Fresh.new _ _ _ _ (by simp), by omega⟩
  have H4 := h.below X4.low
  have HX := Lib.hid X4
  have HW4 := Lib.hid hW4
  have hv0 := X4.view (Below.refl _ _)
  have HRM := Lib.hid h.rm
  have HU := Lib.hid (vusable_any H4)
  have HH4 := Lib.hid H4
  rw [hu] at HU
  have HI := Lib.hid (fun w => impossible_any s g w)
  rw [hi] at HI
  have HCn := Lib.hid (fun w (hb : Below W4.heap.size W4 w) => contains_any (H4.b.below hb) H4.bl b)
  rw [hc] at HCn
  have HRow := Lib.hid (fun w (hb : Below W4.heap.size W4 w) => rowm_any (H4.below hb) he hr (n.bs.length + 1) hm1 hm2 R hR hRR)
  have HWith := Lib.hid (fun w (hb : Below W4.heap.size W4 w) (B p : Nat) (L : List En) (hL : L.length ≤ 256) (ht : MTab w B p L R) => withm_any (W := w) (n := n) (ba := ba) (bc := bc) (ka := ka) (kc := kc) false ht (H4.rm.on hb) hL H4.cl)
  have hmeth : ∀ (p : Addr) (w : World), (method 244 72 (.pointer (some p)) "Put").run Tryd.prog w = .ok (99, .pointer (some p)) w := methmPut 243
  have hsrt := ens_srt he hr
  have hin : isIn b n.ens = false := (mem_in he hr).trans hc
  have hel := ens_len he
  have hRle := (ofK_room hm2).2.1
  rw [hR] at hRle
  obtain ⟨L, hL⟩ : ∃ L, n.ens.insertIdx (placeIx b n.ens) (b, s, g) = L := ⟨_, rfl⟩
  have hLl : L.length = n.bs.length + 1 := by rw [← hL, List.length_insertIdx, if_pos (place_le _ _), hel]
  have hput : putS b s g n.ens R = L := by
    rw [← hL, putS, if_neg]
    rintro (h | h)
    · rw [hin] at h; cases h
    · rw [hel] at h; omega
  have HP := Lib.hid (fun w (B p : Nat) (ht : MTab w B p n.ens R) => mput_any ht b s g)
  rw [hput] at HP
  have hlen256 : L.length ≤ 256 := by omega
  have HL256 := Lib.hid hlen256
  have e1 : ((n.bs.length + 1 : Nat) : Int) = (n.bs.length : Int) + 1 := by omega
  simp only [e1] at HRow
  rw [hL]
  have HW' : Hid (∀ w, Below W4.heap.size W4 w → ∀ (B p : Nat), MTab w B p L R → Calls Tryd.prog 27 #[n.val ba bc ka kc, .iface 72 (.pointer (some ⟨p, 0, none⟩)), .bool false] w fun e w' => ∃ (m : No) (ba' : Option Addr) (bc' : Nat) (ka' : Option Addr) (kc' : Nat), m = n.kids (kindOf n false (n.bs.length + 1)) L ∧ e = .returned (m.val ba' bc' ka' kc') ∧ Below w.heap.size w w' ∧ NdAt w' m ba' bc' ka' kc') := by
    intro w hb B p ht
    refine (HWith.out w hb B p L hlen256 ht).mono ?_
    rw [hLl]
    rintro e w' ⟨ba', bc', ka', kc', h1, h2, h3⟩
    exact ⟨_, ba', bc', ka', kc', rfl, h1, h2, h3⟩
  have hbl : (n.bs.length : Int) < 256 := by omega
  have hbl0 : (0 : Int) ≤ (n.bs.length : Int) := by omega
  clear HWith hsrt hin hel hRle hL hLl hput hlen256 e1 hm1 hm2 hR hRR he hr
  have hv0' := hv0
  clear h X4 hW4 H4 hv0 
  unfold No.val ndv at *
  obtain ⟨v0, v1, v2, v3, v4, v5⟩ := hv0'
  go_enter Tryd.func9, Tryd.ntmps9
  go_upto_region 2 with fail
  rw [← HW4.out]
  go_wp2_with (first
    | (go_at_call 22; refine (HU.out).mono ?_; rintro e1 w1 ⟨rfl, hb⟩; have HB1 := Lib.hid hb; obtain ⟨r0, r1⟩ := HX.out.ref HB1.out; clear hb)
    | (go_at_call 23; refine (HI.out _).mono ?_; rintro e2 w2 ⟨rfl, hb⟩; have HB2 := Lib.hid (Below.step HB1.out hb); obtain ⟨a0, a1, a2, a3, a4, a5⟩ := HX.out.node HB2.out; clear hb)
    | (go_at_call 24; refine (HCn.out _ HB2.out).mono ?_; rintro e3 w3 ⟨rfl, hb⟩; have HB3 := Lib.hid (Below.step HB2.out hb); obtain ⟨v0, v1, v2, v3, v4, v5⟩ := HX.out.view HB3.out; obtain ⟨a0, a1, a2, a3, a4, a5⟩ := HX.out.node HB3.out; clear hb)
    | (go_at_call 26; refine (HRow.out _ HB3.out).mono ?_; rintro e5 w5 ⟨pt, rfl, hb, ht⟩; have HT5 := Lib.hid ht; have HB5 := Lib.hid (Below.step HB3.out hb); obtain ⟨r0, r1⟩ := HX.out.ref HB5.out; clear hb ht)
    | (go_at_call 99; refine (HP.out _ _ _ HT5.out).mono ?_; rintro e6 w6 ⟨rfl, hb, ht⟩; have HT6 := Lib.hid ht; have HB6 := Lib.hid (HB5.out.trans (hb.mono HB3.out.size)); obtain ⟨v0, v1, v2, v3, v4, v5⟩ := HX.out.view HB6.out; clear hb ht)
    | (go_at_call 27; refine (HW'.out _ HB6.out _ _ HT6.out).mono ?_; rintro e7 w7 ⟨m, ba', bc', ka', kc', hm, rfl, hb, hnd⟩; have HM := Lib.hid hm; have HND := Lib.hid hnd; have HB7 := Lib.hid (Below.step HB6.out hb); obtain ⟨⟨z0, z1, z2, z3, z4, z5⟩, y0, y1, y2, y3, y4, y5⟩ := HX.out.res HB7.out; clear hb hnd hm))
  rw [← HM.out]
  obtain ⟨T9, B9, q0, q1, q2, q3, q4, q5⟩ := HX.out.fin HB7.out (.int .i64 m.k) (.string m.c) (.string m.v) (.string m.p) (.slice ba' m.bs.length bc') (.slice ka' m.rs.length kc') rfl
  exact bodyPost_ret (v := .tuple #[.agg #[.int .i64 m.k, .string m.c, .string m.v, .string m.p, .slice ba' m.bs.length bc', .slice ka' m.rs.length kc'], .int .i64 0]) (by rw [results_cell_tmp rfl]; simp [go_sem, q0, q1, q2, q3, q4, q5]) rfl ⟨ba', bc', ka', kc', rfl, B9, NdAt.turned HND.out T9 (HRM.out.on B9) (HX.out.f2.below HB7.out)⟩

theorem add_mk (h : NdAt W n ba bc ka kc) (b : UInt8) (s g : Int) (keep : Bool) (hu : n.usable = true) (hi : impR s g = false) (hc : decide (b ∈ n.bs) = false) (hf : n.full = false) (hk : keep = true) (he : n.bs.length = n.rs.length) (hr : Ris n.bs) (hm2 : n.bs.length + 1 ≤ 256) (R : Nat) (hR : roomOf (ofK ((n.bs.length + 1 : Nat) : Int)).1 = (R : Int)) (hRR : R = 48 ∨ R = 256) :
    Calls Tryd.prog 9 #[n.val ba bc ka kc, .int .u8 (b.toNat : Int), .agg #[.int .i64 s, .int .u32 g], .bool keep] W (MkP W (n.kids (kindOf n keep (n.bs.length + 1)) (n.ens.insertIdx (placeIx b n.ens) (b, s, g))) 0) := by
  subst hk
  have hm1 : n.bs.length ≤ n.bs.length + 1 := Nat.le_succ _
  obtain ⟨W4, hW4⟩ : ∃ W4, W4 = (((W.alloc (.cells #[.int .i64 n.k, .string n.c, .string n.v, .string n.p, .slice ba n.bs.length bc, .slice ka n.rs.length kc] 26)).alloc (.cells #[.int .i64 s, .int .u32 g] 29)).alloc (.cells #[.int .i64 0, .string ⟨#[]⟩, .string ⟨#[]⟩, .string ⟨#[]⟩, .slice none 0 0, .slice none 0 0] 26)).alloc (.cells #[.int .i64 n.k, .string n.c, .string n.v, .string n.p, .slice ba n.bs.length bc, .slice ka n.rs.length kc] 49) := ⟨_, rfl⟩
  have X4 : Bx4 W W4 W.heap.size (W.heap.size + 1) (W.heap.size + 1 + 1) (W.heap.size + 1 + 1 + 1) n ba n.bs.length bc ka n.rs.length kc s g := by
    rw [hW4]
    exact ⟨Below.new (Below.new (Below.new (Below.new (Below.refl _ _) _) _) _) _, (((Fresh.new _ _ _ _ rfl).alloc _).alloc _).alloc _, ((Fresh.new _ _ _ _ (by simp)).alloc _).alloc _, (Fresh.new _ _ _ _ (by simp)).alloc _, Fresh.new _ _ _ _ (by simp), by omega⟩
  have H4 := h.below X4.low
  have HX := Lib.hid X4
  have HW4 := Lib.hid hW4
  have hv0 := X4.view (Below.refl _ _)
  have HRM := Lib.hid h.rm
  have HU := Lib.hid (vusable_any H4)
  have HH4 := Lib.hid H4
  rw [hu] at HU
  have HI := Lib.hid (fun w => impossible_any s g w)
  rw [hi] at HI
  have HCn := Lib.hid (fun w (hb : Below W4.heap.size W4 w) => contains_any (H4.b.below hb) H4.bl b)
  rw [hc] at HCn
  have HF := Lib.hid (fun w (hb : Below W4.heap.size W4 w) => full_any n.k n.c n.v n.p ba n.bs.length bc ka n.rs.length kc w (H4.rm.on hb))
  have hf' : decide ((n.bs.length : Int) = roomOf n.k) = false := hf
  rw [hf'] at HF
  clear hf'
  have HRow := Lib.hid (fun w (hb : Below W4.heap.size W4 w) => rowm_any (H4.below hb) he hr (n.bs.length + 1) hm1 hm2 R hR hRR)
  have HWith := Lib.hid (fun w (hb : Below W4.heap.size W4 w) (B p : Nat) (L : List En) (hL : L.length ≤ 256) (ht : MTab w B p L R) => withm_any (W := w) (n := n) (ba := ba) (bc := bc) (ka := ka) (kc := kc) true ht (H4.rm.on hb) hL H4.cl)
  have hmeth : ∀ (p : Addr) (w : World), (method 244 72 (.pointer (some p)) "Put").run Tryd.prog w = .ok (99, .pointer (some p)) w := methmPut 243
  have hsrt := ens_srt he hr
  have hin : isIn b n.ens = false := (mem_in he hr).trans hc
  have hel := ens_len he
  have hRle := (ofK_room hm2).2.1
  rw [hR] at hRle
  obtain ⟨L, hL⟩ : ∃ L, n.ens.insertIdx (placeIx b n.ens) (b, s, g) = L := ⟨_, rfl⟩
  have hLl : L.length = n.bs.length + 1 := by rw [← hL, List.length_insertIdx, if_pos (place_le _ _), hel]
  have hput : putS b s g n.ens R = L := by
    rw [← hL, putS, if_neg]
    rintro (h | h)
    · rw [hin] at h; cases h
    · rw [hel] at h; omega
  have HP := Lib.hid (fun w (B p : Nat) (ht : MTab w B p n.ens R) => mput_any ht b s g)
  rw [hput] at HP
  have hlen256 : L.length ≤ 256 := by omega
  have HL256 := Lib.hid hlen256
  have e1 : ((n.bs.length + 1 : Nat) : Int) = (n.bs.length : Int) + 1 := by omega
  simp only [e1] at HRow
  rw [hL]
  have HW' : Hid (∀ w, Below W4.heap.size W4 w → ∀ (B p : Nat), MTab w B p L R → Calls Tryd.prog 27 #[n.val ba bc ka kc, .iface 72 (.pointer (some ⟨p, 0, none⟩)), .bool true] w fun e w' => ∃ (m : No) (ba' : Option Addr) (bc' : Nat) (ka' : Option Addr) (kc' : Nat), m = n.kids (kindOf n true (n.bs.length + 1)) L ∧ e = .returned (m.val ba' bc' ka' kc') ∧ Below w.heap.size w w' ∧ NdAt w' m ba' bc' ka' kc') := by
    intro w hb B p ht
    refine (HWith.out w hb B p L hlen256 ht).mono ?_
    rw [hLl]
    rintro e w' ⟨ba', bc', ka', kc', h1, h2, h3⟩
    exact ⟨_, ba', bc', ka', kc', rfl, h1, h2, h3⟩
  have hbl : (n.bs.length : Int) < 256 := by omega
  have hbl0 : (0 : Int) ≤ (n.bs.length : Int) := by omega
  clear HWith hsrt hin hel hRle hL hLl hput hlen256 e1 hm1 hm2 hR hRR he hr
  have hv0' := hv0
  clear h X4 hW4 H4 hv0 
  unfold No.val ndv at *
  obtain ⟨v0, v1, v2, v3, v4, v5⟩ := hv0'
  go_enter Tryd.func9, Tryd.ntmps9
  go_upto_region 2 with fail
  rw [← HW4.out]
  go_wp2_with (first
    | (go_at_call 22; refine (HU.out).mono ?_; rintro e1 w1 ⟨rfl, hb⟩; have HB1 := Lib.hid hb; obtain ⟨r0, r1⟩ := HX.out.ref HB1.out; clear hb)
    | (go_at_call 23; refine (HI.out _).mono ?_; rintro e2 w2 ⟨rfl, hb⟩; have HB2 := Lib.hid (Below.step HB1.out hb); obtain ⟨a0, a1, a2, a3, a4, a5⟩ := HX.out.node HB2.out; clear hb)
    | (go_at_call 24; refine (HCn.out _ HB2.out).mono ?_; rintro e3 w3 ⟨rfl, hb⟩; have HB3 := Lib.hid (Below.step HB2.out hb); obtain ⟨v0, v1, v2, v3, v4, v5⟩ := HX.out.view HB3.out; obtain ⟨a0, a1, a2, a3, a4, a5⟩ := HX.out.node HB3.out; clear hb)
    | (go_at_call 25; refine (HF.out _ HB3.out).mono ?_; rintro e4 w4 ⟨rfl, hb⟩; have HB4 := Lib.hid (Below.step HB3.out hb); obtain ⟨v0, v1, v2, v3, v4, v5⟩ := HX.out.view HB4.out; obtain ⟨a0, a1, a2, a3, a4, a5⟩ := HX.out.node HB4.out; clear hb)
    | (go_at_call 26; refine (HRow.out _ HB4.out).mono ?_; rintro e5 w5 ⟨pt, rfl, hb, ht⟩; have HT5 := Lib.hid ht; have HB5 := Lib.hid (Below.step HB4.out hb); obtain ⟨r0, r1⟩ := HX.out.ref HB5.out; clear hb ht)
    | (go_at_call 99; refine (HP.out _ _ _ HT5.out).mono ?_; rintro e6 w6 ⟨rfl, hb, ht⟩; have HT6 := Lib.hid ht; have HB6 := Lib.hid (HB5.out.trans (hb.mono HB4.out.size)); obtain ⟨v0, v1, v2, v3, v4, v5⟩ := HX.out.view HB6.out; clear hb ht)
    | (go_at_call 27; refine (HW'.out _ HB6.out _ _ HT6.out).mono ?_; rintro e7 w7 ⟨m, ba', bc', ka', kc', hm, rfl, hb, hnd⟩; have HM := Lib.hid hm; have HND := Lib.hid hnd; have HB7 := Lib.hid (Below.step HB6.out hb); obtain ⟨⟨z0, z1, z2, z3, z4, z5⟩, y0, y1, y2, y3, y4, y5⟩ := HX.out.res HB7.out; clear hb hnd hm))
  rw [← HM.out]
  obtain ⟨T9, B9, q0, q1, q2, q3, q4, q5⟩ := HX.out.fin HB7.out (.int .i64 m.k) (.string m.c) (.string m.v) (.string m.p) (.slice ba' m.bs.length bc') (.slice ka' m.rs.length kc') rfl
  exact bodyPost_ret (v := .tuple #[.agg #[.int .i64 m.k, .string m.c, .string m.v, .string m.p, .slice ba' m.bs.length bc', .slice ka' m.rs.length kc'], .int .i64 0]) (by rw [results_cell_tmp rfl]; simp [go_sem, q0, q1, q2, q3, q4, q5]) rfl ⟨ba', bc', ka', kc', rfl, B9, NdAt.turned HND.out T9 (HRM.out.on B9) (HX.out.f2.below HB7.out)⟩

end
end Go.Proofs.YtjaijomkdgoenaaDoor.Nd
