/- NodeBack over a right inner node (printed by mkback.py). -/
import Derived.Test.YtjaijomkdgoenaaDoorNdBackA
namespace Go.Proofs.YtjaijomkdgoenaaDoor.Nd
open Go.RowKit
open Mn
set_option maxRecDepth 1000000
set_option maxHeartbeats 4000000
section
variable {W : World} {k : Int} {p : ByteArray} {l : List En} {ba : Option Addr} {m bc : Nat} {ka : Option Addr} {kc : Nat}
theorem nbFind_any (hm : l.length = m) (h : NdAt W (nb k p l) ba bc ka kc) (hu : (nb k p l).usable = true) (b : UInt8) :
    Calls Tryd.prog 8 #[.agg #[.int .i64 k, .string ⟨#[]⟩, .string ⟨#[]⟩, .string p, .slice ba m bc, .slice ka m kc], .int .u8 (b.toNat : Int)] W fun e w' => e = .returned (.tuple #[refOf b l, .bool (isIn b l)]) ∧ Below W.heap.size W w' := by
  have h1 := find_any h hu b
  rw [nb_ens, nb_val hm] at h1
  exact h1
theorem nbTurn_any (hm : l.length = m) (h : NdAt W (nb k p l) ba bc ka kc) (b : UInt8) (s g : Int) :
    Calls Tryd.prog 11 #[.agg #[.int .i64 k, .string ⟨#[]⟩, .string ⟨#[]⟩, .string p, .slice ba m bc, .slice ka m kc], .int .u8 (b.toNat : Int), .agg #[.int .i64 s, .int .u32 g]] W (MkP W (turnN (nb k p l) b s g) (turnE (nb k p l) b s g)) := by
  rw [← nb_val hm]; exact turn_any' h b s g
theorem nbSame_any (hm : l.length = m) (h : NdAt W (nb k p l) ba bc ka kc) {ba2 : Option Addr} {bc2 : Nat} {ka2 : Option Addr} {kc2 : Nat} (h2 : NdAt W (nb k p l) ba2 bc2 ka2 kc2) :
    Calls Tryd.prog 12 #[.agg #[.int .i64 k, .string ⟨#[]⟩, .string ⟨#[]⟩, .string p, .slice ba m bc, .slice ka m kc], .agg #[.int .i64 k, .string ⟨#[]⟩, .string ⟨#[]⟩, .string p, .slice ba2 m bc2, .slice ka2 m kc2]] W fun e w' => e = .returned (.bool true) ∧ Below W.heap.size W w' := by
  have h1 := sameNode_any h h2
  rw [nb_val hm, nb_val hm] at h1
  exact h1
theorem nbGreat_any (hp : (p.size : Int) ≤ 34) (hm : m ≤ 256) (w : World) :
    Calls Tryd.prog 6 #[.agg #[.int .i64 k, .string ⟨#[]⟩, .string ⟨#[]⟩, .string p, .slice ba m bc, .slice ka m kc]] w fun e w' => e = .returned (.bool false) ∧ Below w.heap.size w w' := by
  have h1 := great_any k ⟨#[]⟩ ⟨#[]⟩ p ba m bc ka m kc w (by decide) (by decide) (by omega)
  have h2 : greatB m m ⟨#[]⟩ ⟨#[]⟩ p = false := by
    unfold greatB
    have e0 : (⟨#[]⟩ : ByteArray).size = 0 := rfl
    rw [e0, decide_eq_false (by omega), decide_eq_false (by omega)]
    rfl
  rw [h2] at h1
  exact h1
/-- The boxes of NodeBack's arguments. -/
structure Bn (W W4 : World) (k : Int) (p : ByteArray) (l : List En) (ba : Option Addr) (m bc : Nat) (ka : Option Addr) (kc : Nat) (rs rg ss sg : Int) : Prop where
  low : Below W.heap.size W W4
  n0 : NBx W4 W.heap.size k p l ba m bc ka kc
  f1 : Fresh W4 (W.heap.size + 1) #[.int .i64 rs, .int .u32 rg] 29
  f2 : Fresh W4 (W.heap.size + 1 + 1) #[.int .i64 ss, .int .u32 sg] 29
theorem Bn.mk' (hm : l.length = m) (h : NdAt W (nb k p l) ba bc ka kc) (rs rg ss sg : Int) : Bn W (((W.alloc (.cells #[.int .i64 k, .string ⟨#[]⟩, .string ⟨#[]⟩, .string p, .slice ba m bc, .slice ka m kc] 26)).alloc (.cells #[.int .i64 rs, .int .u32 rg] 29)).alloc (.cells #[.int .i64 ss, .int .u32 sg] 29)) k p l ba m bc ka kc rs rg ss sg :=
  ⟨Below.new (Below.new (Below.new (Below.refl _ _) _) _) _, ((NBx.new hm h).below (Below.new (Below.refl _ _) _)).below (Below.new (Below.refl _ _) _), (Fresh.new _ _ _ _ (by simp)).alloc _, Fresh.new _ _ _ _ (by simp)⟩
theorem Bn.node {W4 w : World} {rs rg ss sg : Int} (h : Bn W W4 k p l ba m bc ka kc rs rg ss sg) (hb : Below W4.heap.size W4 w) :
    w.cell? ⟨W.heap.size, 0, none⟩ = some (.int .i64 k) ∧ w.cell? ⟨W.heap.size, 1, none⟩ = some (.string ⟨#[]⟩) ∧ w.cell? ⟨W.heap.size, 2, none⟩ = some (.string ⟨#[]⟩) ∧ w.cell? ⟨W.heap.size, 3, none⟩ = some (.string p) ∧ w.cell? ⟨W.heap.size, 4, none⟩ = some (.slice ba m bc) ∧ w.cell? ⟨W.heap.size, 5, none⟩ = some (.slice ka m kc) := (h.n0.below hb).cells.1
theorem Bn.refs {W4 w : World} {rs rg ss sg : Int} (h : Bn W W4 k p l ba m bc ka kc rs rg ss sg) (hb : Below W4.heap.size W4 w) :
    (w.cell? ⟨W.heap.size + 1, 0, none⟩ = some (.int .i64 rs) ∧ w.cell? ⟨W.heap.size + 1, 1, none⟩ = some (.int .u32 rg)) ∧ (w.cell? ⟨W.heap.size + 1 + 1, 0, none⟩ = some (.int .i64 ss) ∧ w.cell? ⟨W.heap.size + 1 + 1, 1, none⟩ = some (.int .u32 sg)) :=
  ⟨⟨(h.f1.below hb).cell 0, (h.f1.below hb).cell 1⟩, (h.f2.below hb).cell 0, (h.f2.below hb).cell 1⟩
theorem back_e1 (hm : l.length = m) (h : NdAt W (nb k p l) ba bc ka kc) (hr : (nb k p l).rightInner = true) (hk1 : ¬ k = 1) (b : UInt8) (rs rg ss sg : Int) (hc : isIn b l = true) (hE : addE (nb k p l) b rs rg false = 4) :
    Calls Tryd.prog 3 #[.agg #[.int .i64 k, .string ⟨#[]⟩, .string ⟨#[]⟩, .string p, .slice ba m bc, .slice ka m kc], .int .u8 (b.toNat : Int), .agg #[.int .i64 rs, .int .u32 rg], .agg #[.int .i64 ss, .int .u32 sg]] W fun e w' => e = .returned (.bool true) ∧ Below W.heap.size W w' := by
  have hu := usable_of_right hr
  obtain ⟨hk0, hp34, hlk, hsrt, hok⟩ := nb_inner.1 (usable_inner hu)
  have hl256 : l.length ≤ 256 := by have := room_le k; omega
  obtain ⟨W4, hW4⟩ : ∃ W4, W4 = ((W.alloc (.cells #[.int .i64 k, .string ⟨#[]⟩, .string ⟨#[]⟩, .string p, .slice ba m bc, .slice ka m kc] 26)).alloc (.cells #[.int .i64 rs, .int .u32 rg] 29)).alloc (.cells #[.int .i64 ss, .int .u32 sg] 29) := ⟨_, rfl⟩
  have X4 : Bn W W4 k p l ba m bc ka kc rs rg ss sg := by rw [hW4]; exact Bn.mk' hm h rs rg ss sg
  have HX := Lib.hid X4
  have HW4 := Lib.hid hW4
  have HAw := Lib.hid (awake_any W4 (h.rm.on X4.low))
  have HG := Lib.hid (fun w => nbGreat_any (k := k) (p := p) (ba := ba) (m := m) (bc := bc) (ka := ka) (kc := kc) hp34 (by omega) w)
  have HR := Lib.hid (fun w (hb : Below W4.heap.size W4 w) => nbRight_any hm (X4.n0.nd.below hb))
  rw [right_of_right hr] at HR
  have HF := Lib.hid (fun w (hb : Below W4.heap.size W4 w) => nbFind_any hm (X4.n0.nd.below hb) hu b)
  have dk1 : decide (k = 1) = false := decide_eq_false hk1
  have hN : addN (nb k p l) b rs rg false = zeroNo := by unfold addN; rw [hE]; exact if_neg (by decide)
  have HA := Lib.hid (fun w (hb : Below W4.heap.size W4 w) => nbAdd_any hm (X4.n0.nd.below hb) b rs rg false)
  rw [hE, hN] at HA
  obtain ⟨fs, fg, hf⟩ := refOf_agg b l
  rw [hf, hc] at HF
  clear hm h hr hu hk0 hp34 hlk hsrt hok hl256 X4 hW4 hE hN hc hf
  go_enter Tryd.func3, Tryd.ntmps3
  go_upto_region 1 with fail
  rw [← HW4.out]
  go_wp2_with (first
    | (go_at_call 5; refine HAw.out.mono ?_; rintro e1 w1 ⟨rfl, hb⟩; have HB1 := Lib.hid hb; obtain ⟨x0, x1, x2, x3, x4, x5⟩ := HX.out.node HB1.out; clear hb)
    | (go_at_call 6; refine (HG.out _).mono ?_; rintro e2 w2 ⟨rfl, hb⟩; have HB2 := Lib.hid (Below.step HB1.out hb); obtain ⟨x0, x1, x2, x3, x4, x5⟩ := HX.out.node HB2.out; clear hb)
    | (go_at_call 7; refine (HR.out _ HB2.out).mono ?_; rintro e3 w3 ⟨rfl, hb⟩; have HB3 := Lib.hid (Below.step HB2.out hb); obtain ⟨x0, x1, x2, x3, x4, x5⟩ := HX.out.node HB3.out; clear hb)
    | (go_at_call 8; refine (HF.out _ HB3.out).mono ?_; rintro e4 w4 ⟨rfl, hb⟩; have HB4 := Lib.hid (Below.new (Below.step HB3.out hb) (.cells #[.int .i64 fs, .int .u32 fg] 29)); obtain ⟨x0, x1, x2, x3, x4, x5⟩ := HX.out.node HB4.out; obtain ⟨⟨r0, r1⟩, s0, s1⟩ := HX.out.refs HB4.out; clear hb)
    | (go_at_call 9; refine (HA.out _ HB4.out).mono ?_; unfold MkP zeroNo No.val ndv; rintro e5 w5 ⟨ba5, bc5, ka5, kc5, rfl, hb, hn5⟩; have HB5 := Lib.hid (Below.new (Below.step HB4.out hb) (.cells #[.int .i64 0, .string ⟨#[]⟩, .string ⟨#[]⟩, .string ⟨#[]⟩, .slice ba5 0 bc5, .slice ka5 0 kc5] 26)); obtain ⟨x0, x1, x2, x3, x4, x5⟩ := HX.out.node HB5.out; clear hb hn5))
  go_ret
  exact ⟨by first | rfl | simp, Below.step HX.out.low HB5.out⟩

theorem back_e2 (hm : l.length = m) (h : NdAt W (nb k p l) ba bc ka kc) (hr : (nb k p l).rightInner = true) (hk1 : ¬ k = 1) (b : UInt8) (rs rg ss sg : Int) (hc : isIn b l = false) (hE : addE (nb k p l) b rs rg false = 4) :
    Calls Tryd.prog 3 #[.agg #[.int .i64 k, .string ⟨#[]⟩, .string ⟨#[]⟩, .string p, .slice ba m bc, .slice ka m kc], .int .u8 (b.toNat : Int), .agg #[.int .i64 rs, .int .u32 rg], .agg #[.int .i64 ss, .int .u32 sg]] W fun e w' => e = .returned (.bool true) ∧ Below W.heap.size W w' := by
  have hu := usable_of_right hr
  obtain ⟨hk0, hp34, hlk, hsrt, hok⟩ := nb_inner.1 (usable_inner hu)
  have hl256 : l.length ≤ 256 := by have := room_le k; omega
  obtain ⟨W4, hW4⟩ : ∃ W4, W4 = ((W.alloc (.cells #[.int .i64 k, .string ⟨#[]⟩, .string ⟨#[]⟩, .string p, .slice ba m bc, .slice ka m kc] 26)).alloc (.cells #[.int .i64 rs, .int .u32 rg] 29)).alloc (.cells #[.int .i64 ss, .int .u32 sg] 29) := ⟨_, rfl⟩
  have X4 : Bn W W4 k p l ba m bc ka kc rs rg ss sg := by rw [hW4]; exact Bn.mk' hm h rs rg ss sg
  have HX := Lib.hid X4
  have HW4 := Lib.hid hW4
  have HAw := Lib.hid (awake_any W4 (h.rm.on X4.low))
  have HG := Lib.hid (fun w => nbGreat_any (k := k) (p := p) (ba := ba) (m := m) (bc := bc) (ka := ka) (kc := kc) hp34 (by omega) w)
  have HR := Lib.hid (fun w (hb : Below W4.heap.size W4 w) => nbRight_any hm (X4.n0.nd.below hb))
  rw [right_of_right hr] at HR
  have HF := Lib.hid (fun w (hb : Below W4.heap.size W4 w) => nbFind_any hm (X4.n0.nd.below hb) hu b)
  have dk1 : decide (k = 1) = false := decide_eq_false hk1
  have hN : addN (nb k p l) b rs rg false = zeroNo := by unfold addN; rw [hE]; exact if_neg (by decide)
  have HA := Lib.hid (fun w (hb : Below W4.heap.size W4 w) => nbAdd_any hm (X4.n0.nd.below hb) b rs rg false)
  rw [hE, hN] at HA
  obtain ⟨fs, fg, hf⟩ := refOf_agg b l
  rw [hf, hc] at HF
  clear hm h hr hu hk0 hp34 hlk hsrt hok hl256 X4 hW4 hE hN hc hf
  go_enter Tryd.func3, Tryd.ntmps3
  go_upto_region 1 with fail
  rw [← HW4.out]
  go_wp2_with (first
    | (go_at_call 5; refine HAw.out.mono ?_; rintro e1 w1 ⟨rfl, hb⟩; have HB1 := Lib.hid hb; obtain ⟨x0, x1, x2, x3, x4, x5⟩ := HX.out.node HB1.out; clear hb)
    | (go_at_call 6; refine (HG.out _).mono ?_; rintro e2 w2 ⟨rfl, hb⟩; have HB2 := Lib.hid (Below.step HB1.out hb); obtain ⟨x0, x1, x2, x3, x4, x5⟩ := HX.out.node HB2.out; clear hb)
    | (go_at_call 7; refine (HR.out _ HB2.out).mono ?_; rintro e3 w3 ⟨rfl, hb⟩; have HB3 := Lib.hid (Below.step HB2.out hb); obtain ⟨x0, x1, x2, x3, x4, x5⟩ := HX.out.node HB3.out; clear hb)
    | (go_at_call 8; refine (HF.out _ HB3.out).mono ?_; rintro e4 w4 ⟨rfl, hb⟩; have HB4 := Lib.hid (Below.new (Below.step HB3.out hb) (.cells #[.int .i64 fs, .int .u32 fg] 29)); obtain ⟨x0, x1, x2, x3, x4, x5⟩ := HX.out.node HB4.out; obtain ⟨⟨r0, r1⟩, s0, s1⟩ := HX.out.refs HB4.out; clear hb)
    | (go_at_call 9; refine (HA.out _ HB4.out).mono ?_; unfold MkP zeroNo No.val ndv; rintro e5 w5 ⟨ba5, bc5, ka5, kc5, rfl, hb, hn5⟩; have HB5 := Lib.hid (Below.new (Below.step HB4.out hb) (.cells #[.int .i64 0, .string ⟨#[]⟩, .string ⟨#[]⟩, .string ⟨#[]⟩, .slice ba5 0 bc5, .slice ka5 0 kc5] 26)); obtain ⟨x0, x1, x2, x3, x4, x5⟩ := HX.out.node HB5.out; clear hb hn5))
  go_ret
  exact ⟨by first | rfl | simp, Below.step HX.out.low HB5.out⟩

theorem back_e3 (hm : l.length = m) (h : NdAt W (nb k p l) ba bc ka kc) (hr : (nb k p l).rightInner = true) (hk1 : ¬ k = 1) (b : UInt8) (rs rg ss sg : Int) (hc : isIn b l = true) (hE : addE (nb k p l) b rs rg false = 8) :
    Calls Tryd.prog 3 #[.agg #[.int .i64 k, .string ⟨#[]⟩, .string ⟨#[]⟩, .string p, .slice ba m bc, .slice ka m kc], .int .u8 (b.toNat : Int), .agg #[.int .i64 rs, .int .u32 rg], .agg #[.int .i64 ss, .int .u32 sg]] W fun e w' => e = .returned (.bool true) ∧ Below W.heap.size W w' := by
  have hu := usable_of_right hr
  obtain ⟨hk0, hp34, hlk, hsrt, hok⟩ := nb_inner.1 (usable_inner hu)
  have hl256 : l.length ≤ 256 := by have := room_le k; omega
  obtain ⟨W4, hW4⟩ : ∃ W4, W4 = ((W.alloc (.cells #[.int .i64 k, .string ⟨#[]⟩, .string ⟨#[]⟩, .string p, .slice ba m bc, .slice ka m kc] 26)).alloc (.cells #[.int .i64 rs, .int .u32 rg] 29)).alloc (.cells #[.int .i64 ss, .int .u32 sg] 29) := ⟨_, rfl⟩
  have X4 : Bn W W4 k p l ba m bc ka kc rs rg ss sg := by rw [hW4]; exact Bn.mk' hm h rs rg ss sg
  have HX := Lib.hid X4
  have HW4 := Lib.hid hW4
  have HAw := Lib.hid (awake_any W4 (h.rm.on X4.low))
  have HG := Lib.hid (fun w => nbGreat_any (k := k) (p := p) (ba := ba) (m := m) (bc := bc) (ka := ka) (kc := kc) hp34 (by omega) w)
  have HR := Lib.hid (fun w (hb : Below W4.heap.size W4 w) => nbRight_any hm (X4.n0.nd.below hb))
  rw [right_of_right hr] at HR
  have HF := Lib.hid (fun w (hb : Below W4.heap.size W4 w) => nbFind_any hm (X4.n0.nd.below hb) hu b)
  have dk1 : decide (k = 1) = false := decide_eq_false hk1
  have hN : addN (nb k p l) b rs rg false = zeroNo := by unfold addN; rw [hE]; exact if_neg (by decide)
  have HA := Lib.hid (fun w (hb : Below W4.heap.size W4 w) => nbAdd_any hm (X4.n0.nd.below hb) b rs rg false)
  rw [hE, hN] at HA
  obtain ⟨fs, fg, hf⟩ := refOf_agg b l
  rw [hf, hc] at HF
  clear hm h hr hu hk0 hp34 hlk hsrt hok hl256 X4 hW4 hE hN hc hf
  go_enter Tryd.func3, Tryd.ntmps3
  go_upto_region 1 with fail
  rw [← HW4.out]
  go_wp2_with (first
    | (go_at_call 5; refine HAw.out.mono ?_; rintro e1 w1 ⟨rfl, hb⟩; have HB1 := Lib.hid hb; obtain ⟨x0, x1, x2, x3, x4, x5⟩ := HX.out.node HB1.out; clear hb)
    | (go_at_call 6; refine (HG.out _).mono ?_; rintro e2 w2 ⟨rfl, hb⟩; have HB2 := Lib.hid (Below.step HB1.out hb); obtain ⟨x0, x1, x2, x3, x4, x5⟩ := HX.out.node HB2.out; clear hb)
    | (go_at_call 7; refine (HR.out _ HB2.out).mono ?_; rintro e3 w3 ⟨rfl, hb⟩; have HB3 := Lib.hid (Below.step HB2.out hb); obtain ⟨x0, x1, x2, x3, x4, x5⟩ := HX.out.node HB3.out; clear hb)
    | (go_at_call 8; refine (HF.out _ HB3.out).mono ?_; rintro e4 w4 ⟨rfl, hb⟩; have HB4 := Lib.hid (Below.new (Below.step HB3.out hb) (.cells #[.int .i64 fs, .int .u32 fg] 29)); obtain ⟨x0, x1, x2, x3, x4, x5⟩ := HX.out.node HB4.out; obtain ⟨⟨r0, r1⟩, s0, s1⟩ := HX.out.refs HB4.out; clear hb)
    | (go_at_call 9; refine (HA.out _ HB4.out).mono ?_; unfold MkP zeroNo No.val ndv; rintro e5 w5 ⟨ba5, bc5, ka5, kc5, rfl, hb, hn5⟩; have HB5 := Lib.hid (Below.new (Below.step HB4.out hb) (.cells #[.int .i64 0, .string ⟨#[]⟩, .string ⟨#[]⟩, .string ⟨#[]⟩, .slice ba5 0 bc5, .slice ka5 0 kc5] 26)); obtain ⟨x0, x1, x2, x3, x4, x5⟩ := HX.out.node HB5.out; clear hb hn5))
  go_ret
  exact ⟨by first | rfl | simp, Below.step HX.out.low HB5.out⟩

end
end Go.Proofs.YtjaijomkdgoenaaDoor.Nd
