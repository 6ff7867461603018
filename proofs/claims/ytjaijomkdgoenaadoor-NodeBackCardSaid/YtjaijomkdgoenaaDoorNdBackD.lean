/- NodeBack over a right inner node to which a kid is added (printed by mkback2.py). -/
import Derived.Test.YtjaijomkdgoenaaDoorNdBackC
import Derived.Deep.DeepCutAuto
import Derived.Deep.RegionHeld3
import Derived.Lib.QuietBelow
import Derived.BigQuiet
import Derived.Deep.QuietTactic
namespace Go.Proofs.YtjaijomkdgoenaaDoor.Nd
open Go.RowKit
open Mn
set_option maxRecDepth 1000000
set_option maxHeartbeats 4000000
section
variable {W : World} {k : Int} {p : ByteArray} {l : List En} {ba : Option Addr} {m bc : Nat} {ka : Option Addr} {kc : Nat}
theorem back_okni (hm : l.length = m) (h : NdAt W (nb k p l) ba bc ka kc) (hr : (nb k p l).rightInner = true) (hk1 : ¬ k = 1) (b : UInt8) (rs rg ss sg : Int) (hc : isIn b l = false) (hi : impR rs rg = false) (hl2 : l.length < 256) (his : impR ss sg = true) (k2 : Int) (hk2 : (ofK ((l.length + 1 : Nat) : Int)).1 = k2) (hfull : (l.length : Int) ≠ roomOf k) :
    Calls Tryd.prog 3 #[.agg #[.int .i64 k, .string ⟨#[]⟩, .string ⟨#[]⟩, .string p, .slice ba m bc, .slice ka m kc], .int .u8 (b.toNat : Int), .agg #[.int .i64 rs, .int .u32 rg], .agg #[.int .i64 ss, .int .u32 sg]] W fun e w' => e = .returned (.bool true) ∧ Below W.heap.size W w' := by
  have hu := usable_of_right hr
  obtain ⟨hk0, hp34, hlk, hsrt, hok⟩ := nb_inner.1 (usable_inner hu)
  have hl256 : l.length ≤ 256 := by have := room_le k; omega
  obtain ⟨W4, hW4⟩ : ∃ W4, W4 = ((W.alloc (.cells #[.int .i64 k, .string ⟨#[]⟩, .string ⟨#[]⟩, .string p, .slice ba m bc, .slice ka m kc] 26)).alloc (.cells #[.int .i64 rs, .int .u32 rg] 29)).alloc (.cells #[.int .i64 ss, .int .u32 sg] 29) := ⟨_, rfl⟩
  have X4 : Bn W W4 k p l ba m bc ka kc rs rg ss sg := by rw [hW4]; exact Bn.mk' hm h rs rg ss sg
  have HX := Lib.hid X4
  have HW4 := Lib.hid hW4
  have HAw := Lib.hid (awake_any W4 (h.rm.on X4.low))
  have HG := Lib.hid (fun w => nbGreat_any (k := k) (p := p) (ba := ba) (m := m) (bc := bc) (ka := ka) (kc := kc) hp34 (by omega) w)
  have HR := Lib.hid (fun w (hb : Below W4.heap.size W4 w) => nbRight_any hm (X4.n0.nd.below hb))
  rw [right_of_right hr] at HR
  have HF := Lib.hid (fun w (hb : Below W4.heap.size W4 w) => nbFind_any hm (X4.n0.nd.below hb) hu b)
  have dk1 : decide (k = 1) = false := decide_eq_false hk1
  obtain ⟨hkk1, hkk2, hkk3⟩ := right_kind hr
  rw [nb_len] at hkk1 hkk2 hkk3
  have hkk2 : (ofK (l.length : Int)).1 = k := hkk2
  have hke : k2 = k := by
    have := (ofK_next hl2).2 (by rw [hkk2]; exact hfull)
    rw [hk2, hkk2] at this
    exact this
  rw [hke] at hk2
  clear hke k2
  obtain ⟨L, hL⟩ : ∃ L, l.insertIdx (placeIx b l) (b, rs, rg) = L := ⟨_, rfl⟩
  have hLl : L.length = m + 1 := by rw [← hL, List.length_insertIdx, if_pos (place_le _ _), hm]
  have hLs : Srt L := by rw [← hL]; exact srt_insert hsrt hc rs rg
  have hLo : okR L := by rw [← hL]; exact okR_put hok hi _ (place_le _ _)
  obtain ⟨hLi, hLa⟩ := put_at (s := rs) (g := rg) hsrt hc
  rw [hL] at hLi hLa
  have hLt := put_take (s := rs) (g := rg) hsrt hc
  rw [hL] at hLt
  have hmk : (ofK (L.length : Int)).1 = k := by rw [hLl, ← hm]; exact hk2
  have hmr : (nb k p L).rightInner = true := by
    have := nb_right (p := p) (l := L) hp34 (by omega) (by omega) hLs hLo
    rw [hmk] at this
    exact this
  have hmu := usable_of_right hmr
  obtain ⟨hE, hN⟩ := nb_add hu hi hc false (by simp)
  rw [hL] at hN
  have hN : addN (nb k p l) b rs rg false = nb k p L := by rw [hN]; show nb (ofK ((l.length + 1 : Nat) : Int)).1 p L = _; rw [hk2]
  have HA : Hid (∀ w, Below W4.heap.size W4 w → Calls Tryd.prog 9 #[.agg #[.int .i64 k, .string ⟨#[]⟩, .string ⟨#[]⟩, .string p, .slice ba m bc, .slice ka m kc], .int .u8 (b.toNat : Int), .agg #[.int .i64 rs, .int .u32 rg], .bool false] w fun e w' => ∃ ba5 bc5 ka5 kc5, e = .returned (.tuple #[.agg #[.int .i64 k, .string ⟨#[]⟩, .string ⟨#[]⟩, .string p, .slice ba5 (m + 1) bc5, .slice ka5 (m + 1) kc5], .int .i64 0]) ∧ Below w.heap.size w w' ∧ NdAt w' (nb k p L) ba5 bc5 ka5 kc5) := by
    intro w hb
    have h1 := nbAdd_any hm (X4.n0.nd.below hb) b rs rg false
    rw [hE, hN] at h1
    exact h1.mono fun e w' h => mk_nb hLl h
  have hfo : refOf b l = refV 0 0 := by rw [refOf, if_neg (by rw [hc]; simp)]
  rw [hfo, hc] at HF
  have hfL : refOf b L = refV rs rg := by rw [refOf, if_pos hLi, hLa]
  obtain ⟨hC1, hC2⟩ := nb_cut hmu hLi false
  have hC2 : cutN (nb k p L) b false = nb k p l := by
    rw [hC2, hLt]
    show nb (ofK ((L.length - 1 : Nat) : Int)).1 p l = _
    rw [hLl, Nat.add_sub_cancel, ← hm, hkk2]
  have hT1 : turnE (nb k p L) b ss sg = 4 := by unfold turnE; exact if_pos (.inr his)
  have hT2 : turnN (nb k p L) b ss sg = zeroNo := by unfold turnN; rw [hT1]; exact if_neg (by decide)
  have hroomL : (m : Int) + 1 ≤ roomOf k := by
    have := (roomK (m := L.length) (by omega)).2
    rw [hmk, hLl] at this
    omega
  have hm0 : (m : Int) < 256 := by omega
  have hm1 : (0 : Int) ≤ (m : Int) := by omega
  have HFull := Lib.hid (fun w (hb : Below W4.heap.size W4 w) => nbFull_any hm (X4.n0.nd.below hb))
  have hfl : (nb k p l).full = false := by unfold No.full; rw [nb_len]; exact decide_eq_false hfull
  rw [hu, hfl] at HFull
  have HRM4 : Hid (Rm W4) := h.rm.on X4.low
  have HX0 := Lib.hid X4.n0
  have HSL := Lib.hid (And.intro hm (And.intro hLl (And.intro hsrt (And.intro hLs hmu))))
  have HEL : Hid (∀ x ∈ l, isIn x.1 L = true ∧ atOf x.1 L = x) := by
    intro x hx
    refine mem_at hLs ?_
    rw [← hL, List.mem_insertIdx (place_le _ _)]
    exact .inr hx
  have HC2 := Lib.hid (And.intro hC1 hC2)
  have HLF := Lib.hid (And.intro hfL hLi)
  have HT2 := Lib.hid (And.intro hT1 hT2)
  have HMR := Lib.hid (right_of_right hmr)
  clear hm h hr hu hk0 hp34 hlk hsrt hok hl256 X4 hW4 hE hN hc hi hfo hfL hC1 hC2 hLl hLs hLo hLi hLa hLt hmk hmr hmu hT1 hT2 hfl hkk1 hkk2 hkk3 hk2 hfull hl2 his hL
  go_enter Tryd.func3, Tryd.ntmps3
  go_upto_region 1 with fail
  rw [← HW4.out]
  go_upto_region 5 with (first
    | (go_at_call 5; refine HAw.out.mono ?_; rintro e1 w1 ⟨rfl, hb⟩; have HB1 := Lib.hid hb; obtain ⟨x0, x1, x2, x3, x4, x5⟩ := HX.out.node HB1.out; clear hb)
    | (go_at_call 6; refine (HG.out _).mono ?_; rintro e2 w2 ⟨rfl, hb⟩; have HB2 := Lib.hid (Below.step HB1.out hb); obtain ⟨x0, x1, x2, x3, x4, x5⟩ := HX.out.node HB2.out; clear hb)
    | (go_at_call 7; refine (HR.out _ HB2.out).mono ?_; rintro e3 w3 ⟨rfl, hb⟩; have HB3 := Lib.hid (Below.step HB2.out hb); obtain ⟨x0, x1, x2, x3, x4, x5⟩ := HX.out.node HB3.out; clear hb))
  go_upto_region 7 with (first
    | (go_at_call 8; refine (HF.out _ HB3.out).mono ?_; rintro e4 w4 ⟨rfl, hb⟩; have HB4 := Lib.hid (Below.new (Below.step HB3.out hb) (.cells #[.int .i64 0, .int .u32 0] 29)); obtain ⟨x0, x1, x2, x3, x4, x5⟩ := HX.out.node HB4.out; obtain ⟨⟨r0, r1⟩, s0, s1⟩ := HX.out.refs HB4.out; clear hb)
    | (go_at_call 9; refine (HA.out _ HB4.out).mono ?_; rintro e5 w5 ⟨ba5, bc5, ka5, kc5, rfl, hb, hn5⟩; have HB5 := Lib.hid (Below.new (Below.step HB4.out hb) (.cells #[.int .i64 k, .string ⟨#[]⟩, .string ⟨#[]⟩, .string p, .slice ba5 (m + 1) bc5, .slice ka5 (m + 1) kc5] 26)); have HN5 := Lib.hid (NBx.new HSL.out.2.1 hn5); clear hb hn5))
  obtain ⟨P11, hP11⟩ : ∃ P, w5.heap.size = P := ⟨_, rfl⟩
  obtain ⟨W6, hW6⟩ : ∃ W6, W6 = w5.alloc (.cells #[.int .i64 k, .string ⟨#[]⟩, .string ⟨#[]⟩, .string p, .slice ba5 (m + 1) bc5, .slice ka5 (m + 1) kc5] 26) := ⟨_, rfl⟩
  rw [← hW6] at HB5 HN5 ⊢
  rw [hP11] at HN5 ⊢
  clear hW6 hP11 x0 x1 x2 x3 x4 x5 r0 r1 s0 s1 HF HA HR HG HAw HW4
  have HF2 : Hid (∀ w, Below W6.heap.size W6 w → ∀ c : UInt8, Calls Tryd.prog 8 #[.agg #[.int .i64 k, .string ⟨#[]⟩, .string ⟨#[]⟩, .string p, .slice ba5 (m + 1) bc5, .slice ka5 (m + 1) kc5], .int .u8 (c.toNat : Int)] w fun e w' => e = .returned (.tuple #[refOf c L, .bool (isIn c L)]) ∧ Below w.heap.size w w') := fun w hb c => nbFind_any HSL.out.2.1 (HN5.out.nd.below hb) HSL.out.2.2.2.2 c
  have HF3 : Hid (∀ w, Below W6.heap.size W6 w → Calls Tryd.prog 8 #[.agg #[.int .i64 k, .string ⟨#[]⟩, .string ⟨#[]⟩, .string p, .slice ba5 (m + 1) bc5, .slice ka5 (m + 1) kc5], .int .u8 (b.toNat : Int)] w fun e w' => e = .returned (.tuple #[refV rs rg, .bool true]) ∧ Below w.heap.size w w') := by
    intro w hb
    have h1 := HF2.out w hb b
    rw [HLF.out.1, HLF.out.2] at h1
    exact h1
  have HCu : Hid (∀ w, Below W6.heap.size W6 w → Calls Tryd.prog 10 #[.agg #[.int .i64 k, .string ⟨#[]⟩, .string ⟨#[]⟩, .string p, .slice ba5 (m + 1) bc5, .slice ka5 (m + 1) kc5], .int .u8 (b.toNat : Int), .bool false] w fun e w' => ∃ ba6 bc6 ka6 kc6, e = .returned (.tuple #[.agg #[.int .i64 k, .string ⟨#[]⟩, .string ⟨#[]⟩, .string p, .slice ba6 m bc6, .slice ka6 m kc6], .int .i64 0]) ∧ Below w.heap.size w w' ∧ NdAt w' (nb k p l) ba6 bc6 ka6 kc6) := by
    intro w hb
    have h1 := nbCut_any HSL.out.2.1 (HN5.out.nd.below hb) b false
    rw [HC2.out.1, HC2.out.2] at h1
    exact h1.mono fun e w' h => mk_nb HSL.out.1 h
  have HTu : Hid (∀ w, Below W6.heap.size W6 w → Calls Tryd.prog 11 #[.agg #[.int .i64 k, .string ⟨#[]⟩, .string ⟨#[]⟩, .string p, .slice ba5 (m + 1) bc5, .slice ka5 (m + 1) kc5], .int .u8 (b.toNat : Int), .agg #[.int .i64 ss, .int .u32 sg]] w fun e w' => ∃ ba7 bc7 ka7 kc7, e = .returned (.tuple #[.agg #[.int .i64 0, .string ⟨#[]⟩, .string ⟨#[]⟩, .string ⟨#[]⟩, .slice ba7 0 bc7, .slice ka7 0 kc7], .int .i64 4]) ∧ Below w.heap.size w w') := by
    intro w hb
    have h1 := nbTurn_any HSL.out.2.1 (HN5.out.nd.below hb) b ss sg
    rw [HT2.out.1, HT2.out.2] at h1
    refine h1.mono ?_
    unfold MkP zeroNo No.val ndv
    rintro e w' ⟨a1, a2, a3, a4, h1, h2, h3⟩
    exact ⟨a1, a2, a3, a4, h1, h2⟩
  obtain ⟨⟨x0, x1, x2, x3, x4, x5⟩, -⟩ := HN5.out.cells
  go_upto_region 12 with (first
    | (go_at_call 8; refine (HF3.out _ (Below.refl _ _)).mono ?_; rintro e7 w7 ⟨rfl, hb⟩; have HF7 := Lib.hid (Fresh.new w7 w7.heap.size #[.int .i64 rs, .int .u32 rg] 29 rfl); have HB7 := Lib.hid (Below.new hb (.cells #[.int .i64 rs, .int .u32 rg] 29)); obtain ⟨⟨x0, x1, x2, x3, x4, x5⟩, -⟩ := (HN5.out.below HB7.out).cells; clear hb)
    | (go_at_call 10; refine (HCu.out _ HB7.out).mono ?_; rintro e8 w8 ⟨ba6, bc6, ka6, kc6, rfl, hb, hn6⟩; have HB8r := Lib.hid (Below.new hb (.cells #[.int .i64 k, .string ⟨#[]⟩, .string ⟨#[]⟩, .string p, .slice ba6 m bc6, .slice ka6 m kc6] 26)); have HB8 := Lib.hid (Below.step HB7.out HB8r.out); have HN8 := Lib.hid (NBx.new HSL.out.1 hn6); obtain ⟨⟨x0, x1, x2, x3, x4, x5⟩, -⟩ := (HN5.out.below HB8.out).cells; obtain ⟨-, s0, s1⟩ := HX.out.refs (Below.step HB5.out HB8.out); clear hb hn6)
    | (go_at_call 11; refine (HTu.out _ HB8.out).mono ?_; rintro e9 w9 ⟨ba7, bc7, ka7, kc7, rfl, hb⟩; have HB9r := Lib.hid (Below.new hb (.cells #[.int .i64 0, .string ⟨#[]⟩, .string ⟨#[]⟩, .string ⟨#[]⟩, .slice ba7 0 bc7, .slice ka7 0 kc7] 26)); clear hb))
  obtain ⟨P13, hP13⟩ : ∃ P, w7.heap.size = P := ⟨_, rfl⟩
  obtain ⟨P15, hP15⟩ : ∃ P, w8.heap.size = P := ⟨_, rfl⟩
  obtain ⟨P17, hP17⟩ : ∃ P, w9.heap.size = P := ⟨_, rfl⟩
  obtain ⟨V, hV⟩ : ∃ V, V = w9.alloc (.cells #[.int .i64 0, .string ⟨#[]⟩, .string ⟨#[]⟩, .string ⟨#[]⟩, .slice ba7 0 bc7, .slice ka7 0 kc7] 26) := ⟨_, rfl⟩
  rw [← hV] at HB9r ⊢
  rw [hP13] at HF7
  rw [hP15] at HN8
  rw [hP13, hP15, hP17]
  have HB9 := Lib.hid (Below.step HB8.out HB9r.out)
  have F13 := Lib.hid ((HF7.out.below HB8r.out).below HB9r.out)
  have N15 := Lib.hid (HN8.out.below HB9r.out)
  have N11 := Lib.hid (HN5.out.below HB9.out)
  have B4V := Lib.hid (Below.step HB5.out HB9.out)
  have N0 := Lib.hid (HX0.out.below B4V.out)
  clear hV hP13 hP15 hP17 x0 x1 x2 x3 x4 x5 s0 s1 HF3 HCu HTu HF7 HN8 HB8r HB9r
  obtain ⟨RK, hRK⟩ : ∃ RK, roomOf k = RK := ⟨_, rfl⟩
  rw [hRK] at hroomL
  have drk : decide (RK < (m : Int) + 1) = false := decide_eq_false (by omega)
  have drk2 : ¬ RK < (m : Int) + 1 := by omega
  have HSm : Hid (∀ (d : Nat) (os : Array Obj), Calls Tryd.prog 12 #[.agg #[.int .i64 k, .string ⟨#[]⟩, .string ⟨#[]⟩, .string p, .slice ba6 m bc6, .slice ka6 m kc6], .agg #[.int .i64 k, .string ⟨#[]⟩, .string ⟨#[]⟩, .string p, .slice ba m bc, .slice ka m kc]] (Sort.grow (redrawn V d) os) fun e w' => e = .returned (.bool true) ∧ Below (Sort.grow (redrawn V d) os).heap.size (Sort.grow (redrawn V d) os) w') := fun d os =>
    nbSame_any HSL.out.1 (N15.out.nd.below (below_regrown V d os)) (N0.out.nd.below (below_regrown V d os))
  have HRi : Hid (∀ (d : Nat) (os : Array Obj), Calls Tryd.prog 7 #[.agg #[.int .i64 k, .string ⟨#[]⟩, .string ⟨#[]⟩, .string p, .slice ba5 (m + 1) bc5, .slice ka5 (m + 1) kc5]] (Sort.grow (redrawn V d) os) fun e w' => e = .returned (.bool true) ∧ Below (Sort.grow (redrawn V d) os).heap.size (Sort.grow (redrawn V d) os) w') := fun d os => by
    have h1 := nbRight_any HSL.out.2.1 (N11.out.nd.below (below_regrown V d os))
    rw [HMR.out] at h1
    exact h1
  have HRo : Hid (∀ (d : Nat) (os : Array Obj), Calls Tryd.prog 13 #[.int .i64 k] (Sort.grow (redrawn V d) os) fun e w' => e = .returned (.int .i64 RK) ∧ Below (Sort.grow (redrawn V d) os).heap.size (Sort.grow (redrawn V d) os) w') := fun d os => by
    have h1 := room_any k _ ((HRM4.out.on B4V.out).on (below_regrown V d os))
    rw [hRK] at h1
    refine h1.mono ?_
    rintro e w' ⟨rfl, rfl⟩
    exact ⟨rfl, Below.refl _ _⟩
  have g0 := fun (d : Nat) (os : Array Obj) => (N0.out.below (below_regrown V d os)).cells.1.1
  have g1 := fun (d : Nat) (os : Array Obj) => (N0.out.below (below_regrown V d os)).cells.1.2.1
  have g2 := fun (d : Nat) (os : Array Obj) => (N0.out.below (below_regrown V d os)).cells.1.2.2.1
  have g3 := fun (d : Nat) (os : Array Obj) => (N0.out.below (below_regrown V d os)).cells.1.2.2.2.1
  have g4 := fun (d : Nat) (os : Array Obj) => (N0.out.below (below_regrown V d os)).cells.1.2.2.2.2.1
  have g5 := fun (d : Nat) (os : Array Obj) => (N0.out.below (below_regrown V d os)).cells.1.2.2.2.2.2
  have g6 := fun (d : Nat) (os : Array Obj) => (N11.out.below (below_regrown V d os)).cells.1.1
  have g7 := fun (d : Nat) (os : Array Obj) => (N11.out.below (below_regrown V d os)).cells.1.2.1
  have g8 := fun (d : Nat) (os : Array Obj) => (N11.out.below (below_regrown V d os)).cells.1.2.2.1
  have g9 := fun (d : Nat) (os : Array Obj) => (N11.out.below (below_regrown V d os)).cells.1.2.2.2.1
  have g10 := fun (d : Nat) (os : Array Obj) => (N11.out.below (below_regrown V d os)).cells.1.2.2.2.2.1
  have g11 := fun (d : Nat) (os : Array Obj) => (N11.out.below (below_regrown V d os)).cells.1.2.2.2.2.2
  have g12 := fun (d : Nat) (os : Array Obj) => (N15.out.below (below_regrown V d os)).cells.1.1
  have g13 := fun (d : Nat) (os : Array Obj) => (N15.out.below (below_regrown V d os)).cells.1.2.1
  have g14 := fun (d : Nat) (os : Array Obj) => (N15.out.below (below_regrown V d os)).cells.1.2.2.1
  have g15 := fun (d : Nat) (os : Array Obj) => (N15.out.below (below_regrown V d os)).cells.1.2.2.2.1
  have g16 := fun (d : Nat) (os : Array Obj) => (N15.out.below (below_regrown V d os)).cells.1.2.2.2.2.1
  have g17 := fun (d : Nat) (os : Array Obj) => (N15.out.below (below_regrown V d os)).cells.1.2.2.2.2.2
  have g18 := fun (d : Nat) (os : Array Obj) => (F13.out.below (below_regrown V d os)).cell 0
  have g19 := fun (d : Nat) (os : Array Obj) => (F13.out.below (below_regrown V d os)).cell 1
  have g20 := fun (d : Nat) (os : Array Obj) => (HX.out.refs (Below.step B4V.out (below_regrown V d os))).1.1
  have g21 := fun (d : Nat) (os : Array Obj) => (HX.out.refs (Below.step B4V.out (below_regrown V d os))).1.2
  simp only [List.getElem?_toArray, List.getElem?_cons_zero, List.getElem?_cons_succ] at g18 g19
  clear hRK hroomL
  refine wp_region_quiet_below (by kernel_rfl) (by kernel_rfl) ?_
  repeat (any_goals (first | go_big_quiet_step (first
    | (go_at_call 12; with_reducible exact Calls.regrown_of (HSm.out _ _))
    | (go_at_call 7; with_reducible exact Calls.regrown_of (HRi.out _ _))
    | (go_at_call 13; with_reducible exact Calls.regrown_of (HRo.out _ _))) | quiet_step (fail)))
  refine wpQuiet_nil ?_
  intro V2 hw2
  have hb2 : Below V.heap.size V V2 := by obtain ⟨pp, rfl⟩ := hw2; exact below_regrown _ _ _
  clear hw2 drk drk2 HSm HRi HRo g0 g1 g2 g3 g4 g5 g6 g7 g8 g9 g10 g11 g12 g13 g14 g15 g16 g17 g18 g19 g20 g21
  have HBV := Lib.hid hb2
  have M0 := Lib.hid (N0.out.below hb2)
  have M11 := Lib.hid (N11.out.below hb2)
  have B4W := Lib.hid (Below.step B4V.out hb2)
  have B6W := Lib.hid (Below.step HB9.out hb2)
  clear hb2 N0 N11 N15 F13
  have hmw : (m : Int) < 1000 := by omega
  go_wp2_with fail
  go_loopw [19, 20, 21] (fun cv v20 v21 wr => LpR V2 wr m cv) (fun cv _ _ _ => m - (intOf cv).toNat)
  case atStart => exact ⟨⟨0, rfl, Nat.zero_le _, Below.refl _ _⟩⟩
  case round =>
    obtain ⟨⟨c, rfl, hcn, hbw⟩⟩ := hrel
    have HBW := Lib.hid hbw
    have n0 := M0.out.below hbw
    have n11 := M11.out.below hbw
    obtain ⟨⟨x0, x1, x2, x3, x4, x5⟩, -⟩ := n0.cells
    by_cases hab : c < m
    · have hcl : c < l.length := by have := HSL.out.1; omega
      obtain ⟨⟨xb, xs, xg⟩, hx⟩ : ∃ x, l[c]? = some x := ⟨_, List.getElem?_eq_getElem hcl⟩
      obtain ⟨a1, c1, e1, hcb⟩ := n0.nd.b
      obtain ⟨a2, c2, e2, hcr⟩ := n0.nd.r
      obtain ⟨blk, off, hba, hlt, hbc⟩ := hcb c xb (by show (l.map (·.1))[c]? = _; rw [List.getElem?_map, hx]; rfl)
      obtain ⟨blk2, off2, hka, hlt2, hks, hkg⟩ := hcr c (xs, xg) (by show (l.map (·.2))[c]? = _; rw [List.getElem?_map, hx]; rfl)
      cases e1
      cases e2
      subst hba hka
      dsimp only at hks hkg
      obtain ⟨hxi, hxa⟩ := HEL.out _ (List.mem_of_getElem? hx)
      dsimp only at hxi hxa
      have hfx : refOf xb L = refV xs xg := by rw [refOf, if_pos hxi, hxa]
      have HFx : Hid (∀ w, Below wr.heap.size wr w → Calls Tryd.prog 8 #[.agg #[.int .i64 k, .string ⟨#[]⟩, .string ⟨#[]⟩, .string p, .slice ba5 (m + 1) bc5, .slice ka5 (m + 1) kc5], .int .u8 (xb.toNat : Int)] w fun e w' => e = .returned (.tuple #[refV xs xg, .bool true]) ∧ Below w.heap.size w w') := by
        intro w hb
        have h1 := HF2.out w (Below.step B6W.out (Below.step hbw hb)) xb
        rw [hfx, hxi] at h1
        exact h1
      have KS : Hid (∀ w, Below wr.heap.size wr w → ((w.cell? ⟨P11, 0, none⟩ = some (.int .i64 k) ∧ w.cell? ⟨P11, 1, none⟩ = some (.string ⟨#[]⟩) ∧ w.cell? ⟨P11, 2, none⟩ = some (.string ⟨#[]⟩) ∧ w.cell? ⟨P11, 3, none⟩ = some (.string p) ∧ w.cell? ⟨P11, 4, none⟩ = some (.slice ba5 (m + 1) bc5) ∧ w.cell? ⟨P11, 5, none⟩ = some (.slice ka5 (m + 1) kc5)) ∧ w.cell? ⟨W.heap.size, 4, none⟩ = some (.slice (some ⟨blk, off, none⟩) m bc) ∧ w.cell? ⟨blk, off + c, none⟩ = some (.int .u8 (xb.toNat : Int)))) := fun w hb => ⟨(n11.below hb).cells.1, (n0.below hb).cells.1.2.2.2.2.1, (hb.cell (p := ⟨blk, off + c, none⟩) hlt).trans hbc⟩
      have KR : Hid (∀ w, Below wr.heap.size wr w → (w.cell? ⟨W.heap.size, 5, none⟩ = some (.slice (some ⟨blk2, off2, none⟩) m kc) ∧ w.cell? ⟨blk2, off2 + c * 2, none⟩ = some (.int .i64 xs) ∧ w.cell? ⟨blk2, off2 + c * 2 + 1, none⟩ = some (.int .u32 xg))) := fun w hb => ⟨(n0.below hb).cells.1.2.2.2.2.2, (hb.cell (p := ⟨blk2, off2 + c * 2, none⟩) hlt2).trans hks, (hb.cell (p := ⟨blk2, off2 + c * 2 + 1, none⟩) hlt2).trans hkg⟩
      have c0 : (0 : Int) ≤ (c : Int) := by omega
      have c1 : (c : Int) < (m : Int) := by omega
      have jd : decide (c < m) = true := decide_eq_true hab
      clear n0 n11 hbw hcl hcb hcr hlt hlt2 hbc hks hkg hxi hxa hfx hx
      go_upto_region 17 with fail
      clear x0 x1 x2 x3 x4 x5
      go_cut [20, 21] (fun s20 s21 wx => ∃ P, s20 = .pointer (some ⟨P, 0, none⟩) ∧ s21 = .bool true ∧ Below wr.heap.size wr wx ∧ Fresh wx P #[.int .i64 xs, .int .u32 xg] 29)
      case first =>
        refine wp_region_held_drew (S := fun W' => (W'.cell? ⟨P11, 0, none⟩ = some (.int .i64 k) ∧ W'.cell? ⟨P11, 1, none⟩ = some (.string ⟨#[]⟩) ∧ W'.cell? ⟨P11, 2, none⟩ = some (.string ⟨#[]⟩) ∧ W'.cell? ⟨P11, 3, none⟩ = some (.string p) ∧ W'.cell? ⟨P11, 4, none⟩ = some (.slice ba5 (m + 1) bc5) ∧ W'.cell? ⟨P11, 5, none⟩ = some (.slice ka5 (m + 1) kc5)) ∧ W'.cell? ⟨W.heap.size, 4, none⟩ = some (.slice (some ⟨blk, off, none⟩) m bc) ∧ W'.cell? ⟨blk, off + c, none⟩ = some (.int .u8 (xb.toNat : Int))) (by kernel_rfl) ?_ (fun hHeld => ?_)
        · (try dsimp only)
          exact KS.out _ (Below.refl wr.heap.size wr).drew
        refine wpAnyH_take (i := 0) (oi := ?_) (v := ?_) ?_ (by kernel_rfl) (by kernel_rfl) (by kernel_rfl) ?_ (Or.inl ⟨?_, ?_⟩) (by assumption) ?_
        rotate_left 2
        · simp only [List.getElem?_toArray, List.getElem?_cons_succ, List.getElem?_cons_zero] <;> rfl
        · exact fun _ _ _ h => h
        · rfl
        · (intro w hSw; (try dsimp only at hSw); go_simp; try (with_reducible rfl))
        try simp only [Act.put, List.setIfInBounds_toArray, List.set_cons_zero, List.set_cons_succ]
        refine wpAnyH_take (i := 1) (oi := ?_) (v := ?_) ?_ (by kernel_rfl) (by kernel_rfl) (by kernel_rfl) ?_ (Or.inl ⟨?_, ?_⟩) (by assumption) ?_
        rotate_left 2
        · simp only [List.getElem?_toArray, List.getElem?_cons_succ, List.getElem?_cons_zero] <;> rfl
        · exact fun _ _ _ h => h
        · rfl
        · (intro w hSw; (try dsimp only at hSw); go_simp; try (with_reducible rfl))
        try simp only [Act.put, List.setIfInBounds_toArray, List.set_cons_zero, List.set_cons_succ]
        refine wpAnyH_take (i := 2) (oi := ?_) (v := ?_) ?_ (by kernel_rfl) (by kernel_rfl) (by kernel_rfl) ?_ (Or.inl ⟨?_, ?_⟩) (by assumption) ?_
        rotate_left 2
        · simp only [List.getElem?_toArray, List.getElem?_cons_succ, List.getElem?_cons_zero] <;> rfl
        · exact fun _ _ _ h => h
        · rfl
        · (intro w hSw; (try dsimp only at hSw); go_simp; try (with_reducible rfl))
        try simp only [Act.put, List.setIfInBounds_toArray, List.set_cons_zero, List.set_cons_succ]
        refine wpAnyH_take (i := 3) (oi := ?_) (v := ?_) ?_ (by kernel_rfl) (by kernel_rfl) (by kernel_rfl) ?_ (Or.inl ⟨?_, ?_⟩) (by assumption) ?_
        rotate_left 2
        · simp only [List.getElem?_toArray, List.getElem?_cons_succ, List.getElem?_cons_zero] <;> rfl
        · exact fun _ _ _ h => h
        · rfl
        · (intro w hSw; (try dsimp only at hSw); go_simp; try (with_reducible rfl))
        try simp only [Act.put, List.setIfInBounds_toArray, List.set_cons_zero, List.set_cons_succ]
        refine wpAnyH_take (i := 4) (oi := ?_) (v := ?_) ?_ (by kernel_rfl) (by kernel_rfl) (by kernel_rfl) ?_ (Or.inl ⟨?_, ?_⟩) (by assumption) ?_
        rotate_left 2
        · simp only [List.getElem?_toArray, List.getElem?_cons_succ, List.getElem?_cons_zero] <;> rfl
        · exact fun _ _ _ h => h
        · rfl
        · (intro w hSw; (try dsimp only at hSw); go_simp; try (with_reducible rfl))
        try simp only [Act.put, List.setIfInBounds_toArray, List.set_cons_zero, List.set_cons_succ]
        refine wpAnyH_take (i := 5) (oi := ?_) (v := ?_) ?_ (by kernel_rfl) (by kernel_rfl) (by kernel_rfl) ?_ (Or.inl ⟨?_, ?_⟩) (by assumption) ?_
        rotate_left 2
        · simp only [List.getElem?_toArray, List.getElem?_cons_succ, List.getElem?_cons_zero] <;> rfl
        · exact fun _ _ _ h => h
        · rfl
        · (intro w hSw; (try dsimp only at hSw); go_simp; try (with_reducible rfl))
        try simp only [Act.put, List.setIfInBounds_toArray, List.set_cons_zero, List.set_cons_succ]
        refine wpAnyH_ready (rs := [6, 10]) (by kernel_rfl) (by simp) ?_
        refine AllReadyH.cons (o := _) (by simp only [List.getElem?_toArray, List.getElem?_cons_succ, List.getElem?_cons_zero] <;> rfl) (fun K hK => ?_) ?_
        · go_simp
          refine (HFx.out _ (Below.refl wr.heap.size wr).drew).mono ?_
          rintro e5 w5x ⟨rfl, hb5⟩
          have HB5x := Lib.hid (Below.step (w := wr) ((Below.refl wr.heap.size wr).drew) hb5)
          clear hb5
          go_wp2_with fail
          refine hK.out _ _ ?_ (fun hHeld => ?_)
          · (try dsimp only)
            exact KS.out _ HB5x.out
          clear hK K
          try simp only [Act.put, List.setIfInBounds_toArray, List.set_cons_zero, List.set_cons_succ]
          refine wpAnyH_take (i := 7) (oi := ?_) (v := ?_) ?_ (by kernel_rfl) (by kernel_rfl) (by kernel_rfl) ?_ (Or.inl ⟨?_, ?_⟩) (by assumption) ?_
          rotate_left 2
          · simp only [List.getElem?_toArray, List.getElem?_cons_succ, List.getElem?_cons_zero] <;> rfl
          · exact fun _ _ _ h => h
          · rfl
          · (intro w hSw; (try dsimp only at hSw); go_simp; try (with_reducible rfl))
          try simp only [Act.put, List.setIfInBounds_toArray, List.set_cons_zero, List.set_cons_succ]
          refine wpAnyH_take (i := 8) (oi := ?_) (v := ?_) ?_ (by kernel_rfl) (by kernel_rfl) (by kernel_rfl) ?_ (Or.inl ⟨?_, ?_⟩) (by assumption) ?_
          rotate_left 2
          · simp only [List.getElem?_toArray, List.getElem?_cons_succ, List.getElem?_cons_zero] <;> rfl
          · exact fun _ _ _ h => h
          · rfl
          · (intro w hSw; (try dsimp only at hSw); go_simp; try (with_reducible rfl))
          try simp only [Act.put, List.setIfInBounds_toArray, List.set_cons_zero, List.set_cons_succ]
          refine wpAnyH_take (i := 9) (oi := ?_) (v := ?_) ?_ (by kernel_rfl) (by kernel_rfl) (by kernel_rfl) ?_ (Or.inl ⟨?_, ?_⟩) (by assumption) ?_
          rotate_left 2
          · simp only [List.getElem?_toArray, List.getElem?_cons_succ, List.getElem?_cons_zero] <;> rfl
          · exact fun _ _ _ h => h
          · rfl
          · (intro w hSw; (try dsimp only at hSw); go_simp; try (with_reducible rfl))
          try simp only [Act.put, List.setIfInBounds_toArray, List.set_cons_zero, List.set_cons_succ]
          refine wpAnyH_ready (rs := [10]) (by kernel_rfl) (by simp) ?_
          refine AllReadyH.cons (o := _) (by simp only [List.getElem?_toArray, List.getElem?_cons_succ, List.getElem?_cons_zero] <;> rfl) (fun K hK => ?_) ?_
          · go_simp
            refine hK.out _ _ ?_ (fun hHeld => ?_)
            · (try dsimp only)
              exact KS.out _ (Below.new (HB5x.out) _)
            clear hK K
            try simp only [Act.put, List.setIfInBounds_toArray, List.set_cons_zero, List.set_cons_succ]
            refine wpAnyH_ready (rs := [11]) (by kernel_rfl) (by simp) ?_
            refine AllReadyH.cons (o := _) (by simp only [List.getElem?_toArray, List.getElem?_cons_succ, List.getElem?_cons_zero] <;> rfl) (fun K hK => ?_) ?_
            · go_simp
              refine hK.out _ _ ?_ (fun hHeld => ?_)
              · (try dsimp only)
                exact KS.out _ (ref_new (s := xs) (g := xg) HB5x.out rfl).1
              clear hK K
              try simp only [Act.put, List.setIfInBounds_toArray, List.set_cons_zero, List.set_cons_succ]
              refine wpAnyH_take (i := 12) (oi := ?_) (v := ?_) ?_ (by kernel_rfl) (by kernel_rfl) (by kernel_rfl) ?_ (Or.inl ⟨?_, ?_⟩) (by assumption) ?_
              rotate_left 2
              · simp only [List.getElem?_toArray, List.getElem?_cons_succ, List.getElem?_cons_zero] <;> rfl
              · exact fun _ _ _ h => h
              · rfl
              · (intro w hSw; (try dsimp only at hSw); go_simp; try (with_reducible rfl))
              try simp only [Act.put, List.setIfInBounds_toArray, List.set_cons_zero, List.set_cons_succ]
              refine wpAnyH_done (by kernel_rfl) ?_ _
              go_wp2_with fail
              go_meet
              have h := ref_new (s := xs) (g := xg) HB5x.out rfl
              exact ⟨_, rfl, rfl, h.1, h.2⟩
            exact AllReadyH.nil
          exact AllReadyH.nil
        refine AllReadyH.cons (o := _) (by simp only [List.getElem?_toArray, List.getElem?_cons_succ, List.getElem?_cons_zero] <;> rfl) (fun K hK => ?_) ?_
        · go_simp
          refine hK.out _ _ ?_ (fun hHeld => ?_)
          · (try dsimp only)
            exact KS.out _ (Below.new ((Below.refl wr.heap.size wr).drew) _)
          clear hK K
          try simp only [Act.put, List.setIfInBounds_toArray, List.set_cons_zero, List.set_cons_succ]
          refine wpAnyH_ready (rs := [6]) (by kernel_rfl) (by simp) ?_
          refine AllReadyH.cons (o := _) (by simp only [List.getElem?_toArray, List.getElem?_cons_succ, List.getElem?_cons_zero] <;> rfl) (fun K hK => ?_) ?_
          · go_simp
            refine (HFx.out _ (Below.new ((Below.refl wr.heap.size wr).drew) _)).mono ?_
            rintro e5 w5x ⟨rfl, hb5⟩
            have F5 := (Fresh.new wr.drew wr.heap.size #[.int .i64 0, .int .u32 0] 29 rfl).below hb5
            have z0 := F5.cell 0
            have z1 := F5.cell 1
            have q0 := F5.thawed 0
            have q1 := F5.thawed 1
            simp only [List.getElem?_toArray, List.getElem?_cons_zero, List.getElem?_cons_succ] at z0 z1
            have HF5x := Lib.hid F5
            clear F5
            have HB5x := Lib.hid (Below.step (w := wr) ((Below.new ((Below.refl wr.heap.size wr).drew) _)) hb5)
            clear hb5
            go_wp2_with fail
            refine hK.out _ _ ?_ (fun hHeld => ?_)
            · (try dsimp only)
              exact KS.out _ HB5x.out
            clear hK K
            try simp only [Act.put, List.setIfInBounds_toArray, List.set_cons_zero, List.set_cons_succ]
            refine wpAnyH_take (i := 7) (oi := ?_) (v := ?_) ?_ (by kernel_rfl) (by kernel_rfl) (by kernel_rfl) ?_ (Or.inl ⟨?_, ?_⟩) (by assumption) ?_
            rotate_left 2
            · simp only [List.getElem?_toArray, List.getElem?_cons_succ, List.getElem?_cons_zero] <;> rfl
            · exact fun _ _ _ h => h
            · rfl
            · (intro w hSw; (try dsimp only at hSw); go_simp; try (with_reducible rfl))
            try simp only [Act.put, List.setIfInBounds_toArray, List.set_cons_zero, List.set_cons_succ]
            refine wpAnyH_take (i := 8) (oi := ?_) (v := ?_) ?_ (by kernel_rfl) (by kernel_rfl) (by kernel_rfl) ?_ (Or.inl ⟨?_, ?_⟩) (by assumption) ?_
            rotate_left 2
            · simp only [List.getElem?_toArray, List.getElem?_cons_succ, List.getElem?_cons_zero] <;> rfl
            · exact fun _ _ _ h => h
            · rfl
            · (intro w hSw; (try dsimp only at hSw); go_simp; try (with_reducible rfl))
            try simp only [Act.put, List.setIfInBounds_toArray, List.set_cons_zero, List.set_cons_succ]
            refine wpAnyH_take (i := 9) (oi := ?_) (v := ?_) ?_ (by kernel_rfl) (by kernel_rfl) (by kernel_rfl) ?_ (Or.inl ⟨?_, ?_⟩) (by assumption) ?_
            rotate_left 2
            · simp only [List.getElem?_toArray, List.getElem?_cons_succ, List.getElem?_cons_zero] <;> rfl
            · exact fun _ _ _ h => h
            · rfl
            · (intro w hSw; (try dsimp only at hSw); go_simp; try (with_reducible rfl))
            try simp only [Act.put, List.setIfInBounds_toArray, List.set_cons_zero, List.set_cons_succ]
            refine wpAnyH_ready (rs := [11]) (by kernel_rfl) (by simp) ?_
            refine AllReadyH.cons (o := _) (by simp only [List.getElem?_toArray, List.getElem?_cons_succ, List.getElem?_cons_zero] <;> rfl) (fun K hK => ?_) ?_
            · go_simp
              refine hK.out _ _ ?_ (fun hHeld => ?_)
              · (try dsimp only)
                exact KS.out _ (ref_fill (s := xs) (g := xg) HB5x.out HF5x.out (Nat.le_refl wr.heap.size) rfl).1
              clear hK K
              try simp only [Act.put, List.setIfInBounds_toArray, List.set_cons_zero, List.set_cons_succ]
              refine wpAnyH_take (i := 12) (oi := ?_) (v := ?_) ?_ (by kernel_rfl) (by kernel_rfl) (by kernel_rfl) ?_ (Or.inl ⟨?_, ?_⟩) (by assumption) ?_
              rotate_left 2
              · simp only [List.getElem?_toArray, List.getElem?_cons_succ, List.getElem?_cons_zero] <;> rfl
              · exact fun _ _ _ h => h
              · rfl
              · (intro w hSw; (try dsimp only at hSw); go_simp; try (with_reducible rfl))
              try simp only [Act.put, List.setIfInBounds_toArray, List.set_cons_zero, List.set_cons_succ]
              refine wpAnyH_done (by kernel_rfl) ?_ _
              go_wp2_with fail
              go_meet
              have h := ref_fill (s := xs) (g := xg) HB5x.out HF5x.out (Nat.le_refl wr.heap.size) rfl
              exact ⟨_, rfl, rfl, h.1, h.2⟩
            exact AllReadyH.nil
          exact AllReadyH.nil
        exact AllReadyH.nil
      case rest =>
        obtain ⟨P20, rfl, rfl, hb20, f20⟩ := hcut
        obtain ⟨k5, ks, kg⟩ := KR.out _ hb20
        have r0 := f20.cell 0
        have r1 := f20.cell 1
        simp only [List.getElem?_toArray, List.getElem?_cons_zero, List.getElem?_cons_succ] at r0 r1
        have HB20 := Lib.hid (Below.step HBW.out hb20)
        clear hb20 f20 KS KR HFx
        go_wp2_with fail
        go_quiet (fail)
        go_wp2_with fail
        go_roundw
        case rel => exact ⟨⟨c + 1, by simp, by omega, below_drewN HB20.out _⟩⟩
        case measure => simp [intOf]; omega
    · obtain rfl : c = m := by omega
      have c1 : ¬ (c : Int) < (c : Int) := by omega
      have jd : decide (c < c) = false := decide_eq_false hab
      obtain ⟨⟨y0, y1, y2, y3, y4, y5⟩, -⟩ := n11.cells
      clear n0 n11 hbw hcn HEL
      go_wp2_with (go_at_call 14; refine (HFull.out _ (Below.step B4W.out HBW.out)).mono ?_; rintro e20 w20 ⟨rfl, hb⟩; have HB20 := Lib.hid (Below.step HBW.out hb); obtain ⟨⟨x0, x1, x2, x3, x4, x5⟩, -⟩ := (M0.out.below HB20.out).cells; obtain ⟨⟨y0, y1, y2, y3, y4, y5⟩, -⟩ := (M11.out.below HB20.out).cells; clear hb)
      go_ret
      exact ⟨by first | rfl | simp, Below.step HX.out.low (Below.step B4W.out HB20.out)⟩

theorem back_okfi (hm : l.length = m) (h : NdAt W (nb k p l) ba bc ka kc) (hr : (nb k p l).rightInner = true) (hk1 : ¬ k = 1) (b : UInt8) (rs rg ss sg : Int) (hc : isIn b l = false) (hi : impR rs rg = false) (hl2 : l.length < 256) (his : impR ss sg = true) (k2 : Int) (hk2 : (ofK ((l.length + 1 : Nat) : Int)).1 = k2) (hfull : (l.length : Int) = roomOf k) :
    Calls Tryd.prog 3 #[.agg #[.int .i64 k, .string ⟨#[]⟩, .string ⟨#[]⟩, .string p, .slice ba m bc, .slice ka m kc], .int .u8 (b.toNat : Int), .agg #[.int .i64 rs, .int .u32 rg], .agg #[.int .i64 ss, .int .u32 sg]] W fun e w' => e = .returned (.bool true) ∧ Below W.heap.size W w' := by
  have hu := usable_of_right hr
  obtain ⟨hk0, hp34, hlk, hsrt, hok⟩ := nb_inner.1 (usable_inner hu)
  have hl256 : l.length ≤ 256 := by have := room_le k; omega
  obtain ⟨W4, hW4⟩ : ∃ W4, W4 = ((W.alloc (.cells #[.int .i64 k, .string ⟨#[]⟩, .string ⟨#[]⟩, .string p, .slice ba m bc, .slice ka m kc] 26)).alloc (.cells #[.int .i64 rs, .int .u32 rg] 29)).alloc (.cells #[.int .i64 ss, .int .u32 sg] 29) := ⟨_, rfl⟩
  have X4 : Bn W W4 k p l ba m bc ka kc rs rg ss sg := by rw [hW4]; exact Bn.mk' hm h rs rg ss sg
  have HX := Lib.hid X4
  have HW4 := Lib.hid hW4
  have HAw := Lib.hid (awake_any W4 (h.rm.on X4.low))
  have HG := Lib.hid (fun w => nbGreat_any (k := k) (p := p) (ba := ba) (m := m) (bc := bc) (ka := ka) (kc := kc) hp34 (by omega) w)
  have HR := Lib.hid (fun w (hb : Below W4.heap.size W4 w) => nbRight_any hm (X4.n0.nd.below hb))
  rw [right_of_right hr] at HR
  have HF := Lib.hid (fun w (hb : Below W4.heap.size W4 w) => nbFind_any hm (X4.n0.nd.below hb) hu b)
  have dk1 : decide (k = 1) = false := decide_eq_false hk1
  obtain ⟨hkk1, hkk2, hkk3⟩ := right_kind hr
  rw [nb_len] at hkk1 hkk2 hkk3
  have hkk2 : (ofK (l.length : Int)).1 = k := hkk2
  have hne : ¬ k2 = k := by
    intro e
    have := (ofK_next hl2).1 (by rw [hk2, hkk2, e])
    rw [hkk2] at this
    exact this hfull
  obtain ⟨L, hL⟩ : ∃ L, l.insertIdx (placeIx b l) (b, rs, rg) = L := ⟨_, rfl⟩
  have hLl : L.length = m + 1 := by rw [← hL, List.length_insertIdx, if_pos (place_le _ _), hm]
  have hLs : Srt L := by rw [← hL]; exact srt_insert hsrt hc rs rg
  have hLo : okR L := by rw [← hL]; exact okR_put hok hi _ (place_le _ _)
  obtain ⟨hLi, hLa⟩ := put_at (s := rs) (g := rg) hsrt hc
  rw [hL] at hLi hLa
  have hLt := put_take (s := rs) (g := rg) hsrt hc
  rw [hL] at hLt
  have hmk : (ofK (L.length : Int)).1 = k2 := by rw [hLl, ← hm]; exact hk2
  have hmr : (nb k2 p L).rightInner = true := by
    have := nb_right (p := p) (l := L) hp34 (by omega) (by omega) hLs hLo
    rw [hmk] at this
    exact this
  have hmu := usable_of_right hmr
  obtain ⟨hE, hN⟩ := nb_add hu hi hc false (by simp)
  rw [hL] at hN
  have hN : addN (nb k p l) b rs rg false = nb k2 p L := by rw [hN]; show nb (ofK ((l.length + 1 : Nat) : Int)).1 p L = _; rw [hk2]
  have HA : Hid (∀ w, Below W4.heap.size W4 w → Calls Tryd.prog 9 #[.agg #[.int .i64 k, .string ⟨#[]⟩, .string ⟨#[]⟩, .string p, .slice ba m bc, .slice ka m kc], .int .u8 (b.toNat : Int), .agg #[.int .i64 rs, .int .u32 rg], .bool false] w fun e w' => ∃ ba5 bc5 ka5 kc5, e = .returned (.tuple #[.agg #[.int .i64 k2, .string ⟨#[]⟩, .string ⟨#[]⟩, .string p, .slice ba5 (m + 1) bc5, .slice ka5 (m + 1) kc5], .int .i64 0]) ∧ Below w.heap.size w w' ∧ NdAt w' (nb k2 p L) ba5 bc5 ka5 kc5) := by
    intro w hb
    have h1 := nbAdd_any hm (X4.n0.nd.below hb) b rs rg false
    rw [hE, hN] at h1
    exact h1.mono fun e w' h => mk_nb hLl h
  have hfo : refOf b l = refV 0 0 := by rw [refOf, if_neg (by rw [hc]; simp)]
  rw [hfo, hc] at HF
  have hfL : refOf b L = refV rs rg := by rw [refOf, if_pos hLi, hLa]
  obtain ⟨hC1, hC2⟩ := nb_cut hmu hLi false
  have hC2 : cutN (nb k2 p L) b false = nb k p l := by
    rw [hC2, hLt]
    show nb (ofK ((L.length - 1 : Nat) : Int)).1 p l = _
    rw [hLl, Nat.add_sub_cancel, ← hm, hkk2]
  have hT1 : turnE (nb k2 p L) b ss sg = 4 := by unfold turnE; exact if_pos (.inr his)
  have hT2 : turnN (nb k2 p L) b ss sg = zeroNo := by unfold turnN; rw [hT1]; exact if_neg (by decide)
  have hroomL : (m : Int) + 1 ≤ roomOf k2 := by
    have := (roomK (m := L.length) (by omega)).2
    rw [hmk, hLl] at this
    omega
  have hm0 : (m : Int) < 256 := by omega
  have hm1 : (0 : Int) ≤ (m : Int) := by omega
  have HFull := Lib.hid (fun w (hb : Below W4.heap.size W4 w) => nbFull_any hm (X4.n0.nd.below hb))
  have hfl : (nb k p l).full = true := by unfold No.full; rw [nb_len]; exact decide_eq_true hfull
  rw [hu, hfl] at HFull
  have HRM4 : Hid (Rm W4) := h.rm.on X4.low
  have HX0 := Lib.hid X4.n0
  have HSL := Lib.hid (And.intro hm (And.intro hLl (And.intro hsrt (And.intro hLs hmu))))
  have HEL : Hid (∀ x ∈ l, isIn x.1 L = true ∧ atOf x.1 L = x) := by
    intro x hx
    refine mem_at hLs ?_
    rw [← hL, List.mem_insertIdx (place_le _ _)]
    exact .inr hx
  have HC2 := Lib.hid (And.intro hC1 hC2)
  have HLF := Lib.hid (And.intro hfL hLi)
  have HT2 := Lib.hid (And.intro hT1 hT2)
  have HMR := Lib.hid (right_of_right hmr)
  clear hm h hr hu hk0 hp34 hlk hsrt hok hl256 X4 hW4 hE hN hc hi hfo hfL hC1 hC2 hLl hLs hLo hLi hLa hLt hmk hmr hmu hT1 hT2 hfl hkk1 hkk2 hkk3 hk2 hfull hl2 his hL
  go_enter Tryd.func3, Tryd.ntmps3
  go_upto_region 1 with fail
  rw [← HW4.out]
  go_upto_region 5 with (first
    | (go_at_call 5; refine HAw.out.mono ?_; rintro e1 w1 ⟨rfl, hb⟩; have HB1 := Lib.hid hb; obtain ⟨x0, x1, x2, x3, x4, x5⟩ := HX.out.node HB1.out; clear hb)
    | (go_at_call 6; refine (HG.out _).mono ?_; rintro e2 w2 ⟨rfl, hb⟩; have HB2 := Lib.hid (Below.step HB1.out hb); obtain ⟨x0, x1, x2, x3, x4, x5⟩ := HX.out.node HB2.out; clear hb)
    | (go_at_call 7; refine (HR.out _ HB2.out).mono ?_; rintro e3 w3 ⟨rfl, hb⟩; have HB3 := Lib.hid (Below.step HB2.out hb); obtain ⟨x0, x1, x2, x3, x4, x5⟩ := HX.out.node HB3.out; clear hb))
  go_upto_region 7 with (first
    | (go_at_call 8; refine (HF.out _ HB3.out).mono ?_; rintro e4 w4 ⟨rfl, hb⟩; have HB4 := Lib.hid (Below.new (Below.step HB3.out hb) (.cells #[.int .i64 0, .int .u32 0] 29)); obtain ⟨x0, x1, x2, x3, x4, x5⟩ := HX.out.node HB4.out; obtain ⟨⟨r0, r1⟩, s0, s1⟩ := HX.out.refs HB4.out; clear hb)
    | (go_at_call 9; refine (HA.out _ HB4.out).mono ?_; rintro e5 w5 ⟨ba5, bc5, ka5, kc5, rfl, hb, hn5⟩; have HB5 := Lib.hid (Below.new (Below.step HB4.out hb) (.cells #[.int .i64 k2, .string ⟨#[]⟩, .string ⟨#[]⟩, .string p, .slice ba5 (m + 1) bc5, .slice ka5 (m + 1) kc5] 26)); have HN5 := Lib.hid (NBx.new HSL.out.2.1 hn5); clear hb hn5))
  obtain ⟨P11, hP11⟩ : ∃ P, w5.heap.size = P := ⟨_, rfl⟩
  obtain ⟨W6, hW6⟩ : ∃ W6, W6 = w5.alloc (.cells #[.int .i64 k2, .string ⟨#[]⟩, .string ⟨#[]⟩, .string p, .slice ba5 (m + 1) bc5, .slice ka5 (m + 1) kc5] 26) := ⟨_, rfl⟩
  rw [← hW6] at HB5 HN5 ⊢
  rw [hP11] at HN5 ⊢
  clear hW6 hP11 x0 x1 x2 x3 x4 x5 r0 r1 s0 s1 HF HA HR HG HAw HW4
  have HF2 : Hid (∀ w, Below W6.heap.size W6 w → ∀ c : UInt8, Calls Tryd.prog 8 #[.agg #[.int .i64 k2, .string ⟨#[]⟩, .string ⟨#[]⟩, .string p, .slice ba5 (m + 1) bc5, .slice ka5 (m + 1) kc5], .int .u8 (c.toNat : Int)] w fun e w' => e = .returned (.tuple #[refOf c L, .bool (isIn c L)]) ∧ Below w.heap.size w w') := fun w hb c => nbFind_any HSL.out.2.1 (HN5.out.nd.below hb) HSL.out.2.2.2.2 c
  have HF3 : Hid (∀ w, Below W6.heap.size W6 w → Calls Tryd.prog 8 #[.agg #[.int .i64 k2, .string ⟨#[]⟩, .string ⟨#[]⟩, .string p, .slice ba5 (m + 1) bc5, .slice ka5 (m + 1) kc5], .int .u8 (b.toNat : Int)] w fun e w' => e = .returned (.tuple #[refV rs rg, .bool true]) ∧ Below w.heap.size w w') := by
    intro w hb
    have h1 := HF2.out w hb b
    rw [HLF.out.1, HLF.out.2] at h1
    exact h1
  have HCu : Hid (∀ w, Below W6.heap.size W6 w → Calls Tryd.prog 10 #[.agg #[.int .i64 k2, .string ⟨#[]⟩, .string ⟨#[]⟩, .string p, .slice ba5 (m + 1) bc5, .slice ka5 (m + 1) kc5], .int .u8 (b.toNat : Int), .bool false] w fun e w' => ∃ ba6 bc6 ka6 kc6, e = .returned (.tuple #[.agg #[.int .i64 k, .string ⟨#[]⟩, .string ⟨#[]⟩, .string p, .slice ba6 m bc6, .slice ka6 m kc6], .int .i64 0]) ∧ Below w.heap.size w w' ∧ NdAt w' (nb k p l) ba6 bc6 ka6 kc6) := by
    intro w hb
    have h1 := nbCut_any HSL.out.2.1 (HN5.out.nd.below hb) b false
    rw [HC2.out.1, HC2.out.2] at h1
    exact h1.mono fun e w' h => mk_nb HSL.out.1 h
  have HTu : Hid (∀ w, Below W6.heap.size W6 w → Calls Tryd.prog 11 #[.agg #[.int .i64 k2, .string ⟨#[]⟩, .string ⟨#[]⟩, .string p, .slice ba5 (m + 1) bc5, .slice ka5 (m + 1) kc5], .int .u8 (b.toNat : Int), .agg #[.int .i64 ss, .int .u32 sg]] w fun e w' => ∃ ba7 bc7 ka7 kc7, e = .returned (.tuple #[.agg #[.int .i64 0, .string ⟨#[]⟩, .string ⟨#[]⟩, .string ⟨#[]⟩, .slice ba7 0 bc7, .slice ka7 0 kc7], .int .i64 4]) ∧ Below w.heap.size w w') := by
    intro w hb
    have h1 := nbTurn_any HSL.out.2.1 (HN5.out.nd.below hb) b ss sg
    rw [HT2.out.1, HT2.out.2] at h1
    refine h1.mono ?_
    unfold MkP zeroNo No.val ndv
    rintro e w' ⟨a1, a2, a3, a4, h1, h2, h3⟩
    exact ⟨a1, a2, a3, a4, h1, h2⟩
  obtain ⟨⟨x0, x1, x2, x3, x4, x5⟩, -⟩ := HN5.out.cells
  go_upto_region 12 with (first
    | (go_at_call 8; refine (HF3.out _ (Below.refl _ _)).mono ?_; rintro e7 w7 ⟨rfl, hb⟩; have HF7 := Lib.hid (Fresh.new w7 w7.heap.size #[.int .i64 rs, .int .u32 rg] 29 rfl); have HB7 := Lib.hid (Below.new hb (.cells #[.int .i64 rs, .int .u32 rg] 29)); obtain ⟨⟨x0, x1, x2, x3, x4, x5⟩, -⟩ := (HN5.out.below HB7.out).cells; clear hb)
    | (go_at_call 10; refine (HCu.out _ HB7.out).mono ?_; rintro e8 w8 ⟨ba6, bc6, ka6, kc6, rfl, hb, hn6⟩; have HB8r := Lib.hid (Below.new hb (.cells #[.int .i64 k, .string ⟨#[]⟩, .string ⟨#[]⟩, .string p, .slice ba6 m bc6, .slice ka6 m kc6] 26)); have HB8 := Lib.hid (Below.step HB7.out HB8r.out); have HN8 := Lib.hid (NBx.new HSL.out.1 hn6); obtain ⟨⟨x0, x1, x2, x3, x4, x5⟩, -⟩ := (HN5.out.below HB8.out).cells; obtain ⟨-, s0, s1⟩ := HX.out.refs (Below.step HB5.out HB8.out); clear hb hn6)
    | (go_at_call 11; refine (HTu.out _ HB8.out).mono ?_; rintro e9 w9 ⟨ba7, bc7, ka7, kc7, rfl, hb⟩; have HB9r := Lib.hid (Below.new hb (.cells #[.int .i64 0, .string ⟨#[]⟩, .string ⟨#[]⟩, .string ⟨#[]⟩, .slice ba7 0 bc7, .slice ka7 0 kc7] 26)); clear hb))
  obtain ⟨P13, hP13⟩ : ∃ P, w7.heap.size = P := ⟨_, rfl⟩
  obtain ⟨P15, hP15⟩ : ∃ P, w8.heap.size = P := ⟨_, rfl⟩
  obtain ⟨P17, hP17⟩ : ∃ P, w9.heap.size = P := ⟨_, rfl⟩
  obtain ⟨V, hV⟩ : ∃ V, V = w9.alloc (.cells #[.int .i64 0, .string ⟨#[]⟩, .string ⟨#[]⟩, .string ⟨#[]⟩, .slice ba7 0 bc7, .slice ka7 0 kc7] 26) := ⟨_, rfl⟩
  rw [← hV] at HB9r ⊢
  rw [hP13] at HF7
  rw [hP15] at HN8
  rw [hP13, hP15, hP17]
  have HB9 := Lib.hid (Below.step HB8.out HB9r.out)
  have F13 := Lib.hid ((HF7.out.below HB8r.out).below HB9r.out)
  have N15 := Lib.hid (HN8.out.below HB9r.out)
  have N11 := Lib.hid (HN5.out.below HB9.out)
  have B4V := Lib.hid (Below.step HB5.out HB9.out)
  have N0 := Lib.hid (HX0.out.below B4V.out)
  clear hV hP13 hP15 hP17 x0 x1 x2 x3 x4 x5 s0 s1 HF3 HCu HTu HF7 HN8 HB8r HB9r
  obtain ⟨RK, hRK⟩ : ∃ RK, roomOf k2 = RK := ⟨_, rfl⟩
  rw [hRK] at hroomL
  have drk : decide (RK < (m : Int) + 1) = false := decide_eq_false (by omega)
  have drk2 : ¬ RK < (m : Int) + 1 := by omega
  have HSm : Hid (∀ (d : Nat) (os : Array Obj), Calls Tryd.prog 12 #[.agg #[.int .i64 k, .string ⟨#[]⟩, .string ⟨#[]⟩, .string p, .slice ba6 m bc6, .slice ka6 m kc6], .agg #[.int .i64 k, .string ⟨#[]⟩, .string ⟨#[]⟩, .string p, .slice ba m bc, .slice ka m kc]] (Sort.grow (redrawn V d) os) fun e w' => e = .returned (.bool true) ∧ Below (Sort.grow (redrawn V d) os).heap.size (Sort.grow (redrawn V d) os) w') := fun d os =>
    nbSame_any HSL.out.1 (N15.out.nd.below (below_regrown V d os)) (N0.out.nd.below (below_regrown V d os))
  have HRi : Hid (∀ (d : Nat) (os : Array Obj), Calls Tryd.prog 7 #[.agg #[.int .i64 k2, .string ⟨#[]⟩, .string ⟨#[]⟩, .string p, .slice ba5 (m + 1) bc5, .slice ka5 (m + 1) kc5]] (Sort.grow (redrawn V d) os) fun e w' => e = .returned (.bool true) ∧ Below (Sort.grow (redrawn V d) os).heap.size (Sort.grow (redrawn V d) os) w') := fun d os => by
    have h1 := nbRight_any HSL.out.2.1 (N11.out.nd.below (below_regrown V d os))
    rw [HMR.out] at h1
    exact h1
  have HRo : Hid (∀ (d : Nat) (os : Array Obj), Calls Tryd.prog 13 #[.int .i64 k2] (Sort.grow (redrawn V d) os) fun e w' => e = .returned (.int .i64 RK) ∧ Below (Sort.grow (redrawn V d) os).heap.size (Sort.grow (redrawn V d) os) w') := fun d os => by
    have h1 := room_any k2 _ ((HRM4.out.on B4V.out).on (below_regrown V d os))
    rw [hRK] at h1
    refine h1.mono ?_
    rintro e w' ⟨rfl, rfl⟩
    exact ⟨rfl, Below.refl _ _⟩
  have g0 := fun (d : Nat) (os : Array Obj) => (N0.out.below (below_regrown V d os)).cells.1.1
  have g1 := fun (d : Nat) (os : Array Obj) => (N0.out.below (below_regrown V d os)).cells.1.2.1
  have g2 := fun (d : Nat) (os : Array Obj) => (N0.out.below (below_regrown V d os)).cells.1.2.2.1
  have g3 := fun (d : Nat) (os : Array Obj) => (N0.out.below (below_regrown V d os)).cells.1.2.2.2.1
  have g4 := fun (d : Nat) (os : Array Obj) => (N0.out.below (below_regrown V d os)).cells.1.2.2.2.2.1
  have g5 := fun (d : Nat) (os : Array Obj) => (N0.out.below (below_regrown V d os)).cells.1.2.2.2.2.2
  have g6 := fun (d : Nat) (os : Array Obj) => (N11.out.below (below_regrown V d os)).cells.1.1
  have g7 := fun (d : Nat) (os : Array Obj) => (N11.out.below (below_regrown V d os)).cells.1.2.1
  have g8 := fun (d : Nat) (os : Array Obj) => (N11.out.below (below_regrown V d os)).cells.1.2.2.1
  have g9 := fun (d : Nat) (os : Array Obj) => (N11.out.below (below_regrown V d os)).cells.1.2.2.2.1
  have g10 := fun (d : Nat) (os : Array Obj) => (N11.out.below (below_regrown V d os)).cells.1.2.2.2.2.1
  have g11 := fun (d : Nat) (os : Array Obj) => (N11.out.below (below_regrown V d os)).cells.1.2.2.2.2.2
  have g12 := fun (d : Nat) (os : Array Obj) => (N15.out.below (below_regrown V d os)).cells.1.1
  have g13 := fun (d : Nat) (os : Array Obj) => (N15.out.below (below_regrown V d os)).cells.1.2.1
  have g14 := fun (d : Nat) (os : Array Obj) => (N15.out.below (below_regrown V d os)).cells.1.2.2.1
  have g15 := fun (d : Nat) (os : Array Obj) => (N15.out.below (below_regrown V d os)).cells.1.2.2.2.1
  have g16 := fun (d : Nat) (os : Array Obj) => (N15.out.below (below_regrown V d os)).cells.1.2.2.2.2.1
  have g17 := fun (d : Nat) (os : Array Obj) => (N15.out.below (below_regrown V d os)).cells.1.2.2.2.2.2
  have g18 := fun (d : Nat) (os : Array Obj) => (F13.out.below (below_regrown V d os)).cell 0
  have g19 := fun (d : Nat) (os : Array Obj) => (F13.out.below (below_regrown V d os)).cell 1
  have g20 := fun (d : Nat) (os : Array Obj) => (HX.out.refs (Below.step B4V.out (below_regrown V d os))).1.1
  have g21 := fun (d : Nat) (os : Array Obj) => (HX.out.refs (Below.step B4V.out (below_regrown V d os))).1.2
  simp only [List.getElem?_toArray, List.getElem?_cons_zero, List.getElem?_cons_succ] at g18 g19
  clear hRK hroomL
  refine wp_region_quiet_below (by kernel_rfl) (by kernel_rfl) ?_
  repeat (any_goals (first | go_big_quiet_step (first
    | (go_at_call 12; with_reducible exact Calls.regrown_of (HSm.out _ _))
    | (go_at_call 7; with_reducible exact Calls.regrown_of (HRi.out _ _))
    | (go_at_call 13; with_reducible exact Calls.regrown_of (HRo.out _ _))) | quiet_step (fail)))
  refine wpQuiet_nil ?_
  intro V2 hw2
  have hb2 : Below V.heap.size V V2 := by obtain ⟨pp, rfl⟩ := hw2; exact below_regrown _ _ _
  clear hw2 drk drk2 HSm HRi HRo g0 g1 g2 g3 g4 g5 g6 g7 g8 g9 g10 g11 g12 g13 g14 g15 g16 g17 g18 g19 g20 g21
  have HBV := Lib.hid hb2
  have M0 := Lib.hid (N0.out.below hb2)
  have M11 := Lib.hid (N11.out.below hb2)
  have B4W := Lib.hid (Below.step B4V.out hb2)
  have B6W := Lib.hid (Below.step HB9.out hb2)
  clear hb2 N0 N11 N15 F13
  have hmw : (m : Int) < 1000 := by omega
  go_wp2_with fail
  go_loopw [19, 20, 21] (fun cv v20 v21 wr => LpR V2 wr m cv) (fun cv _ _ _ => m - (intOf cv).toNat)
  case atStart => exact ⟨⟨0, rfl, Nat.zero_le _, Below.refl _ _⟩⟩
  case round =>
    obtain ⟨⟨c, rfl, hcn, hbw⟩⟩ := hrel
    have HBW := Lib.hid hbw
    have n0 := M0.out.below hbw
    have n11 := M11.out.below hbw
    obtain ⟨⟨x0, x1, x2, x3, x4, x5⟩, -⟩ := n0.cells
    by_cases hab : c < m
    · have hcl : c < l.length := by have := HSL.out.1; omega
      obtain ⟨⟨xb, xs, xg⟩, hx⟩ : ∃ x, l[c]? = some x := ⟨_, List.getElem?_eq_getElem hcl⟩
      obtain ⟨a1, c1, e1, hcb⟩ := n0.nd.b
      obtain ⟨a2, c2, e2, hcr⟩ := n0.nd.r
      obtain ⟨blk, off, hba, hlt, hbc⟩ := hcb c xb (by show (l.map (·.1))[c]? = _; rw [List.getElem?_map, hx]; rfl)
      obtain ⟨blk2, off2, hka, hlt2, hks, hkg⟩ := hcr c (xs, xg) (by show (l.map (·.2))[c]? = _; rw [List.getElem?_map, hx]; rfl)
      cases e1
      cases e2
      subst hba hka
      dsimp only at hks hkg
      obtain ⟨hxi, hxa⟩ := HEL.out _ (List.mem_of_getElem? hx)
      dsimp only at hxi hxa
      have hfx : refOf xb L = refV xs xg := by rw [refOf, if_pos hxi, hxa]
      have HFx : Hid (∀ w, Below wr.heap.size wr w → Calls Tryd.prog 8 #[.agg #[.int .i64 k2, .string ⟨#[]⟩, .string ⟨#[]⟩, .string p, .slice ba5 (m + 1) bc5, .slice ka5 (m + 1) kc5], .int .u8 (xb.toNat : Int)] w fun e w' => e = .returned (.tuple #[refV xs xg, .bool true]) ∧ Below w.heap.size w w') := by
        intro w hb
        have h1 := HF2.out w (Below.step B6W.out (Below.step hbw hb)) xb
        rw [hfx, hxi] at h1
        exact h1
      have KS : Hid (∀ w, Below wr.heap.size wr w → ((w.cell? ⟨P11, 0, none⟩ = some (.int .i64 k2) ∧ w.cell? ⟨P11, 1, none⟩ = some (.string ⟨#[]⟩) ∧ w.cell? ⟨P11, 2, none⟩ = some (.string ⟨#[]⟩) ∧ w.cell? ⟨P11, 3, none⟩ = some (.string p) ∧ w.cell? ⟨P11, 4, none⟩ = some (.slice ba5 (m + 1) bc5) ∧ w.cell? ⟨P11, 5, none⟩ = some (.slice ka5 (m + 1) kc5)) ∧ w.cell? ⟨W.heap.size, 4, none⟩ = some (.slice (some ⟨blk, off, none⟩) m bc) ∧ w.cell? ⟨blk, off + c, none⟩ = some (.int .u8 (xb.toNat : Int)))) := fun w hb => ⟨(n11.below hb).cells.1, (n0.below hb).cells.1.2.2.2.2.1, (hb.cell (p := ⟨blk, off + c, none⟩) hlt).trans hbc⟩
      have KR : Hid (∀ w, Below wr.heap.size wr w → (w.cell? ⟨W.heap.size, 5, none⟩ = some (.slice (some ⟨blk2, off2, none⟩) m kc) ∧ w.cell? ⟨blk2, off2 + c * 2, none⟩ = some (.int .i64 xs) ∧ w.cell? ⟨blk2, off2 + c * 2 + 1, none⟩ = some (.int .u32 xg))) := fun w hb => ⟨(n0.below hb).cells.1.2.2.2.2.2, (hb.cell (p := ⟨blk2, off2 + c * 2, none⟩) hlt2).trans hks, (hb.cell (p := ⟨blk2, off2 + c * 2 + 1, none⟩) hlt2).trans hkg⟩
      have c0 : (0 : Int) ≤ (c : Int) := by omega
      have c1 : (c : Int) < (m : Int) := by omega
      have jd : decide (c < m) = true := decide_eq_true hab
      clear n0 n11 hbw hcl hcb hcr hlt hlt2 hbc hks hkg hxi hxa hfx hx
      go_upto_region 17 with fail
      clear x0 x1 x2 x3 x4 x5
      go_cut [20, 21] (fun s20 s21 wx => ∃ P, s20 = .pointer (some ⟨P, 0, none⟩) ∧ s21 = .bool true ∧ Below wr.heap.size wr wx ∧ Fresh wx P #[.int .i64 xs, .int .u32 xg] 29)
      case first =>
        refine wp_region_held_drew (S := fun W' => (W'.cell? ⟨P11, 0, none⟩ = some (.int .i64 k2) ∧ W'.cell? ⟨P11, 1, none⟩ = some (.string ⟨#[]⟩) ∧ W'.cell? ⟨P11, 2, none⟩ = some (.string ⟨#[]⟩) ∧ W'.cell? ⟨P11, 3, none⟩ = some (.string p) ∧ W'.cell? ⟨P11, 4, none⟩ = some (.slice ba5 (m + 1) bc5) ∧ W'.cell? ⟨P11, 5, none⟩ = some (.slice ka5 (m + 1) kc5)) ∧ W'.cell? ⟨W.heap.size, 4, none⟩ = some (.slice (some ⟨blk, off, none⟩) m bc) ∧ W'.cell? ⟨blk, off + c, none⟩ = some (.int .u8 (xb.toNat : Int))) (by kernel_rfl) ?_ (fun hHeld => ?_)
        · (try dsimp only)
          exact KS.out _ (Below.refl wr.heap.size wr).drew
        refine wpAnyH_take (i := 0) (oi := ?_) (v := ?_) ?_ (by kernel_rfl) (by kernel_rfl) (by kernel_rfl) ?_ (Or.inl ⟨?_, ?_⟩) (by assumption) ?_
        rotate_left 2
        · simp only [List.getElem?_toArray, List.getElem?_cons_succ, List.getElem?_cons_zero] <;> rfl
        · exact fun _ _ _ h => h
        · rfl
        · (intro w hSw; (try dsimp only at hSw); go_simp; try (with_reducible rfl))
        try simp only [Act.put, List.setIfInBounds_toArray, List.set_cons_zero, List.set_cons_succ]
        refine wpAnyH_take (i := 1) (oi := ?_) (v := ?_) ?_ (by kernel_rfl) (by kernel_rfl) (by kernel_rfl) ?_ (Or.inl ⟨?_, ?_⟩) (by assumption) ?_
        rotate_left 2
        · simp only [List.getElem?_toArray, List.getElem?_cons_succ, List.getElem?_cons_zero] <;> rfl
        · exact fun _ _ _ h => h
        · rfl
        · (intro w hSw; (try dsimp only at hSw); go_simp; try (with_reducible rfl))
        try simp only [Act.put, List.setIfInBounds_toArray, List.set_cons_zero, List.set_cons_succ]
        refine wpAnyH_take (i := 2) (oi := ?_) (v := ?_) ?_ (by kernel_rfl) (by kernel_rfl) (by kernel_rfl) ?_ (Or.inl ⟨?_, ?_⟩) (by assumption) ?_
        rotate_left 2
        · simp only [List.getElem?_toArray, List.getElem?_cons_succ, List.getElem?_cons_zero] <;> rfl
        · exact fun _ _ _ h => h
        · rfl
        · (intro w hSw; (try dsimp only at hSw); go_simp; try (with_reducible rfl))
        try simp only [Act.put, List.setIfInBounds_toArray, List.set_cons_zero, List.set_cons_succ]
        refine wpAnyH_take (i := 3) (oi := ?_) (v := ?_) ?_ (by kernel_rfl) (by kernel_rfl) (by kernel_rfl) ?_ (Or.inl ⟨?_, ?_⟩) (by assumption) ?_
        rotate_left 2
        · simp only [List.getElem?_toArray, List.getElem?_cons_succ, List.getElem?_cons_zero] <;> rfl
        · exact fun _ _ _ h => h
        · rfl
        · (intro w hSw; (try dsimp only at hSw); go_simp; try (with_reducible rfl))
        try simp only [Act.put, List.setIfInBounds_toArray, List.set_cons_zero, List.set_cons_succ]
        refine wpAnyH_take (i := 4) (oi := ?_) (v := ?_) ?_ (by kernel_rfl) (by kernel_rfl) (by kernel_rfl) ?_ (Or.inl ⟨?_, ?_⟩) (by assumption) ?_
        rotate_left 2
        · simp only [List.getElem?_toArray, List.getElem?_cons_succ, List.getElem?_cons_zero] <;> rfl
        · exact fun _ _ _ h => h
        · rfl
        · (intro w hSw; (try dsimp only at hSw); go_simp; try (with_reducible rfl))
        try simp only [Act.put, List.setIfInBounds_toArray, List.set_cons_zero, List.set_cons_succ]
        refine wpAnyH_take (i := 5) (oi := ?_) (v := ?_) ?_ (by kernel_rfl) (by kernel_rfl) (by kernel_rfl) ?_ (Or.inl ⟨?_, ?_⟩) (by assumption) ?_
        rotate_left 2
        · simp only [List.getElem?_toArray, List.getElem?_cons_succ, List.getElem?_cons_zero] <;> rfl
        · exact fun _ _ _ h => h
        · rfl
        · (intro w hSw; (try dsimp only at hSw); go_simp; try (with_reducible rfl))
        try simp only [Act.put, List.setIfInBounds_toArray, List.set_cons_zero, List.set_cons_succ]
        refine wpAnyH_ready (rs := [6, 10]) (by kernel_rfl) (by simp) ?_
        refine AllReadyH.cons (o := _) (by simp only [List.getElem?_toArray, List.getElem?_cons_succ, List.getElem?_cons_zero] <;> rfl) (fun K hK => ?_) ?_
        · go_simp
          refine (HFx.out _ (Below.refl wr.heap.size wr).drew).mono ?_
          rintro e5 w5x ⟨rfl, hb5⟩
          have HB5x := Lib.hid (Below.step (w := wr) ((Below.refl wr.heap.size wr).drew) hb5)
          clear hb5
          go_wp2_with fail
          refine hK.out _ _ ?_ (fun hHeld => ?_)
          · (try dsimp only)
            exact KS.out _ HB5x.out
          clear hK K
          try simp only [Act.put, List.setIfInBounds_toArray, List.set_cons_zero, List.set_cons_succ]
          refine wpAnyH_take (i := 7) (oi := ?_) (v := ?_) ?_ (by kernel_rfl) (by kernel_rfl) (by kernel_rfl) ?_ (Or.inl ⟨?_, ?_⟩) (by assumption) ?_
          rotate_left 2
          · simp only [List.getElem?_toArray, List.getElem?_cons_succ, List.getElem?_cons_zero] <;> rfl
          · exact fun _ _ _ h => h
          · rfl
          · (intro w hSw; (try dsimp only at hSw); go_simp; try (with_reducible rfl))
          try simp only [Act.put, List.setIfInBounds_toArray, List.set_cons_zero, List.set_cons_succ]
          refine wpAnyH_take (i := 8) (oi := ?_) (v := ?_) ?_ (by kernel_rfl) (by kernel_rfl) (by kernel_rfl) ?_ (Or.inl ⟨?_, ?_⟩) (by assumption) ?_
          rotate_left 2
          · simp only [List.getElem?_toArray, List.getElem?_cons_succ, List.getElem?_cons_zero] <;> rfl
          · exact fun _ _ _ h => h
          · rfl
          · (intro w hSw; (try dsimp only at hSw); go_simp; try (with_reducible rfl))
          try simp only [Act.put, List.setIfInBounds_toArray, List.set_cons_zero, List.set_cons_succ]
          refine wpAnyH_take (i := 9) (oi := ?_) (v := ?_) ?_ (by kernel_rfl) (by kernel_rfl) (by kernel_rfl) ?_ (Or.inl ⟨?_, ?_⟩) (by assumption) ?_
          rotate_left 2
          · simp only [List.getElem?_toArray, List.getElem?_cons_succ, List.getElem?_cons_zero] <;> rfl
          · exact fun _ _ _ h => h
          · rfl
          · (intro w hSw; (try dsimp only at hSw); go_simp; try (with_reducible rfl))
          try simp only [Act.put, List.setIfInBounds_toArray, List.set_cons_zero, List.set_cons_succ]
          refine wpAnyH_ready (rs := [10]) (by kernel_rfl) (by simp) ?_
          refine AllReadyH.cons (o := _) (by simp only [List.getElem?_toArray, List.getElem?_cons_succ, List.getElem?_cons_zero] <;> rfl) (fun K hK => ?_) ?_
          · go_simp
            refine hK.out _ _ ?_ (fun hHeld => ?_)
            · (try dsimp only)
              exact KS.out _ (Below.new (HB5x.out) _)
            clear hK K
            try simp only [Act.put, List.setIfInBounds_toArray, List.set_cons_zero, List.set_cons_succ]
            refine wpAnyH_ready (rs := [11]) (by kernel_rfl) (by simp) ?_
            refine AllReadyH.cons (o := _) (by simp only [List.getElem?_toArray, List.getElem?_cons_succ, List.getElem?_cons_zero] <;> rfl) (fun K hK => ?_) ?_
            · go_simp
              refine hK.out _ _ ?_ (fun hHeld => ?_)
              · (try dsimp only)
                exact KS.out _ (ref_new (s := xs) (g := xg) HB5x.out rfl).1
              clear hK K
              try simp only [Act.put, List.setIfInBounds_toArray, List.set_cons_zero, List.set_cons_succ]
              refine wpAnyH_take (i := 12) (oi := ?_) (v := ?_) ?_ (by kernel_rfl) (by kernel_rfl) (by kernel_rfl) ?_ (Or.inl ⟨?_, ?_⟩) (by assumption) ?_
              rotate_left 2
              · simp only [List.getElem?_toArray, List.getElem?_cons_succ, List.getElem?_cons_zero] <;> rfl
              · exact fun _ _ _ h => h
              · rfl
              · (intro w hSw; (try dsimp only at hSw); go_simp; try (with_reducible rfl))
              try simp only [Act.put, List.setIfInBounds_toArray, List.set_cons_zero, List.set_cons_succ]
              refine wpAnyH_done (by kernel_rfl) ?_ _
              go_wp2_with fail
              go_meet
              have h := ref_new (s := xs) (g := xg) HB5x.out rfl
              exact ⟨_, rfl, rfl, h.1, h.2⟩
            exact AllReadyH.nil
          exact AllReadyH.nil
        refine AllReadyH.cons (o := _) (by simp only [List.getElem?_toArray, List.getElem?_cons_succ, List.getElem?_cons_zero] <;> rfl) (fun K hK => ?_) ?_
        · go_simp
          refine hK.out _ _ ?_ (fun hHeld => ?_)
          · (try dsimp only)
            exact KS.out _ (Below.new ((Below.refl wr.heap.size wr).drew) _)
          clear hK K
          try simp only [Act.put, List.setIfInBounds_toArray, List.set_cons_zero, List.set_cons_succ]
          refine wpAnyH_ready (rs := [6]) (by kernel_rfl) (by simp) ?_
          refine AllReadyH.cons (o := _) (by simp only [List.getElem?_toArray, List.getElem?_cons_succ, List.getElem?_cons_zero] <;> rfl) (fun K hK => ?_) ?_
          · go_simp
            refine (HFx.out _ (Below.new ((Below.refl wr.heap.size wr).drew) _)).mono ?_
            rintro e5 w5x ⟨rfl, hb5⟩
            have F5 := (Fresh.new wr.drew wr.heap.size #[.int .i64 0, .int .u32 0] 29 rfl).below hb5
            have z0 := F5.cell 0
            have z1 := F5.cell 1
            have q0 := F5.thawed 0
            have q1 := F5.thawed 1
            simp only [List.getElem?_toArray, List.getElem?_cons_zero, List.getElem?_cons_succ] at z0 z1
            have HF5x := Lib.hid F5
            clear F5
            have HB5x := Lib.hid (Below.step (w := wr) ((Below.new ((Below.refl wr.heap.size wr).drew) _)) hb5)
            clear hb5
            go_wp2_with fail
            refine hK.out _ _ ?_ (fun hHeld => ?_)
            · (try dsimp only)
              exact KS.out _ HB5x.out
            clear hK K
            try simp only [Act.put, List.setIfInBounds_toArray, List.set_cons_zero, List.set_cons_succ]
            refine wpAnyH_take (i := 7) (oi := ?_) (v := ?_) ?_ (by kernel_rfl) (by kernel_rfl) (by kernel_rfl) ?_ (Or.inl ⟨?_, ?_⟩) (by assumption) ?_
            rotate_left 2
            · simp only [List.getElem?_toArray, List.getElem?_cons_succ, List.getElem?_cons_zero] <;> rfl
            · exact fun _ _ _ h => h
            · rfl
            · (intro w hSw; (try dsimp only at hSw); go_simp; try (with_reducible rfl))
            try simp only [Act.put, List.setIfInBounds_toArray, List.set_cons_zero, List.set_cons_succ]
            refine wpAnyH_take (i := 8) (oi := ?_) (v := ?_) ?_ (by kernel_rfl) (by kernel_rfl) (by kernel_rfl) ?_ (Or.inl ⟨?_, ?_⟩) (by assumption) ?_
            rotate_left 2
            · simp only [List.getElem?_toArray, List.getElem?_cons_succ, List.getElem?_cons_zero] <;> rfl
            · exact fun _ _ _ h => h
            · rfl
            · (intro w hSw; (try dsimp only at hSw); go_simp; try (with_reducible rfl))
            try simp only [Act.put, List.setIfInBounds_toArray, List.set_cons_zero, List.set_cons_succ]
            refine wpAnyH_take (i := 9) (oi := ?_) (v := ?_) ?_ (by kernel_rfl) (by kernel_rfl) (by kernel_rfl) ?_ (Or.inl ⟨?_, ?_⟩) (by assumption) ?_
            rotate_left 2
            · simp only [List.getElem?_toArray, List.getElem?_cons_succ, List.getElem?_cons_zero] <;> rfl
            · exact fun _ _ _ h => h
            · rfl
            · (intro w hSw; (try dsimp only at hSw); go_simp; try (with_reducible rfl))
            try simp only [Act.put, List.setIfInBounds_toArray, List.set_cons_zero, List.set_cons_succ]
            refine wpAnyH_ready (rs := [11]) (by kernel_rfl) (by simp) ?_
            refine AllReadyH.cons (o := _) (by simp only [List.getElem?_toArray, List.getElem?_cons_succ, List.getElem?_cons_zero] <;> rfl) (fun K hK => ?_) ?_
            · go_simp
              refine hK.out _ _ ?_ (fun hHeld => ?_)
              · (try dsimp only)
                exact KS.out _ (ref_fill (s := xs) (g := xg) HB5x.out HF5x.out (Nat.le_refl wr.heap.size) rfl).1
              clear hK K
              try simp only [Act.put, List.setIfInBounds_toArray, List.set_cons_zero, List.set_cons_succ]
              refine wpAnyH_take (i := 12) (oi := ?_) (v := ?_) ?_ (by kernel_rfl) (by kernel_rfl) (by kernel_rfl) ?_ (Or.inl ⟨?_, ?_⟩) (by assumption) ?_
              rotate_left 2
              · simp only [List.getElem?_toArray, List.getElem?_cons_succ, List.getElem?_cons_zero] <;> rfl
              · exact fun _ _ _ h => h
              · rfl
              · (intro w hSw; (try dsimp only at hSw); go_simp; try (with_reducible rfl))
              try simp only [Act.put, List.setIfInBounds_toArray, List.set_cons_zero, List.set_cons_succ]
              refine wpAnyH_done (by kernel_rfl) ?_ _
              go_wp2_with fail
              go_meet
              have h := ref_fill (s := xs) (g := xg) HB5x.out HF5x.out (Nat.le_refl wr.heap.size) rfl
              exact ⟨_, rfl, rfl, h.1, h.2⟩
            exact AllReadyH.nil
          exact AllReadyH.nil
        exact AllReadyH.nil
      case rest =>
        obtain ⟨P20, rfl, rfl, hb20, f20⟩ := hcut
        obtain ⟨k5, ks, kg⟩ := KR.out _ hb20
        have r0 := f20.cell 0
        have r1 := f20.cell 1
        simp only [List.getElem?_toArray, List.getElem?_cons_zero, List.getElem?_cons_succ] at r0 r1
        have HB20 := Lib.hid (Below.step HBW.out hb20)
        clear hb20 f20 KS KR HFx
        go_wp2_with fail
        go_quiet (fail)
        go_wp2_with fail
        go_roundw
        case rel => exact ⟨⟨c + 1, by simp, by omega, below_drewN HB20.out _⟩⟩
        case measure => simp [intOf]; omega
    · obtain rfl : c = m := by omega
      have c1 : ¬ (c : Int) < (c : Int) := by omega
      have jd : decide (c < c) = false := decide_eq_false hab
      obtain ⟨⟨y0, y1, y2, y3, y4, y5⟩, -⟩ := n11.cells
      clear n0 n11 hbw hcn HEL
      have hne2 : ¬ k = k2 := fun e => hne e.symm
      have dne : decide (k2 = k) = false := decide_eq_false hne
      go_wp2_with (go_at_call 14; refine (HFull.out _ (Below.step B4W.out HBW.out)).mono ?_; rintro e20 w20 ⟨rfl, hb⟩; have HB20 := Lib.hid (Below.step HBW.out hb); obtain ⟨⟨x0, x1, x2, x3, x4, x5⟩, -⟩ := (M0.out.below HB20.out).cells; obtain ⟨⟨y0, y1, y2, y3, y4, y5⟩, -⟩ := (M11.out.below HB20.out).cells; clear hb)
      go_ret
      exact ⟨by first | rfl | simp, Below.step HX.out.low (Below.step B4W.out HB20.out)⟩

end
end Go.Proofs.YtjaijomkdgoenaaDoor.Nd
