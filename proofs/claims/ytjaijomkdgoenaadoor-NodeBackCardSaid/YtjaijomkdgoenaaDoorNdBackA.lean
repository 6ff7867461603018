/- NodeBack: the ways that end early (printed by mkback.py). -/
import Derived.Test.YtjaijomkdgoenaaDoorNdAwake
namespace Go.Proofs.YtjaijomkdgoenaaDoor.Nd
open Go.RowKit
open Mn
set_option maxRecDepth 1000000
set_option maxHeartbeats 4000000

theorem empty_ba {c : ByteArray} (h : c.toList = []) : c = ⟨#[]⟩ := by
  have h2 : c.data.toList = [] := by
    rcases c with ⟨⟨l⟩⟩
    cases l with
    | nil => rfl
    | cons a l =>
      exfalso
      rw [ByteArray.toList, ByteArray.toList.loop] at h
      simp [ByteArray.size] at h
      have : ∀ (i : Nat) (r : List UInt8), r ≠ [] → ByteArray.toList.loop ⟨⟨a :: l⟩⟩ i r ≠ [] := by
        intro i r
        induction hm : (⟨⟨a :: l⟩⟩ : ByteArray).size - i generalizing i r with
        | zero =>
          intro hr
          rw [ByteArray.toList.loop]
          rw [if_neg (by omega)]
          simpa using hr
        | succ m ih =>
          intro hr
          rw [ByteArray.toList.loop]
          rw [if_pos (by omega)]
          exact ih _ _ (by omega) (by simp)
      exact this _ _ (by simp) h
  rcases c with ⟨⟨l⟩⟩
  simp at h2
  subst h2
  rfl

/-- A right node that is no leaf, by its kids. -/
theorem right_nb {n : No} (h : n.right = true) (hk : n.k ≠ 1) : n = nb n.k n.p n.ens ∧ n.rightInner = true := by
  have hr : n.rightInner = true := by
    unfold No.right at h
    cases hl : n.rightLeaf with
    | false => rw [hl] at h; simpa using h
    | true =>
      unfold No.rightLeaf at hl
      simp only [Bool.and_eq_true, decide_eq_true_eq] at hl
      exact absurd hl.1 hk
  refine ⟨?_, hr⟩
  have hi : n.inner = true := usable_inner (usable_of_right hr)
  obtain ⟨_, hc, hv, _, he, _⟩ := (inner_iff n).1 hi
  have e1 := ens_bs he
  have e2 := ens_rs he
  have e3 := empty_ba hc
  have e4 := empty_ba hv
  obtain ⟨k, c, v, p, bs, rs⟩ := n
  dsimp only at e3 e4
  subst e3 e4
  unfold nb
  rw [e1, e2]

section
variable {W : World} {n : No} {ba : Option Addr} {bc : Nat} {ka : Option Addr} {kc : Nat}
/-- The boxes of NodeBack's arguments. -/
structure Bk (W W4 : World) (n : No) (ba : Option Addr) (bc : Nat) (ka : Option Addr) (kc : Nat) (rs rg ss sg : Int) : Prop where
  low : Below W.heap.size W W4
  f0 : Fresh W4 W.heap.size #[.int .i64 n.k, .string n.c, .string n.v, .string n.p, .slice ba n.bs.length bc, .slice ka n.rs.length kc] 26
  f1 : Fresh W4 (W.heap.size + 1) #[.int .i64 rs, .int .u32 rg] 29
  f2 : Fresh W4 (W.heap.size + 1 + 1) #[.int .i64 ss, .int .u32 sg] 29
theorem Bk.mk' (rs rg ss sg : Int) : Bk W (((W.alloc (.cells #[.int .i64 n.k, .string n.c, .string n.v, .string n.p, .slice ba n.bs.length bc, .slice ka n.rs.length kc] 26)).alloc (.cells #[.int .i64 rs, .int .u32 rg] 29)).alloc (.cells #[.int .i64 ss, .int .u32 sg] 29)) n ba bc ka kc rs rg ss sg :=
  ⟨Below.new (Below.new (Below.new (Below.refl _ _) _) _) _, ((Fresh.new _ _ _ _ rfl).alloc _).alloc _, (Fresh.new _ _ _ _ (by simp)).alloc _, Fresh.new _ _ _ _ (by simp)⟩
theorem Bk.node {W4 w : World} {rs rg ss sg : Int} (h : Bk W W4 n ba bc ka kc rs rg ss sg) (hb : Below W4.heap.size W4 w) :
    w.cell? ⟨W.heap.size, 0, none⟩ = some (.int .i64 n.k) ∧ w.cell? ⟨W.heap.size, 1, none⟩ = some (.string n.c) ∧ w.cell? ⟨W.heap.size, 2, none⟩ = some (.string n.v) ∧ w.cell? ⟨W.heap.size, 3, none⟩ = some (.string n.p) ∧ w.cell? ⟨W.heap.size, 4, none⟩ = some (.slice ba n.bs.length bc) ∧ w.cell? ⟨W.heap.size, 5, none⟩ = some (.slice ka n.rs.length kc) := box6 (h.f0.below hb)
theorem Bk.refs {W4 w : World} {rs rg ss sg : Int} (h : Bk W W4 n ba bc ka kc rs rg ss sg) (hb : Below W4.heap.size W4 w) :
    (w.cell? ⟨W.heap.size + 1, 0, none⟩ = some (.int .i64 rs) ∧ w.cell? ⟨W.heap.size + 1, 1, none⟩ = some (.int .u32 rg)) ∧ (w.cell? ⟨W.heap.size + 1 + 1, 0, none⟩ = some (.int .i64 ss) ∧ w.cell? ⟨W.heap.size + 1 + 1, 1, none⟩ = some (.int .u32 sg)) :=
  ⟨⟨(h.f1.below hb).cell 0, (h.f1.below hb).cell 1⟩, (h.f2.below hb).cell 0, (h.f2.below hb).cell 1⟩
theorem back_great (hrm : Rm W) (hc : n.c.size ≤ 140737488351232) (hv : n.v.size ≤ 140737488351232) (hp : n.p.size ≤ 140737488351232) (hg : greatB n.bs.length n.rs.length n.c n.v n.p = true) (b : UInt8) (rs rg ss sg : Int) :
    Calls Tryd.prog 3 #[n.val ba bc ka kc, .int .u8 (b.toNat : Int), .agg #[.int .i64 rs, .int .u32 rg], .agg #[.int .i64 ss, .int .u32 sg]] W fun e w' => e = .returned (.bool true) ∧ Below W.heap.size W w' := by
  obtain ⟨W4, hW4⟩ : ∃ W4, W4 = ((W.alloc (.cells #[.int .i64 n.k, .string n.c, .string n.v, .string n.p, .slice ba n.bs.length bc, .slice ka n.rs.length kc] 26)).alloc (.cells #[.int .i64 rs, .int .u32 rg] 29)).alloc (.cells #[.int .i64 ss, .int .u32 sg] 29) := ⟨_, rfl⟩
  have X4 : Bk W W4 n ba bc ka kc rs rg ss sg := by rw [hW4]; exact Bk.mk' rs rg ss sg
  have HX := Lib.hid X4
  have HW4 := Lib.hid hW4
  have HAw := Lib.hid (awake_any W4 (hrm.on X4.low))
  have HG := Lib.hid (fun w => great_any n.k n.c n.v n.p ba n.bs.length bc ka n.rs.length kc w hc hv hp)
  rw [hg] at HG
  clear hrm X4 hW4 hc hv hp hg
  unfold No.val ndv at *
  go_enter Tryd.func3, Tryd.ntmps3
  go_upto_region 1 with fail
  rw [← HW4.out]
  go_wp2_with (first
    | (go_at_call 5; refine HAw.out.mono ?_; rintro e1 w1 ⟨rfl, hb⟩; have HB1 := Lib.hid hb; obtain ⟨x0, x1, x2, x3, x4, x5⟩ := HX.out.node HB1.out; clear hb)
    | (go_at_call 6; refine (HG.out _).mono ?_; rintro e2 w2 ⟨rfl, hb⟩; have HB2 := Lib.hid (Below.step HB1.out hb); obtain ⟨x0, x1, x2, x3, x4, x5⟩ := HX.out.node HB2.out; clear hb))
  go_ret
  exact ⟨by first | rfl | simp, Below.step HX.out.low HB2.out⟩
theorem back_wrong (hrm : Rm W) (hc : n.c.size ≤ 140737488351232) (hv : n.v.size ≤ 140737488351232) (hp : n.p.size ≤ 140737488351232) (hg : greatB n.bs.length n.rs.length n.c n.v n.p = false) (h : NdAt W n ba bc ka kc) (hr : n.right = false) (b : UInt8) (rs rg ss sg : Int) :
    Calls Tryd.prog 3 #[n.val ba bc ka kc, .int .u8 (b.toNat : Int), .agg #[.int .i64 rs, .int .u32 rg], .agg #[.int .i64 ss, .int .u32 sg]] W fun e w' => e = .returned (.bool true) ∧ Below W.heap.size W w' := by
  obtain ⟨W4, hW4⟩ : ∃ W4, W4 = ((W.alloc (.cells #[.int .i64 n.k, .string n.c, .string n.v, .string n.p, .slice ba n.bs.length bc, .slice ka n.rs.length kc] 26)).alloc (.cells #[.int .i64 rs, .int .u32 rg] 29)).alloc (.cells #[.int .i64 ss, .int .u32 sg] 29) := ⟨_, rfl⟩
  have X4 : Bk W W4 n ba bc ka kc rs rg ss sg := by rw [hW4]; exact Bk.mk' rs rg ss sg
  have HX := Lib.hid X4
  have HW4 := Lib.hid hW4
  have HAw := Lib.hid (awake_any W4 (hrm.on X4.low))
  have HG := Lib.hid (fun w => great_any n.k n.c n.v n.p ba n.bs.length bc ka n.rs.length kc w hc hv hp)
  rw [hg] at HG
  have HR := Lib.hid (fun w (hb : Below W4.heap.size W4 w) => right_any ((h.below X4.low).below hb))
  rw [hr] at HR
  clear hrm X4 hW4 hc hv hp hg hr h
  unfold No.val ndv at *
  go_enter Tryd.func3, Tryd.ntmps3
  go_upto_region 1 with fail
  rw [← HW4.out]
  go_wp2_with (first
    | (go_at_call 5; refine HAw.out.mono ?_; rintro e1 w1 ⟨rfl, hb⟩; have HB1 := Lib.hid hb; obtain ⟨x0, x1, x2, x3, x4, x5⟩ := HX.out.node HB1.out; clear hb)
    | (go_at_call 6; refine (HG.out _).mono ?_; rintro e2 w2 ⟨rfl, hb⟩; have HB2 := Lib.hid (Below.step HB1.out hb); obtain ⟨x0, x1, x2, x3, x4, x5⟩ := HX.out.node HB2.out; clear hb)
    | (go_at_call 7; refine (HR.out _ HB2.out).mono ?_; rintro e3 w3 ⟨rfl, hb⟩; have HB3 := Lib.hid (Below.step HB2.out hb); obtain ⟨x0, x1, x2, x3, x4, x5⟩ := HX.out.node HB3.out; clear hb))
  go_ret
  exact ⟨by first | rfl | simp, Below.step HX.out.low HB3.out⟩
theorem back_leaf (hrm : Rm W) (hc : n.c.size ≤ 140737488351232) (hv : n.v.size ≤ 140737488351232) (hp : n.p.size ≤ 140737488351232) (hg : greatB n.bs.length n.rs.length n.c n.v n.p = false) (h : NdAt W n ba bc ka kc) (hr : n.right = true) (hk : n.k = 1) (b : UInt8) (rs rg ss sg : Int) :
    Calls Tryd.prog 3 #[n.val ba bc ka kc, .int .u8 (b.toNat : Int), .agg #[.int .i64 rs, .int .u32 rg], .agg #[.int .i64 ss, .int .u32 sg]] W fun e w' => e = .returned (.bool true) ∧ Below W.heap.size W w' := by
  have e1 := hk
  obtain ⟨W4, hW4⟩ : ∃ W4, W4 = ((W.alloc (.cells #[.int .i64 n.k, .string n.c, .string n.v, .string n.p, .slice ba n.bs.length bc, .slice ka n.rs.length kc] 26)).alloc (.cells #[.int .i64 rs, .int .u32 rg] 29)).alloc (.cells #[.int .i64 ss, .int .u32 sg] 29) := ⟨_, rfl⟩
  have X4 : Bk W W4 n ba bc ka kc rs rg ss sg := by rw [hW4]; exact Bk.mk' rs rg ss sg
  have HX := Lib.hid X4
  have HW4 := Lib.hid hW4
  have HAw := Lib.hid (awake_any W4 (hrm.on X4.low))
  have HG := Lib.hid (fun w => great_any n.k n.c n.v n.p ba n.bs.length bc ka n.rs.length kc w hc hv hp)
  rw [hg] at HG
  have HR := Lib.hid (fun w (hb : Below W4.heap.size W4 w) => right_any ((h.below X4.low).below hb))
  rw [hr] at HR
  rw [e1] at HG hW4
  have HW4b := HW4
  clear HW4
  have HW4 := Lib.hid hW4
  have HE := Lib.hid e1
  have hnode := fun w hb => X4.node (w := w) hb
  rw [e1] at hnode
  have HNd := Lib.hid hnode
  clear hrm X4 hW4 hc hv hp hg hr h hnode hk HW4b
  unfold No.val ndv at *
  rw [e1] at HR ⊢
  clear e1
  go_enter Tryd.func3, Tryd.ntmps3
  go_upto_region 1 with fail
  rw [← HW4.out]
  go_wp2_with (first
    | (go_at_call 5; refine HAw.out.mono ?_; rintro e1 w1 ⟨rfl, hb⟩; have HB1 := Lib.hid hb; obtain ⟨x0, x1, x2, x3, x4, x5⟩ := HNd.out _ HB1.out; clear hb)
    | (go_at_call 6; refine (HG.out _).mono ?_; rintro e2 w2 ⟨rfl, hb⟩; have HB2 := Lib.hid (Below.step HB1.out hb); obtain ⟨x0, x1, x2, x3, x4, x5⟩ := HNd.out _ HB2.out; clear hb)
    | (go_at_call 7; refine (HR.out _ HB2.out).mono ?_; rintro e3 w3 ⟨rfl, hb⟩; have HB3 := Lib.hid (Below.step HB2.out hb); obtain ⟨x0, x1, x2, x3, x4, x5⟩ := HNd.out _ HB3.out; clear hb))
  go_ret
  exact ⟨by first | rfl | (simp; done), Below.step HX.out.low HB3.out⟩
end
end Go.Proofs.YtjaijomkdgoenaaDoor.Nd
