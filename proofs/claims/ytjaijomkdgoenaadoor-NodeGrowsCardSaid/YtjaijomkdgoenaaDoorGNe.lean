/- Texts of stage 9, merged: NdSame, NdFind, NdLaw1, NdLaw2, NdNb, NdAwakeB. -/
import Derived.Test.YtjaijomkdgoenaaDoorNdMake
import Derived.Test.YtjaijomkdgoenaaDoorMnAdd
/- SameBytes, SameRefs, SameNode of the same. -/
namespace Go.Proofs.YtjaijomkdgoenaaDoor.Nd
open Go.RowKit
open Mn
set_option maxRecDepth 1000000
set_option maxHeartbeats 4000000

theorem sameBytes_any {W : World} {l : List UInt8} {v1 v2 : Value} (h1 : BR W l v1) (h2 : BR W l v2) (hn : l.length < 1000000) :
    Calls Tryd.prog 28 #[v1, v2] W fun e w' => e = .returned (.bool true) ∧ Below W.heap.size W w' := by
  obtain ⟨ao, cap, rfl, hc⟩ := h1
  obtain ⟨ao2, cap2, rfl, hc2⟩ := h2
  have hcell := Lib.hid hc
  have hcell2 := Lib.hid hc2
  obtain ⟨n, hnn⟩ : ∃ n, l.length = n := ⟨_, rfl⟩
  have hget : Hid (∀ j, j < n → ∃ k, l[j]? = some k) := fun j hj => ⟨_, List.getElem?_eq_getElem (by rw [hnn]; exact hj)⟩
  have hbig : Hid (n < 1000000) := by show _ < _; rw [← hnn]; exact hn
  rw [hnn]
  clear hc hc2 hn hnn
  go_enter Tryd.func28, Tryd.ntmps28
  go_wp2_with fail
  go_loopw [5] (fun cv wr => ∃ c : Nat, cv = .int .i64 c ∧ c ≤ n ∧ Below W.heap.size W wr) (fun cv _ => n - (intOf cv).toNat)
  case atStart => exact ⟨0, rfl, Nat.zero_le _, Below.refl _ _⟩
  case round =>
    obtain ⟨c, rfl, hcn, hbw⟩ := hrel
    have n6 := hbig.out
    have HBW := Lib.hid hbw
    by_cases hab : c < n
    · obtain ⟨k, hk⟩ := hget.out c hab
      obtain ⟨blk, off, rfl, hlt, hcl⟩ := hcell.out c k hk
      obtain ⟨blk2, off2, rfl, hlt2, hcl2⟩ := hcell2.out c k hk
      replace hcl := (hbw.cell (p := ⟨blk, off + c, none⟩) hlt).trans hcl
      replace hcl2 := (hbw.cell (p := ⟨blk2, off2 + c, none⟩) hlt2).trans hcl2
      have c0 : (0 : Int) ≤ (c : Int) := by omega
      have c1 : (c : Int) < (n : Int) := by omega
      have jd : decide (c < n) = true := decide_eq_true hab
      clear hk hbw hlt hlt2 hcell hcell2 hget
      go_wp2_with fail
      go_quiet (fail)
      go_wp2_with fail
      go_roundw
      case rel => exact ⟨c + 1, by simp, by omega, below_drewN HBW.out _⟩
      case measure => simp [intOf]; omega
    · obtain rfl : c = n := by omega
      have c1 : ¬ (c : Int) < (c : Int) := by omega
      have jd : decide (c < c) = false := decide_eq_false hab
      clear hbw hcell hcell2 hget
      go_wp2_with fail
      go_ret
      exact ⟨by first | rfl | simp, HBW.out⟩

theorem sameRefs_any {W : World} {l : List (Int × Int)} {v1 v2 : Value} (h1 : RR W l v1) (h2 : RR W l v2) (hn : l.length < 1000000) :
    Calls Tryd.prog 29 #[v1, v2] W fun e w' => e = .returned (.bool true) ∧ Below W.heap.size W w' := by
  obtain ⟨ao, cap, rfl, hc⟩ := h1
  obtain ⟨ao2, cap2, rfl, hc2⟩ := h2
  have hcell := Lib.hid hc
  have hcell2 := Lib.hid hc2
  obtain ⟨n, hnn⟩ : ∃ n, l.length = n := ⟨_, rfl⟩
  have hget : Hid (∀ j, j < n → ∃ k, l[j]? = some k) := fun j hj => ⟨_, List.getElem?_eq_getElem (by rw [hnn]; exact hj)⟩
  have hbig : Hid (n < 1000000) := by show _ < _; rw [← hnn]; exact hn
  rw [hnn]
  clear hc hc2 hn hnn
  go_enter Tryd.func29, Tryd.ntmps29
  go_wp2_with fail
  go_loopw [5] (fun cv wr => ∃ c : Nat, cv = .int .i64 c ∧ c ≤ n ∧ Below W.heap.size W wr) (fun cv _ => n - (intOf cv).toNat)
  case atStart => exact ⟨0, rfl, Nat.zero_le _, Below.refl _ _⟩
  case round =>
    obtain ⟨c, rfl, hcn, hbw⟩ := hrel
    have n6 := hbig.out
    have HBW := Lib.hid hbw
    by_cases hab : c < n
    · obtain ⟨⟨s, g⟩, hk⟩ := hget.out c hab
      obtain ⟨blk, off, rfl, hlt, hcl, hcg⟩ := hcell.out c _ hk
      obtain ⟨blk2, off2, rfl, hlt2, hcl2, hcg2⟩ := hcell2.out c _ hk
      replace hcl := (hbw.cell (p := ⟨blk, off + c * 2, none⟩) hlt).trans hcl
      replace hcg := (hbw.cell (p := ⟨blk, off + c * 2 + 1, none⟩) hlt).trans hcg
      replace hcl2 := (hbw.cell (p := ⟨blk2, off2 + c * 2, none⟩) hlt2).trans hcl2
      replace hcg2 := (hbw.cell (p := ⟨blk2, off2 + c * 2 + 1, none⟩) hlt2).trans hcg2
      dsimp only at hcl hcg hcl2 hcg2
      have c0 : (0 : Int) ≤ (c : Int) := by omega
      have c1 : (c : Int) < (n : Int) := by omega
      have jd : decide (c < n) = true := decide_eq_true hab
      clear hk hbw hlt hlt2 hcell hcell2 hget
      go_wp2_with fail
      go_quiet (fail)
      go_wp2_with fail
      go_roundw
      case rel => exact ⟨c + 1, by simp, by omega, below_drewN HBW.out _⟩
      case measure => simp [intOf]; omega
    · obtain rfl : c = n := by omega
      have c1 : ¬ (c : Int) < (c : Int) := by omega
      have jd : decide (c < c) = false := decide_eq_false hab
      clear hbw hcell hcell2 hget
      go_wp2_with fail
      go_ret
      exact ⟨by first | rfl | simp, HBW.out⟩

section
variable {W : World} {n : No} {ba : Option Addr} {bc : Nat} {ka : Option Addr} {kc : Nat} {ba2 : Option Addr} {bc2 : Nat} {ka2 : Option Addr} {kc2 : Nat}
theorem sameNode_any (h : NdAt W n ba bc ka kc) (h2 : NdAt W n ba2 bc2 ka2 kc2) :
    Calls Tryd.prog 12 #[n.val ba bc ka kc, n.val ba2 bc2 ka2 kc2] W fun e w' => e = .returned (.bool true) ∧ Below W.heap.size W w' := by
  obtain ⟨W2, hW2⟩ : ∃ W2, W2 = (W.alloc (.cells #[.int .i64 n.k, .string n.c, .string n.v, .string n.p, .slice ba n.bs.length bc, .slice ka n.rs.length kc] 26)).alloc (.cells #[.int .i64 n.k, .string n.c, .string n.v, .string n.p, .slice ba2 n.bs.length bc2, .slice ka2 n.rs.length kc2] 26) := ⟨_, rfl⟩
  have B2 : Below W.heap.size W W2 := by rw [hW2]; exact Below.new (Below.new (Below.refl _ _) _) _
  have F1 : Fresh W2 W.heap.size #[.int .i64 n.k, .string n.c, .string n.v, .string n.p, .slice ba n.bs.length bc, .slice ka n.rs.length kc] 26 := by rw [hW2]; exact (Fresh.new _ _ _ _ rfl).alloc _
  have F2 : Fresh W2 (W.heap.size + 1) #[.int .i64 n.k, .string n.c, .string n.v, .string n.p, .slice ba2 n.bs.length bc2, .slice ka2 n.rs.length kc2] 26 := by rw [hW2]; exact Fresh.new _ _ _ _ (by simp)
  have HB := Lib.hid (sameBytes_any (h.below B2).b (h2.below B2).b h.bl)
  have HR := Lib.hid (fun w (hb : Below W2.heap.size W2 w) => sameRefs_any ((h.below B2).r.below hb) ((h2.below B2).r.below hb) h.rl)
  obtain ⟨x0, x1, x2, x3, x4, x5⟩ := box6 F1
  obtain ⟨z0, z1, z2, z3, z4, z5⟩ := box6 F2
  have HF1 := Lib.hid F1
  have HF2 := Lib.hid F2
  have HW2 := Lib.hid hW2
  have HB2 := Lib.hid B2
  clear h h2 B2 F1 F2 hW2
  unfold No.val ndv
  go_enter Tryd.func12, Tryd.ntmps12
  go_upto_region 1 with fail
  rw [← HW2.out]
  go_wp2_with (first
    | (go_at_call 28; refine HB.out.mono ?_; rintro e1 w1 ⟨rfl, hb⟩; have HB1 := Lib.hid hb; obtain ⟨x0, x1, x2, x3, x4, x5⟩ := box6 (HF1.out.below hb); obtain ⟨z0, z1, z2, z3, z4, z5⟩ := box6 (HF2.out.below hb); clear hb)
    | (go_at_call 29; refine (HR.out _ HB1.out).mono ?_; rintro e2 w2 ⟨rfl, hb⟩; have HBB := Lib.hid (Below.step HB1.out hb); clear hb))
  go_ret
  exact ⟨by first | rfl | simp, Below.step HB2.out HBB.out⟩
end
end Go.Proofs.YtjaijomkdgoenaaDoor.Nd

/- Find, of a node that is usable. -/
namespace Go.Proofs.YtjaijomkdgoenaaDoor.Nd
open Go.RowKit
open Mn
set_option maxRecDepth 1000000
set_option maxHeartbeats 4000000
section
variable {W : World} {n : No} {ba : Option Addr} {bc : Nat} {ka : Option Addr} {kc : Nat}
theorem ens_at {n : No} (he : n.bs.length = n.rs.length) {j : Nat} {x : UInt8} (h : n.bs[j]? = some x) : ∃ r, n.ens[j]? = some (x, r) ∧ n.rs[j]? = some r := by
  obtain ⟨hj, e⟩ := List.getElem?_eq_some_iff.1 h
  refine ⟨n.rs[j]'(by omega), ?_, List.getElem?_eq_getElem (by omega)⟩
  unfold No.ens
  rw [List.getElem?_zip_eq_some]
  exact ⟨h, List.getElem?_eq_getElem (by omega)⟩
theorem find_any (h : NdAt W n ba bc ka kc) (hu : n.usable = true) (b : UInt8) :
    Calls Tryd.prog 8 #[n.val ba bc ka kc, .int .u8 (b.toNat : Int)] W fun e w' => e = .returned (.tuple #[refOf b n.ens, .bool (isIn b n.ens)]) ∧ Below W.heap.size W w' := by
  obtain ⟨he, hr, hl⟩ := usable_parts hu
  have hs := ens_srt he hr
  have hel := ens_len he
  obtain ⟨p1, p2⟩ := place_split b n.ens hs
  obtain ⟨A, hA⟩ : ∃ A, placeIx b n.ens = A := ⟨_, rfl⟩
  have hAle : A ≤ n.bs.length := by rw [← hA, ← hel]; exact place_le _ _
  rw [hA] at p1 p2
  have hlo : ∀ (j : Nat) (k : UInt8), j < A → n.bs[j]? = some k → k < b := by
    intro j k hj hk
    obtain ⟨r, h1, _⟩ := ens_at he hk
    obtain ⟨h2, h3⟩ := List.getElem?_eq_some_iff.1 h1
    have := p1 j h2 hj
    rw [h3] at this
    exact UInt8.lt_iff_toNat_lt.2 this
  have hhi : ∀ (j : Nat) (k : UInt8), A ≤ j → n.bs[j]? = some k → ¬ k < b := by
    intro j k hj hk
    obtain ⟨r, h1, _⟩ := ens_at he hk
    obtain ⟨h2, h3⟩ := List.getElem?_eq_some_iff.1 h1
    have := p2 j h2 hj
    rw [h3] at this
    intro h4
    have := UInt8.lt_iff_toNat_lt.1 h4
    have h5 : b.toNat ≤ k.toNat := by assumption
    omega
  have hin : decide (n.bs[A]? = some b) = isIn b n.ens := by
    unfold isIn
    rw [hA]
    cases hx : n.bs[A]? with
    | none =>
      have : n.ens[A]? = none := by
        rw [List.getElem?_eq_none_iff] at hx ⊢
        omega
      rw [this]
      simp
    | some x =>
      obtain ⟨r, h1, _⟩ := ens_at he hx
      rw [h1]
      by_cases e : x = b <;> simp [e]
  obtain ⟨W2, hW2⟩ : ∃ W2, W2 = (W.alloc (.cells #[.int .i64 n.k, .string n.c, .string n.v, .string n.p, .slice ba n.bs.length bc, .slice ka n.rs.length kc] 26)).alloc (.cells #[.int .i64 0, .int .u32 0] 29) := ⟨_, rfl⟩
  have B2 : Below W.heap.size W W2 := by rw [hW2]; exact Below.new (Below.new (Below.refl _ _) _) _
  have F1 : Fresh W2 W.heap.size #[.int .i64 n.k, .string n.c, .string n.v, .string n.p, .slice ba n.bs.length bc, .slice ka n.rs.length kc] 26 := by rw [hW2]; exact (Fresh.new _ _ _ _ rfl).alloc _
  have F2 : Fresh W2 (W.heap.size + 1) #[.int .i64 0, .int .u32 0] 29 := by rw [hW2]; exact Fresh.new _ _ _ _ (by simp)
  have h2 := h.below B2
  have HS := Lib.hid (search_any h2.b h2.bl b A hAle hlo hhi)
  rw [hin] at HS
  have HU := Lib.hid (fun w (hb : Below W2.heap.size W2 w) => vusable_any (h2.below hb))
  rw [hu] at HU
  obtain ⟨x0, x1, x2, x3, x4, x5⟩ := box6 F1
  have HF1 := Lib.hid F1
  have HF2 := Lib.hid F2
  have HW2 := Lib.hid hW2
  have HB2 := Lib.hid B2
  have HH := Lib.hid h2
  obtain ⟨c, hc⟩ : ∃ c, isIn b n.ens = c := ⟨_, rfl⟩
  rw [hc] at HS
  cases c
  · have hrf : refOf b n.ens = refV 0 0 := by rw [refOf, if_neg (by rw [hc]; simp)]
    rw [hc, hrf]
    clear h h2 B2 F1 F2 hW2 hin hlo hhi p1 p2 hA hAle hs hel hr hl he hc hrf hu HU
    unfold No.val ndv
    go_enter Tryd.func8, Tryd.ntmps8
    go_upto_region 1 with fail
    rw [← HW2.out]
    go_wp2_with (go_at_call 21; refine HS.out.mono ?_; rintro e1 w1 ⟨rfl, hb⟩; have HB1 := Lib.hid hb; have fr := HF2.out.below hb; have r0 := fr.cell 0; have r1 := fr.cell 1; have t0 := fr.thawed 0; have t1 := fr.thawed 1; have HFR := Lib.hid fr; simp only [List.getElem?_toArray, List.getElem?_cons_zero, List.getElem?_cons_succ] at r0 r1; clear fr hb)
    have fin := (HFR.out.set 0 (.int .i64 0)).set 1 (.int .u32 0)
    have q0 := fin.cell 0
    have q1 := fin.cell 1
    simp at q0 q1
    refine bodyPost_ret (v := .tuple #[refV 0 0, .bool false]) (by rw [results_cell_tmp rfl]; simp [go_sem, q0, q1]) rfl ⟨rfl, ?_⟩
    have T : Turned [W.heap.size + 1] w1 ((w1.setCell ⟨W.heap.size + 1, 0, none⟩ (.int .i64 0)).setCell ⟨W.heap.size + 1, 1, none⟩ (.int .u32 0)) := ((Turned.refl _ _).setCell (.inl (by simp)) _ _).setCell (.inl (by simp)) _ _
    have B := Below.step HB2.out HB1.out
    exact T.below B (by intro k hk; simp at hk; omega) B.size
  · obtain ⟨s, g, h3, h4⟩ := isIn_at hc
    rw [hA] at h3
    have hrf : refOf b n.ens = refV s g := by rw [refOf, if_pos hc, h4]
    have hrA : n.rs[A]? = some (s, g) := by
      unfold No.ens at h3
      rw [List.getElem?_zip_eq_some] at h3
      exact h3.2
    have hAlt : A < n.rs.length := (List.getElem?_eq_some_iff.1 hrA).1
    rw [hc, hrf]
    obtain ⟨ao, cap, hsl, hcr⟩ := h2.r
    obtain ⟨blk, off, hka, hlt, hcs, hcg⟩ := hcr A _ hrA
    cases hsl
    dsimp only at hcs hcg
    have HK := Lib.hid (fun w (hb : Below W2.heap.size W2 w) => And.intro ((hb.cell (p := ⟨blk, off + A * 2, none⟩) hlt).trans hcs) ((hb.cell (p := ⟨blk, off + A * 2 + 1, none⟩) hlt).trans hcg))
    have cA0 : (0 : Int) ≤ (A : Int) := by omega
    have cA1 : (A : Int) < (n.rs.length : Int) := by omega
    have HLT := Lib.hid hlt
    subst hka
    clear h h2 B2 F1 F2 hW2 hin hlo hhi p1 p2 hA hAle hs hel hr hl he hc hrf hu hcr hcs hcg hrA h3 h4 hAlt hlt
    unfold No.val ndv at *
    go_enter Tryd.func8, Tryd.ntmps8
    go_upto_region 1 with fail
    rw [← HW2.out]
    go_wp2_with (first
      | (go_at_call 21; refine HS.out.mono ?_; rintro e1 w1 ⟨rfl, hb⟩; have HB1 := Lib.hid hb; obtain ⟨x0, x1, x2, x3, x4, x5⟩ := box6 (HF1.out.below hb); clear hb)
      | (go_at_call 22; refine (HU.out _ HB1.out).mono ?_; rintro e2 w2 ⟨rfl, hb⟩; have HBB := Lib.hid (Below.step HB1.out hb); obtain ⟨x0, x1, x2, x3, x4, x5⟩ := box6 (HF1.out.below HBB.out); obtain ⟨k0, k1⟩ := HK.out _ HBB.out; have fr := HF2.out.below HBB.out; have r0 := fr.cell 0; have r1 := fr.cell 1; have t0 := fr.thawed 0; have t1 := fr.thawed 1; have HFR := Lib.hid fr; simp only [List.getElem?_toArray, List.getElem?_cons_zero, List.getElem?_cons_succ] at r0 r1; clear fr hb))
    have fin := (HFR.out.set 0 (.int .i64 s)).set 1 (.int .u32 g)
    have q0 := fin.cell 0
    have q1 := fin.cell 1
    simp at q0 q1
    refine bodyPost_ret (v := .tuple #[refV s g, .bool true]) (by rw [results_cell_tmp rfl]; simp [go_sem, q0, q1]) rfl ⟨rfl, ?_⟩
    have T : Turned [W.heap.size + 1] w2 ((w2.setCell ⟨W.heap.size + 1, 0, none⟩ (.int .i64 s)).setCell ⟨W.heap.size + 1, 1, none⟩ (.int .u32 g)) := ((Turned.refl _ _).setCell (.inl (by simp)) _ _).setCell (.inl (by simp)) _ _
    have B := Below.step HB2.out HBB.out
    exact T.below B (by intro k hk; simp at hk; omega) B.size
end
end Go.Proofs.YtjaijomkdgoenaaDoor.Nd

/- The law's great, ref, inner. -/
namespace Go.Proofs.YtjaijomkdgoenaaDoor.Nd
open Go.RowKit
open Mn
set_option maxRecDepth 1000000
set_option maxHeartbeats 4000000

/-- Whether a node is too large. -/
def greatB (bn kn : Nat) (c v p : ByteArray) : Bool := decide (400 < (bn : Int)) || (decide (400 < (kn : Int)) || decide (400 < (c.size : Int) + v.size + p.size))
theorem great_any (k : Int) (c v p : ByteArray) (ba : Option Addr) (bn bc : Nat) (ka : Option Addr) (kn kc : Nat) (W : World) (h1 : c.size ≤ 140737488351232) (h2 : v.size ≤ 140737488351232) (h3 : p.size ≤ 140737488351232) :
    Calls Tryd.prog 6 #[ndv k c v p ba bn bc ka kn kc] W fun e w' => e = .returned (.bool (greatB bn kn c v p)) ∧ Below W.heap.size W w' := by
  have a1 : (0 : Int) ≤ (c.size : Int) := by omega
  have a2 : (c.size : Int) ≤ 140737488351232 := by omega
  have b1 : (0 : Int) ≤ (v.size : Int) := by omega
  have b2 : (v.size : Int) ≤ 140737488351232 := by omega
  have c1 : (0 : Int) ≤ (p.size : Int) := by omega
  have c2 : (p.size : Int) ≤ 140737488351232 := by omega
  clear h1 h2 h3
  unfold ndv greatB
  by_cases hb : 400 < (bn : Int)
  · have d1 : decide (400 < (bn : Int)) = true := decide_eq_true hb
    rw [d1]
    go_enter Tryd.func6, Tryd.ntmps6
    go_wp2_with fail
    go_ret
    exact ⟨by first | rfl | simp, Below.new (Below.refl _ _) _⟩
  have d1 : decide (400 < (bn : Int)) = false := decide_eq_false hb
  by_cases hk : 400 < (kn : Int)
  · have d2 : decide (400 < (kn : Int)) = true := decide_eq_true hk
    rw [d1, d2]
    go_enter Tryd.func6, Tryd.ntmps6
    go_wp2_with fail
    go_ret
    exact ⟨by first | rfl | simp, Below.new (Below.refl _ _) _⟩
  have d2 : decide (400 < (kn : Int)) = false := decide_eq_false hk
  rw [d1, d2]
  go_enter Tryd.func6, Tryd.ntmps6
  go_wp2_with fail
  go_ret
  exact ⟨by first | rfl | simp, Below.new (Below.refl _ _) _⟩

theorem ref_any (i : Int) (W : World) : Calls Tryd.prog 16 #[.int .i64 i] W fun e w' => e = .returned (refV i 1) ∧ Below W.heap.size W w' := by
  go_enter Tryd.func16, Tryd.ntmps16
  go_wp2_with fail
  refine bodyPost_ret (v := refV i 1) ?_ rfl ⟨rfl, Below.new (Below.refl _ _) _⟩
  rw [results_cell1 rfl]
  go_simp
end Go.Proofs.YtjaijomkdgoenaaDoor.Nd

/- The law's inner: a node with kids at some bytes. -/
namespace Go.Proofs.YtjaijomkdgoenaaDoor.Nd
open Go.RowKit
open Mn
set_option maxRecDepth 1000000
set_option maxHeartbeats 4000000

/-- The kids of a node that inner makes, as entries. -/
def kidsTo (m : Nat) : List En := (List.range m).map fun (i : Nat) => (0, (i : Int), 1)
theorem kidsTo_succ (m : Nat) : Fw.refsOf (kidsTo (m + 1)) = Fw.refsOf (kidsTo m) ++ [.int .i64 (m : Int), .int .u32 1] := by
  unfold kidsTo
  rw [List.range_succ]
  simp [Fw.refsOf]
theorem kidsTo_len (m : Nat) : (kidsTo m).length = m := by simp [kidsTo]
/-- The node that inner makes. -/
def innerNo (k : Int) (p : ByteArray) (l : List UInt8) : No := ⟨k, ⟨#[]⟩, ⟨#[]⟩, p, l, (List.range l.length).map fun (i : Nat) => ((i : Int), 1)⟩

structure InX (w W : World) (X Z C : Nat) (k : Int) (p : ByteArray) (vb vr : Value) (m : Nat) : Prop where
  low : Below w.heap.size w W
  fx : Fresh W X #[.int .i64 k, .string ⟨#[]⟩, .string ⟨#[]⟩, .string p, vb, vr] 26
  fz : Fresh W Z zeroC 26
  orr : W.ownsRow C 29 2 vr m (Fw.refsOf (kidsTo m))
  hC : w.heap.size ≤ X ∧ w.heap.size ≤ Z ∧ X ≠ Z ∧ X + 1 ≤ C ∧ Z + 1 ≤ C
theorem InX.below {w W W' : World} {X Z C : Nat} {k : Int} {p : ByteArray} {vb vr : Value} {m : Nat} (h : InX w W X Z C k p vb vr m) (hb : Below W.heap.size W W') : InX w W' X Z C k p vb vr m :=
  ⟨Below.step h.low hb, h.fx.below hb, h.fz.below hb, row_keep h.orr (fun b hk => hb.block b (h.orr.lt b hk).2), h.hC⟩
theorem InX.push {w W w7 : World} {X Z C : Nat} {k : Int} {p : ByteArray} {vb vr v7 : Value} {m : Nat} {os : Array Value} (h : InX w W X Z C k p vb vr m)
    (hown : w7.ownsRow C 29 2 v7 (m + 1) (Fw.refsOf (kidsTo m) ++ [.int .i64 (m : Int), .int .u32 1])) (hg : (W.alloc (.cells os 29)).grownBy w7 vr.ownBlock) :
    w7.cell? ⟨X, 5, none⟩ = some vr ∧ w7.frozen? ⟨X, 5, none⟩ = false ∧ InX w (w7.setCell ⟨X, 5, none⟩ v7) X Z C k p vb v7 (m + 1) := by
  have low : Below W.heap.size W (W.alloc (.cells os 29)) := Below.new (Below.refl _ _) _
  have h1 := h.below low
  have hlt : ∀ b, vr.ownBlock = some b → C ≤ b := fun b hb => (h.orr.lt b hb).1
  have hC := h.hC
  have hnX : some X ≠ vr.ownBlock := fun e => by have := hlt X e.symm; omega
  have hnZ : some Z ≠ vr.ownBlock := fun e => by have := hlt Z e.symm; omega
  have fx7 : Fresh w7 X _ _ := (hg.block X h1.fx.lt hnX).trans h1.fx
  have fz7 : Fresh w7 Z _ _ := (hg.block Z h1.fz.lt hnZ).trans h1.fz
  have hlow7 : Below w.heap.size w w7 := h1.low.grown hg h1.low.size (fun r e => by have := hlt r e; omega)
  have hset : ∀ b, b ≠ X → (w7.setCell ⟨X, 5, none⟩ v7).heap[b]? = w7.heap[b]? := fun b hb => Below.heap_setCell _ _ _ _ (by simpa using hb)
  have hnew := row_keep hown fun b hb => hset b (by have := (hown.lt b hb).1; omega)
  rw [← kidsTo_succ] at hnew
  have T : Turned [X] w7 (w7.setCell ⟨X, 5, none⟩ v7) := (Turned.refl _ _).setCell (.inl (by simp)) _ _
  exact ⟨(fx7.cell 5).trans rfl, fx7.thawed 5, T.below hlow7 (by intro b hb; simp at hb; omega) hlow7.size, fx7.set 5 _, fz7.other (by omega) _ _, hnew, hC⟩
theorem InX.drew {w W : World} {X Z C : Nat} {k : Int} {p : ByteArray} {vb vr : Value} {m : Nat} (h : InX w W X Z C k p vb vr m) : InX w W.drew X Z C k p vb vr m := h.below ((Below.refl _ _).drew)

theorem InX.fin {w W W7 : World} {X Z C : Nat} {k : Int} {p : ByteArray} {vb : Value} {ar : Option Addr} {m kr : Nat} (h : InX w W X Z C k p vb (.slice ar m kr) m)
    (h7 : W7 = (((((W.setCell ⟨Z, 0, none⟩ (.int .i64 k)).setCell ⟨Z, 1, none⟩ (.string ⟨#[]⟩)).setCell ⟨Z, 2, none⟩ (.string ⟨#[]⟩)).setCell ⟨Z, 3, none⟩ (.string p)).setCell ⟨Z, 4, none⟩ vb).setCell ⟨Z, 5, none⟩ (.slice ar m kr)) :
    Below w.heap.size w W7 ∧ Fresh W7 Z #[.int .i64 k, .string ⟨#[]⟩, .string ⟨#[]⟩, .string p, vb, .slice ar m kr] 26 ∧ RR W7 ((kidsTo m).map (·.2)) (.slice ar m kr) := by
  have hC := h.hC
  have T7 : Turned [Z] W W7 := by
    rw [h7]
    exact ((((((Turned.refl _ W).setCell (.inl (by simp)) _ _).setCell (.inl (by simp)) _ _).setCell (.inl (by simp)) _ _).setCell (.inl (by simp)) _ _).setCell (.inl (by simp)) _ _).setCell (.inl (by simp)) _ _
  have fz7 : Fresh W7 Z #[.int .i64 k, .string ⟨#[]⟩, .string ⟨#[]⟩, .string p, vb, .slice ar m kr] 26 := by
    rw [h7]
    exact (((((h.fz.set 0 _).set 1 _).set 2 _).set 3 _).set 4 _).set 5 _
  have orr := row_keep h.orr fun b hb => T7.block b (h.orr.lt b hb).2 (by have := (h.orr.lt b hb).1; simp; omega)
  have hl := kidsTo_len m
  refine ⟨T7.below h.low (by intro b hb; simp at hb; omega) h.low.size, fz7, ?_⟩
  refine own_rr (C := C) ?_
  rw [hl]
  exact orr

theorem linner_any (k : Int) (p : ByteArray) (l : List UInt8) (ba : Option Addr) (bc : Nat) (W : World) (hrm : Rm W) (h : BR W l (.slice ba l.length bc)) (hl : l.length < 1000000) :
    Calls Tryd.prog 15 #[.int .i64 k, .string p, .slice ba l.length bc] W fun e w' => ∃ ka kc, e = .returned ((innerNo k p l).val ba bc ka kc) ∧ Below W.heap.size W w' ∧ NdAt w' (innerNo k p l) ba bc ka kc := by
  obtain ⟨W1, hW1⟩ : ∃ W1, W1 = (W.alloc (.cells #[.int .i64 0, .string ⟨#[]⟩, .string ⟨#[]⟩, .string ⟨#[]⟩, .slice none 0 0, .slice none 0 0] 26)).alloc (.cells #[.int .i64 k, .string ⟨#[]⟩, .string ⟨#[]⟩, .string p, .slice ba l.length bc, .slice none 0 0] 26) := ⟨_, rfl⟩
  have M1 : InX W W1 (W.heap.size + 1) W.heap.size (W.heap.size + 2) k p (.slice ba l.length bc) (.slice none 0 0) 0 := by
    rw [hW1]
    exact ⟨Below.new (Below.new (Below.refl _ _) _) _, Fresh.new _ _ _ _ (by simp), (Fresh.new _ _ _ _ rfl).alloc _, ⟨rfl, .inl ⟨rfl, rfl⟩⟩, by omega⟩
  have s1 : W1.heap.size = W.heap.size + 2 := by rw [hW1]; simp
  have HW1 := Lib.hid hW1
  have HM1 := Lib.hid (And.intro M1 s1)
  obtain ⟨iR, hR0, hR1, hR2, hR3⟩ := infoR
  have HR := Lib.hid (And.intro hR0 (And.intro hR1 (And.intro hR2 hR3)))
  have HH := Lib.hid (And.intro hrm (And.intro h hl))
  clear hR0 hR1 hR2 hR3 hW1 M1 s1 hrm h
  obtain ⟨n, hn⟩ : ∃ n, l.length = n := ⟨_, rfl⟩
  have HN := Lib.hid hn
  rw [hn] at HM1 HW1 HH hl ⊢
  have HBIG := Lib.hid hl
  clear hn hl
  go_enter Tryd.func15, Tryd.ntmps15
  go_upto_region 2 with fail
  rw [← HW1.out]
  go_wp2_with fail
  go_loopw [8] (fun cv wr => ∃ (c : Nat) (vr : Value), cv = .int .i64 c ∧ c ≤ n ∧ InX W wr (W.heap.size + 1) W.heap.size (W.heap.size + 2) k p (.slice ba n bc) vr c ∧ W.heap.size + 2 ≤ wr.heap.size) (fun cv _ => n - (intOf cv).toNat)
  case atStart => exact ⟨0, _, rfl, Nat.zero_le _, HM1.out.1, by have := HM1.out.2; omega⟩
  case round =>
    obtain ⟨c, vr, rfl, hcn, hM, hsz⟩ := hrel
    have n6 := HBIG.out
    by_cases hab : c < n
    · obtain ⟨ar, kr, rfl⟩ := own_form hM.orr
      have c0 : (0 : Int) ≤ (c : Int) := by omega
      have c1 : (c : Int) < (n : Int) := by omega
      have jd : decide (c < n) = true := decide_eq_true hab
      have d5 := (hM.drew).fx.cell 5
      simp only [List.getElem?_toArray, List.getElem?_cons_zero, List.getElem?_cons_succ] at d5
      have HM := Lib.hid (And.intro hM.drew hsz)
      clear hM hsz
      have HRef := Lib.hid (fun w => ref_any (c : Int) w)
      have hmx : Tryd.prog.follows .mixedOrders = true := by kernel_rfl
      go_upto_region 5 with fail
      go_region_law ((first
        | (refine step_appO (by rfl) (.tmp 20) (.tmp 23) 24 29 (by rfl) (W.heap.size + 2) iR (.agg #[.int .i64 0, .int .u32 0]) 2 16 Tryd.underlying24 HR.out.1 HR.out.2.1 HR.out.2.2.1 HR.out.2.2.2 (by rfl) (by omega) (by omega) (.slice ar c kr) c (Fw.refsOf (kidsTo c)) (by rfl) O2.out HC2.out ⟨w2.heap.size, 0, none⟩ 1 1 [.int .i64 (c : Int), .int .u32 1] (by rfl) (by rfl) N2.out ?_ (by omega) ?_
           · intro u hu; simp at hu; rcases hu with rfl | rfl <;> rfl
           intro v4 w4 hown4 hgr4 hat4
           obtain ⟨a4, k4, rfl⟩ := own_form hown4
           obtain ⟨e6, e7, e8⟩ := HM2.out.push hown4 hgr4
           have HM4 := Lib.hid e8
           clear hown4 hgr4 hat4 e8)
        | (go_simp
           go_at_call 16
           refine (HRef.out _).mono ?_
           rintro e2 w2 ⟨rfl, hb2⟩
           have M2 := HM.out.1.below hb2
           have e5 := M2.fx.cell 5
           simp only [List.getElem?_toArray, List.getElem?_cons_zero, List.getElem?_cons_succ] at e5
           have low2 : Below w2.heap.size w2 (w2.alloc (.cells #[.int .i64 (c : Int), .int .u32 1] 29)) := Below.new (Below.refl _ _) _
           have e9 := (M2.below low2).fx.cell 5
           simp only [List.getElem?_toArray, List.getElem?_cons_zero, List.getElem?_cons_succ] at e9
           have O2 := Lib.hid (M2.below low2).orr
           have HM2 := Lib.hid M2
           have HC2 : Hid (W.heap.size + 2 ≤ (w2.alloc (.cells #[.int .i64 (c : Int), .int .u32 1] 29)).heap.size) := by have h1 := HM.out.2; have h2 := hb2.size; show _ ≤ _; simp at h2 ⊢; omega
           have N2 : Hid (∀ (j : Nat) u, [Value.int .i64 (c : Int), Value.int .u32 1][j]? = some u → (w2.alloc (.cells #[.int .i64 (c : Int), .int .u32 1] 29)).cell? ((⟨w2.heap.size, 0, none⟩ : Addr).add j) = some u) := by
             intro j u hj
             rw [Addr.add_lit, Nat.zero_add, (Fresh.new w2 w2.heap.size #[.int .i64 (c : Int), .int .u32 1] 29 rfl).cell j]
             simpa using hj
           clear hb2 M2 low2)))
      all_goals
        go_wp2_with fail
        go_roundw
        case rel => exact ⟨c + 1, _, by simp, by omega, HM4.out, by have := HM4.out.fx.lt; simp at this ⊢; omega⟩
        case measure => simp [intOf]; omega
    · obtain rfl : c = n := by omega
      obtain ⟨ar, kr, rfl⟩ := own_form hM.orr
      have c1 : ¬ (c : Int) < (c : Int) := by omega
      have jd : decide (c < c) = false := decide_eq_false hab
      obtain ⟨x0, x1, x2, x3, x4, x5⟩ := box6 hM.fx
      obtain ⟨z0, z1, z2, z3, z4, z5⟩ := box6 hM.fz
      have y0 := hM.fz.thawed 0
      have y1 := hM.fz.thawed 1
      have y2 := hM.fz.thawed 2
      have y3 := hM.fz.thawed 3
      have y4 := hM.fz.thawed 4
      have y5 := hM.fz.thawed 5
      have HM := Lib.hid hM
      clear hM
      go_wp2_with fail
      obtain ⟨B7, F7, R7⟩ := HM.out.fin rfl
      obtain ⟨q0, q1, q2, q3, q4, q5⟩ := box6 F7
      have hrs : (innerNo k p l).rs = (kidsTo c).map (·.2) := by
        unfold innerNo kidsTo
        rw [HN.out, List.map_map]
        rfl
      have hrl : (innerNo k p l).rs.length = c := by rw [hrs, List.length_map, kidsTo_len]
      refine bodyPost_ret (v := .agg #[.int .i64 k, .string ⟨#[]⟩, .string ⟨#[]⟩, .string p, .slice ba c bc, .slice ar c kr]) ?_ rfl ⟨ar, kr, ?_, B7, HH.out.1.on B7, ?_, ?_, ?_, ?_, ?_⟩
      · rw [results_cell1 rfl]
        simp [go_sem, q0, q1, q2, q3, q4, q5]
      · unfold No.val ndv
        rw [hrl]
        unfold innerNo
        dsimp only
        rw [HN.out]
      · show BR _ l (.slice ba l.length bc)
        rw [HN.out]
        exact HH.out.2.1.below B7
      · rw [hrl, hrs]
        exact R7
      · show l.length < 1000000
        rw [HN.out]; exact HBIG.out
      · rw [hrl]; exact HBIG.out
      · show (⟨#[]⟩ : ByteArray).size ≤ 1000000
        decide
end Go.Proofs.YtjaijomkdgoenaaDoor.Nd

/- Nodes without a code and a value, by their kids. -/
namespace Go.Proofs.YtjaijomkdgoenaaDoor.Nd
open Go.RowKit
open Mn
set_option maxRecDepth 1000000
set_option maxHeartbeats 4000000

/-- No kid is one that cannot be. -/
def okR (l : List En) : Prop := ∀ x ∈ l, impR x.2.1 x.2.2 = false
theorem okR_iff (l : List En) : impL (l.map (·.2)) = false ↔ okR l := by
  unfold impL okR
  rw [List.any_eq_false]
  constructor
  · intro h x hx
    have := h x.2 (List.mem_map_of_mem (f := (·.2)) hx)
    simpa using this
  · intro h x hx
    obtain ⟨y, hy, rfl⟩ := List.mem_map.1 hx
    rw [h y hy]
    simp
theorem okR_put {l : List En} (h : okR l) {b : UInt8} {s g : Int} (hi : impR s g = false) (i : Nat) (hl : i ≤ l.length) : okR (l.insertIdx i (b, s, g)) := by
  intro x hx
  rcases (List.mem_insertIdx hl).1 hx with rfl | hx
  · exact hi
  · exact h x hx
theorem okR_take {l : List En} (h : okR l) (b : UInt8) : okR (takeS b l) := by
  intro x hx
  unfold takeS at hx
  split at hx
  · exact h x (List.mem_of_mem_eraseIdx hx)
  · exact h x hx
theorem okR_turn {l : List En} (h : okR l) (b : UInt8) {s g : Int} (hi : impR s g = false) : okR (turnS b s g l) := by
  intro x hx
  unfold turnS at hx
  split at hx
  · rcases List.mem_or_eq_of_mem_set hx with h1 | rfl
    · exact h x h1
    · exact hi
  · exact h x hx

/-- An inner node with other kids. -/
theorem kids_inner {n : No} {k : Int} {l : List En} : (n.kids k l).inner = true ↔ 0 < roomOf k ∧ n.c.toList = [] ∧ n.v.toList = [] ∧ (n.p.size : Int) ≤ 34 ∧ (l.length : Int) ≤ roomOf k ∧ Srt l ∧ okR l := by
  rw [inner_iff]
  have e1 : (n.kids k l).bs = l.map (·.1) := rfl
  have e2 : (n.kids k l).rs = l.map (·.2) := rfl
  have e3 : (n.kids k l).k = k := rfl
  have e4 : (n.kids k l).c = n.c := rfl
  have e5 : (n.kids k l).v = n.v := rfl
  have e6 : (n.kids k l).p = n.p := rfl
  rw [e1, e2, e3, e4, e5, e6, List.length_map, List.length_map, okR_iff, srt_ris]
  simp
theorem kids_rightInner {n : No} {k : Int} {l : List En} (h : (n.kids k l).inner = true) (h1 : 1 < l.length) (hk : (ofK l.length).2 = true ∧ (ofK l.length).1 = k) : (n.kids k l).rightInner = true := by
  unfold No.rightInner
  have e1 : (n.kids k l).bs.length = l.length := List.length_map _
  have e3 : (n.kids k l).k = k := rfl
  rw [e1, e3, h, hk.1, hk.2]
  simp
  omega
theorem kids_anchor {n : No} {l : List En} (h : (n.kids 5 l).inner = true) (hp : n.p.toList = []) : (n.kids 5 l).anchor = true := by
  unfold No.anchor
  have e3 : (n.kids 5 l).k = 5 := rfl
  have e4 : (n.kids 5 l).p = n.p := rfl
  rw [e3, e4, hp, h]
  rfl
theorem usable_of_right {n : No} (h : n.rightInner = true) : n.usable = true := by unfold No.usable; rw [h]; simp
theorem usable_of_anchor {n : No} (h : n.anchor = true) : n.usable = true := by unfold No.usable; rw [h]; simp
theorem right_of_right {n : No} (h : n.rightInner = true) : n.right = true := by unfold No.right; rw [h]; simp

/-- A node with the kind k, the path p and the kids l, no more. -/
def nb (k : Int) (p : ByteArray) (l : List En) : No := ⟨k, ⟨#[]⟩, ⟨#[]⟩, p, l.map (·.1), l.map (·.2)⟩
theorem nb_kids (k k' : Int) (p : ByteArray) (l l' : List En) : (nb k p l).kids k' l' = nb k' p l' := rfl
theorem nb_ens (k : Int) (p : ByteArray) (l : List En) : (nb k p l).ens = l := ens_kids (nb k p l) k l
theorem nb_len (k : Int) (p : ByteArray) (l : List En) : (nb k p l).bs.length = l.length := List.length_map _
theorem nb_rlen (k : Int) (p : ByteArray) (l : List En) : (nb k p l).rs.length = l.length := List.length_map _
theorem none_list : (⟨#[]⟩ : ByteArray).toList = [] := by rw [ByteArray.toList, ByteArray.toList.loop]; simp [ByteArray.size]
theorem nb_inner {k : Int} {p : ByteArray} {l : List En} : (nb k p l).inner = true ↔ 0 < roomOf k ∧ (p.size : Int) ≤ 34 ∧ (l.length : Int) ≤ roomOf k ∧ Srt l ∧ okR l := by
  have := kids_inner (n := nb k p l) (k := k) (l := l)
  rw [nb_kids] at this
  rw [this]
  have e4 : (nb k p l).c.toList = [] := none_list
  have e5 : (nb k p l).v.toList = [] := none_list
  have e6 : (nb k p l).p = p := rfl
  rw [e4, e5, e6]
  simp
theorem nb_rightInner {k : Int} {p : ByteArray} {l : List En} (h : (nb k p l).inner = true) (h1 : 1 < l.length) (hk : (ofK l.length).2 = true ∧ (ofK l.length).1 = k) : (nb k p l).rightInner = true :=
  kids_rightInner (n := nb k p l) h h1 hk
theorem nb_anchor {l : List En} (h : (nb 5 ⟨#[]⟩ l).inner = true) : (nb 5 ⟨#[]⟩ l).anchor = true :=
  kids_anchor (n := nb 5 ⟨#[]⟩ l) h none_list
theorem roomK {m : Nat} (h : m ≤ 256) : 0 < roomOf (ofK m).1 ∧ (m : Int) ≤ roomOf (ofK m).1 := by
  obtain ⟨_, h2, h3⟩ := ofK_room h
  omega
/-- A right node of some kids. -/
theorem nb_right {p : ByteArray} {l : List En} (hp : (p.size : Int) ≤ 34) (h1 : 1 < l.length) (h2 : l.length ≤ 256) (hs : Srt l) (ho : okR l) : (nb (ofK l.length).1 p l).rightInner = true :=
  nb_rightInner (nb_inner.2 ⟨(roomK h2).1, hp, (roomK h2).2, hs, ho⟩) h1 ⟨(ofK_room h2).1, rfl⟩
/-- An anchor of some kids. -/
theorem nb_top {l : List En} (h2 : l.length ≤ 256) (hs : Srt l) (ho : okR l) : (nb 5 ⟨#[]⟩ l).anchor = true :=
  nb_anchor (nb_inner.2 ⟨by decide, by decide, by show (l.length : Int) ≤ 256; omega, hs, ho⟩)
theorem top_not_right {l : List En} (h : l.length ≤ 48) : (nb 5 ⟨#[]⟩ l).right = false := by
  have e1 : (nb 5 ⟨#[]⟩ l).rightLeaf = false := by
    unfold No.rightLeaf
    have : (nb 5 ⟨#[]⟩ l).k = 5 := rfl
    rw [this]
    rfl
  have e2 : (nb 5 ⟨#[]⟩ l).rightInner = false := by
    unfold No.rightInner
    have h5 : (nb 5 ⟨#[]⟩ l).k = 5 := rfl
    rw [nb_len, h5, ofK_eq]
    have hh : (l.length : Int) ≤ 48 := by omega
    by_cases c1 : (l.length : Int) ≤ 4
    · rw [if_pos c1]; simp
    rw [if_neg c1]
    by_cases c2 : (l.length : Int) ≤ 16
    · rw [if_pos c2]; simp
    rw [if_neg c2, if_pos hh]
    simp
  unfold No.right
  rw [e1, e2]
  rfl

/-- Add to such a node. -/
theorem nb_in {k : Int} {p : ByteArray} {l : List En} (hu : (nb k p l).usable = true) (b : UInt8) : b ∈ (nb k p l).bs ↔ isIn b l = true := by
  obtain ⟨he, hr, hl⟩ := usable_parts hu
  have := mem_in (b := b) he hr
  rw [nb_ens] at this
  rw [this]
  simp
theorem nb_add {k : Int} {p : ByteArray} {l : List En} (hu : (nb k p l).usable = true) {b : UInt8} {s g : Int} (hi : impR s g = false) (hb : isIn b l = false) (keep : Bool) (hf : keep = true → (l.length : Int) ≠ roomOf k) :
    addE (nb k p l) b s g keep = 0 ∧ addN (nb k p l) b s g keep = nb (if keep = true then k else (ofK ((l.length + 1 : Nat) : Int)).1) p (l.insertIdx (placeIx b l) (b, s, g)) := by
  have e : addE (nb k p l) b s g keep = 0 := by
    unfold addE
    rw [if_neg (by rw [hu, hi]; simp), if_neg (by rw [nb_in hu, hb]; simp), if_neg]
    rintro ⟨h1, h2⟩
    unfold No.full at h2
    rw [nb_len] at h2
    exact hf h1 (of_decide_eq_true h2)
  refine ⟨e, ?_⟩
  unfold addN
  rw [if_pos e, nb_kids, nb_ens, nb_len]
  rfl
theorem nb_add_twice {k : Int} {p : ByteArray} {l : List En} (hu : (nb k p l).usable = true) {b : UInt8} {s g : Int} (hi : impR s g = false) (hb : isIn b l = true) (keep : Bool) : addE (nb k p l) b s g keep = 8 := by
  unfold addE
  rw [if_neg (by rw [hu, hi]; simp), if_pos ((nb_in hu b).2 hb)]
theorem nb_cut {k : Int} {p : ByteArray} {l : List En} (hu : (nb k p l).usable = true) {b : UInt8} (hb : isIn b l = true) (keep : Bool) :
    cutE (nb k p l) b = 0 ∧ cutN (nb k p l) b keep = nb (if keep = true then k else (ofK ((l.length - 1 : Nat) : Int)).1) p (takeS b l) := by
  have e : cutE (nb k p l) b = 0 := by
    unfold cutE
    rw [if_neg (by rw [hu]; simp), if_pos ((nb_in hu b).2 hb)]
  refine ⟨e, ?_⟩
  unfold cutN
  rw [if_pos e, nb_kids, nb_ens, nb_len]
  rfl
theorem nb_cut_none {k : Int} {p : ByteArray} {l : List En} (hu : (nb k p l).usable = true) {b : UInt8} (hb : isIn b l = false) : cutE (nb k p l) b = 5 := by
  unfold cutE
  rw [if_neg (by rw [hu]; simp), if_neg (by rw [nb_in hu, hb]; simp)]

/-- inner's node is such a node. -/
theorem innerNo_nb (k : Int) (p : ByteArray) (l : List UInt8) : innerNo k p l = nb k p (l.zip ((List.range l.length).map fun (i : Nat) => ((i : Int), (1 : Int)))) := by
  unfold innerNo nb
  rw [List.map_fst_zip (by simp), List.map_snd_zip (by simp)]
end Go.Proofs.YtjaijomkdgoenaaDoor.Nd

/- What awake walks over: nodes in boxes that are turned. -/
namespace Go.Proofs.YtjaijomkdgoenaaDoor.Nd
open Go.RowKit
open Mn
set_option maxRecDepth 1000000
set_option maxHeartbeats 4000000

theorem nodeC_no {k : Int} {a b c : ByteArray} {v1 v2 : Value} (i : Nat) (x : Int) (h1 : ∀ x, v1 ≠ .int .u8 x) (h2 : ∀ x, v2 ≠ .int .u8 x) : (#[.int .i64 k, .string a, .string b, .string c, v1, v2] : Array Value)[i]? ≠ some (.int .u8 x) := by
  intro h
  rcases i with _ | _ | _ | _ | _ | _ | i <;> simp at h
  · exact h1 _ h
  · exact h2 _ h
theorem nodeC_no2 {k : Int} {a b c : ByteArray} {v1 v2 : Value} (i : Nat) (x : Int) (h1 : ∀ x, v1 ≠ .int .u32 x) (h2 : ∀ x, v2 ≠ .int .u32 x) : (#[.int .i64 k, .string a, .string b, .string c, v1, v2] : Array Value)[i]? ≠ some (.int .u32 x) := by
  intro h
  rcases i with _ | _ | _ | _ | _ | _ | i <;> simp at h
  · exact h1 _ h
  · exact h2 _ h
/-- A node's slices stand behind the turn of a box that holds a node. -/
theorem NdAt.turnedN {w w' : World} {m : No} {b' : Option Addr} {c' : Nat} {k' : Option Addr} {l' : Nat} {P : Nat} (h : NdAt w m b' c' k' l') (ht : Turned [P] w w') (hr : Rm w') {k : Int} {a b c : ByteArray} {s1 s2 : Option Addr} {n1 n2 n3 n4 : Nat} {T : TypeId}
    (hz : Fresh w P #[.int .i64 k, .string a, .string b, .string c, .slice s1 n1 n2, .slice s2 n3 n4] T) : NdAt w' m b' c' k' l' := by
  refine ⟨hr, ?_, ?_, h.bl, h.rl, h.cl⟩
  · obtain ⟨ao, cap, e1, h2⟩ := h.b
    cases e1
    refine ⟨_, _, rfl, fun j k hj => ?_⟩
    obtain ⟨b, o, e, h4, h5⟩ := h2 j k hj
    refine ⟨b, o, e, Nat.lt_of_lt_of_le h4 ht.size, ?_⟩
    have hne : b ≠ P := by
      rintro rfl
      rw [hz.cell] at h5
      exact nodeC_no _ _ (by intro x h; cases h) (by intro x h; cases h) h5
    refine Eq.trans ?_ h5
    exact cell_same (p := ⟨b, o + j, none⟩) (ht.block b h4 (by simpa using hne))
  · obtain ⟨ao, cap, e1, h2⟩ := h.r
    cases e1
    refine ⟨_, _, rfl, fun j k hj => ?_⟩
    obtain ⟨b, o, e, h4, h5, h6⟩ := h2 j k hj
    have hne : b ≠ P := by
      rintro rfl
      rw [hz.cell] at h6
      exact nodeC_no2 _ _ (by intro x h; cases h) (by intro x h; cases h) h6
    refine ⟨b, o, e, Nat.lt_of_lt_of_le h4 ht.size, ?_, ?_⟩
    · exact Eq.trans (cell_same (p := ⟨b, o + j * 2, none⟩) (ht.block b h4 (by simpa using hne))) h5
    · exact Eq.trans (cell_same (p := ⟨b, o + j * 2 + 1, none⟩) (ht.block b h4 (by simpa using hne))) h6

/-- A box P that holds the node nb k p l. -/
structure NBx (W : World) (P : Nat) (k : Int) (p : ByteArray) (l : List En) (ba : Option Addr) (m bc : Nat) (ka : Option Addr) (kc : Nat) : Prop where
  len : l.length = m
  box : Fresh W P #[.int .i64 k, .string ⟨#[]⟩, .string ⟨#[]⟩, .string p, .slice ba m bc, .slice ka m kc] 26
  nd : NdAt W (nb k p l) ba bc ka kc
theorem NBx.below {W W' : World} {P : Nat} {k : Int} {p : ByteArray} {l : List En} {ba : Option Addr} {m bc : Nat} {ka : Option Addr} {kc : Nat} (h : NBx W P k p l ba m bc ka kc) (hb : Below W.heap.size W W') : NBx W' P k p l ba m bc ka kc :=
  ⟨h.len, h.box.below hb, h.nd.below hb⟩
theorem NBx.turned {W W' : World} {P Q : Nat} {k : Int} {p : ByteArray} {l : List En} {ba : Option Addr} {m bc : Nat} {ka : Option Addr} {kc : Nat} (h : NBx W P k p l ba m bc ka kc) (ht : Turned [Q] W W') (hr : Rm W') (hne : P ≠ Q) {k' : Int} {a b c : ByteArray} {s1 s2 : Option Addr} {n1 n2 n3 n4 : Nat} {T : TypeId}
    (hz : Fresh W Q #[.int .i64 k', .string a, .string b, .string c, .slice s1 n1 n2, .slice s2 n3 n4] T) : NBx W' P k p l ba m bc ka kc :=
  ⟨h.len, ht.other h.box (by simpa using hne), h.nd.turnedN ht hr hz⟩
/-- The six cells of a node's box, written. -/
theorem NBx.set {W W' : World} {P : Nat} {k : Int} {p : ByteArray} {l : List En} {ba : Option Addr} {m bc : Nat} {ka : Option Addr} {kc : Nat} (h : NBx W P k p l ba m bc ka kc) {k2 : Int} {p2 : ByteArray} {l2 : List En} {ba2 : Option Addr} {m2 bc2 : Nat} {ka2 : Option Addr} {kc2 : Nat} (hm : l2.length = m2)
    (hn : NdAt W (nb k2 p2 l2) ba2 bc2 ka2 kc2) (hr : ∀ w, Turned [P] W w → Rm w)
    (h7 : W' = (((((W.setCell ⟨P, 0, none⟩ (.int .i64 k2)).setCell ⟨P, 1, none⟩ (.string ⟨#[]⟩)).setCell ⟨P, 2, none⟩ (.string ⟨#[]⟩)).setCell ⟨P, 3, none⟩ (.string p2)).setCell ⟨P, 4, none⟩ (.slice ba2 m2 bc2)).setCell ⟨P, 5, none⟩ (.slice ka2 m2 kc2)) :
    Turned [P] W W' ∧ NBx W' P k2 p2 l2 ba2 m2 bc2 ka2 kc2 := by
  have T7 : Turned [P] W W' := by
    rw [h7]
    exact ((((((Turned.refl _ W).setCell (.inl (by simp)) _ _).setCell (.inl (by simp)) _ _).setCell (.inl (by simp)) _ _).setCell (.inl (by simp)) _ _).setCell (.inl (by simp)) _ _).setCell (.inl (by simp)) _ _
  refine ⟨T7, hm, ?_, hn.turnedN T7 (hr _ T7) h.box⟩
  rw [h7]
  exact (((((h.box.set 0 _).set 1 _).set 2 _).set 3 _).set 4 _).set 5 _
theorem NBx.cells {W : World} {P : Nat} {k : Int} {p : ByteArray} {l : List En} {ba : Option Addr} {m bc : Nat} {ka : Option Addr} {kc : Nat} (h : NBx W P k p l ba m bc ka kc) :
    (W.cell? ⟨P, 0, none⟩ = some (.int .i64 k) ∧ W.cell? ⟨P, 1, none⟩ = some (.string ⟨#[]⟩) ∧ W.cell? ⟨P, 2, none⟩ = some (.string ⟨#[]⟩) ∧ W.cell? ⟨P, 3, none⟩ = some (.string p) ∧ W.cell? ⟨P, 4, none⟩ = some (.slice ba m bc) ∧ W.cell? ⟨P, 5, none⟩ = some (.slice ka m kc)) ∧
    (W.frozen? ⟨P, 0, none⟩ = false ∧ W.frozen? ⟨P, 1, none⟩ = false ∧ W.frozen? ⟨P, 2, none⟩ = false ∧ W.frozen? ⟨P, 3, none⟩ = false ∧ W.frozen? ⟨P, 4, none⟩ = false ∧ W.frozen? ⟨P, 5, none⟩ = false) :=
  ⟨box6 h.box, h.box.thawed 0, h.box.thawed 1, h.box.thawed 2, h.box.thawed 3, h.box.thawed 4, h.box.thawed 5⟩
/-- A node's value in a new box. -/
theorem NBx.new {W : World} {k : Int} {p : ByteArray} {l : List En} {ba : Option Addr} {m bc : Nat} {ka : Option Addr} {kc : Nat} (hm : l.length = m) (hn : NdAt W (nb k p l) ba bc ka kc) :
    NBx (W.alloc (.cells #[.int .i64 k, .string ⟨#[]⟩, .string ⟨#[]⟩, .string p, .slice ba m bc, .slice ka m kc] 26)) W.heap.size k p l ba m bc ka kc :=
  ⟨hm, Fresh.new _ _ _ _ rfl, hn.below (Below.new (Below.refl _ _) _)⟩

theorem nb_val {k : Int} {p : ByteArray} {l : List En} {ba : Option Addr} {m bc : Nat} {ka : Option Addr} {kc : Nat} (hm : l.length = m) : (nb k p l).val ba bc ka kc = .agg #[.int .i64 k, .string ⟨#[]⟩, .string ⟨#[]⟩, .string p, .slice ba m bc, .slice ka m kc] := by
  unfold No.val ndv
  rw [nb_len, nb_rlen, hm]
  rfl
theorem mk_nb {W w' : World} {k : Int} {p : ByteArray} {l : List En} {E : Int} {e : Ending} {m : Nat} (hm : l.length = m) (h : MkP W (nb k p l) E e w') :
    ∃ ba bc ka kc, e = .returned (.tuple #[.agg #[.int .i64 k, .string ⟨#[]⟩, .string ⟨#[]⟩, .string p, .slice ba m bc, .slice ka m kc], .int .i64 E]) ∧ Below W.heap.size W w' ∧ NdAt w' (nb k p l) ba bc ka kc := by
  obtain ⟨ba, bc, ka, kc, h1, h2, h3⟩ := h
  rw [nb_val hm] at h1
  exact ⟨ba, bc, ka, kc, h1, h2, h3⟩
section
variable {W : World} {k : Int} {p : ByteArray} {l : List En} {ba : Option Addr} {m bc : Nat} {ka : Option Addr} {kc : Nat}
theorem nbAdd_any (hm : l.length = m) (h : NdAt W (nb k p l) ba bc ka kc) (b : UInt8) (s g : Int) (keep : Bool) :
    Calls Tryd.prog 9 #[.agg #[.int .i64 k, .string ⟨#[]⟩, .string ⟨#[]⟩, .string p, .slice ba m bc, .slice ka m kc], .int .u8 (b.toNat : Int), .agg #[.int .i64 s, .int .u32 g], .bool keep] W (MkP W (addN (nb k p l) b s g keep) (addE (nb k p l) b s g keep)) := by
  rw [← nb_val hm]; exact add_any h b s g keep
theorem nbCut_any (hm : l.length = m) (h : NdAt W (nb k p l) ba bc ka kc) (b : UInt8) (keep : Bool) :
    Calls Tryd.prog 10 #[.agg #[.int .i64 k, .string ⟨#[]⟩, .string ⟨#[]⟩, .string p, .slice ba m bc, .slice ka m kc], .int .u8 (b.toNat : Int), .bool keep] W (MkP W (cutN (nb k p l) b keep) (cutE (nb k p l) b)) := by
  rw [← nb_val hm]; exact cut_any h b keep
theorem nbRight_any (hm : l.length = m) (h : NdAt W (nb k p l) ba bc ka kc) :
    Calls Tryd.prog 7 #[.agg #[.int .i64 k, .string ⟨#[]⟩, .string ⟨#[]⟩, .string p, .slice ba m bc, .slice ka m kc]] W fun e w' => e = .returned (.bool (nb k p l).right) ∧ Below W.heap.size W w' := by
  rw [← nb_val hm]; exact right_any h
theorem nbAnchor_any (hm : l.length = m) (h : NdAt W (nb k p l) ba bc ka kc) :
    Calls Tryd.prog 18 #[.agg #[.int .i64 k, .string ⟨#[]⟩, .string ⟨#[]⟩, .string p, .slice ba m bc, .slice ka m kc]] W fun e w' => e = .returned (.bool (nb k p l).anchor) ∧ Below W.heap.size W w' := by
  rw [← nb_val hm]; exact anchor_any h
theorem nbFull_any (hm : l.length = m) (h : NdAt W (nb k p l) ba bc ka kc) :
    Calls Tryd.prog 14 #[.agg #[.int .i64 k, .string ⟨#[]⟩, .string ⟨#[]⟩, .string p, .slice ba m bc, .slice ka m kc]] W fun e w' => e = .returned (.bool ((nb k p l).usable && (nb k p l).full)) ∧ Below W.heap.size W w' := by
  rw [← nb_val hm]; exact full'_any h
end
theorem zcells {w : World} {P : Nat} (h : Fresh w P zeroC 26) :
    (w.cell? ⟨P, 0, none⟩ = some (.int .i64 0) ∧ w.cell? ⟨P, 1, none⟩ = some (.string ⟨#[]⟩) ∧ w.cell? ⟨P, 2, none⟩ = some (.string ⟨#[]⟩) ∧ w.cell? ⟨P, 3, none⟩ = some (.string ⟨#[]⟩) ∧ w.cell? ⟨P, 4, none⟩ = some (.slice none 0 0) ∧ w.cell? ⟨P, 5, none⟩ = some (.slice none 0 0)) ∧
    (w.frozen? ⟨P, 0, none⟩ = false ∧ w.frozen? ⟨P, 1, none⟩ = false ∧ w.frozen? ⟨P, 2, none⟩ = false ∧ w.frozen? ⟨P, 3, none⟩ = false ∧ w.frozen? ⟨P, 4, none⟩ = false ∧ w.frozen? ⟨P, 5, none⟩ = false) :=
  ⟨box6 h, h.thawed 0, h.thawed 1, h.thawed 2, h.thawed 3, h.thawed 4, h.thawed 5⟩
/-- A zero box that was laid before, written. -/
theorem leaf_fill {W3 w5 W' : World} {P : Nat} {k : Int} {p : ByteArray} {l : List En} {ba : Option Addr} {m bc : Nat} {ka : Option Addr} {kc : Nat} (hB : Below W3.heap.size W3 w5) (hr : Rm W3) (hF : Fresh w5 P zeroC 26) (hP : W3.heap.size ≤ P) (hm : l.length = m) (hn : NdAt w5 (nb k p l) ba bc ka kc)
    (h7 : W' = (((((w5.setCell ⟨P, 0, none⟩ (.int .i64 k)).setCell ⟨P, 1, none⟩ (.string ⟨#[]⟩)).setCell ⟨P, 2, none⟩ (.string ⟨#[]⟩)).setCell ⟨P, 3, none⟩ (.string p)).setCell ⟨P, 4, none⟩ (.slice ba m bc)).setCell ⟨P, 5, none⟩ (.slice ka m kc)) :
    Below W3.heap.size W3 W' ∧ NBx W' P k p l ba m bc ka kc := by
  have T7 : Turned [P] w5 W' := by
    rw [h7]
    exact ((((((Turned.refl _ w5).setCell (.inl (by simp)) _ _).setCell (.inl (by simp)) _ _).setCell (.inl (by simp)) _ _).setCell (.inl (by simp)) _ _).setCell (.inl (by simp)) _ _).setCell (.inl (by simp)) _ _
  have B7 := T7.below hB (by intro x hx; simp at hx; omega) hB.size
  refine ⟨B7, hm, ?_, NdAt.turned hn T7 (hr.on B7) hF⟩
  rw [h7]
  exact (((((hF.set 0 _).set 1 _).set 2 _).set 3 _).set 4 _).set 5 _
theorem leaf_new {W3 w5 W' : World} {k : Int} {p : ByteArray} {l : List En} {ba : Option Addr} {m bc : Nat} {ka : Option Addr} {kc : Nat} (hB : Below W3.heap.size W3 w5) (hm : l.length = m) (hn : NdAt w5 (nb k p l) ba bc ka kc)
    (h7 : W' = w5.alloc (.cells #[.int .i64 k, .string ⟨#[]⟩, .string ⟨#[]⟩, .string p, .slice ba m bc, .slice ka m kc] 26)) :
    Below W3.heap.size W3 W' ∧ NBx W' w5.heap.size k p l ba m bc ka kc := by
  subst h7
  exact ⟨Below.new hB _, NBx.new hm hn⟩
end Go.Proofs.YtjaijomkdgoenaaDoor.Nd
