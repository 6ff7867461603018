/- The law's comparison of a table with the reference model. -/
import Derived.Test.YthhmbmeajgjhcaaRturn
import Derived.Test.YthhmbmeajgjhcaaPick
import Derived.Test.YthhmbmeajgjhcaaAll
namespace Go.Proofs.Ythhmbmeajgjhcaa
open Go.RowKit
set_option maxRecDepth 100000
set_option maxHeartbeats 8000000

def IsRefs (W : World) (ao : Option Addr) (len : Nat) : Prop := len = 0 ∨ ∃ g, ao = some ⟨g, 0, none⟩ ∧ g < W.heap.size ∧
  ∀ i, i < len → ∃ x k : Int, RefOk x k ∧ W.cell? ⟨g, i * 2, none⟩ = some (.int .i64 x) ∧ W.cell? ⟨g, i * 2 + 1, none⟩ = some (.int .u32 k)
theorem IsRefs.at' {w : World} {ao : Option Addr} {len : Nat} (h : IsRefs w ao len) (i : Nat) (hi : i < len) : ∃ g, ao = some ⟨g, 0, none⟩ ∧ ∃ x k : Int, RefOk x k ∧ ∀ W, Below w.heap.size w W → W.cell? ⟨g, i * 2, none⟩ = some (.int .i64 x) ∧ W.cell? ⟨g, i * 2 + 1, none⟩ = some (.int .u32 k) := by
  rcases h with h | ⟨g, h1, h2, h3⟩
  · omega
  · obtain ⟨x, k, u1, e0, e1⟩ := h3 i hi
    exact ⟨g, h1, x, k, u1, fun W hb => ⟨by rw [hb.cell (p := ⟨g, i * 2, none⟩) h2]; exact e0, by rw [hb.cell (p := ⟨g, i * 2 + 1, none⟩) h2]; exact e1⟩⟩

def chk (o : Option Wd) (w : Int) : Bool := o.isSome && (zeroW o == w)
theorem chk_l {W : World} {p a m : Nat} {s : Lk} (h : At W p a m s) (x g w : Int) (hr : RefOk x g) :
    Calls Try.prog 15 #[.pointer (some ⟨p, 0, none⟩), refV x g, .int .u64 w] W fun e w' => e = .returned (.bool (chk (getW s.l x g) w)) ∧ Below W.heap.size W w' := check_any h x g w hr
theorem chk_r {W : World} {B r : Nat} {l : List Wd} {t : Int} (h : RAt W B r l t) (ho : ∀ u ∈ l, RefOk u.s u.g) (hl : l.length ≤ 1000000) (x g w : Int) (hr : RefOk x g) :
    Calls Try.prog 31 #[.pointer (some ⟨r, 0, none⟩), refV x g, .int .u64 w] W fun e w' => e = .returned (.bool (chk (getW l x g) w)) ∧ Below W.heap.size W w' := rcheck_any h ho hl x g w hr

theorem same_any {W : World} {p a m B r : Nat} {s : Lk} {N : Int} (h : At W p a m s) (hR : RAt W B r s.l s.taken) (hk : s.Ok N) (hN : N ≤ 1000000) (ao : Option Addr) (len cap : Nat) (hrefs : IsRefs W ao len) (hlen : len ≤ 200) :
    Calls Try.prog 10 #[.pointer (some ⟨p, 0, none⟩), .pointer (some ⟨r, 0, none⟩), .slice ao len cap] W fun e w' => e = .returned (.bool true) ∧ Below W.heap.size W w' := by
  have ho : ∀ u ∈ s.l, RefOk u.s u.g := by
    obtain ⟨es, c, hb, hi⟩ := h.hm
    exact hi.2
  have hl : s.l.length ≤ 1000000 := by have := hk.len; omega
  have BL : Hid (∀ x k, RefOk x k → ∀ W', Below W.heap.size W W' → Calls Try.prog 12 #[.pointer (some ⟨p, 0, none⟩), refV x k] W' fun e w' => e = .returned (.tuple #[.int .u64 (zeroW (getW s.l x k)), .int .i64 (stOf (getW s.l x k))]) ∧ Below W'.heap.size W' w') := fun x k hr W' hb => begin_any (h.below hb) x k hr hk.w
  have BR : Hid (∀ x k, RefOk x k → ∀ W', Below W.heap.size W W' → Calls Try.prog 29 #[.pointer (some ⟨r, 0, none⟩), refV x k] W' fun e w' => e = .returned (.tuple #[.int .u64 (zeroW (getW s.l x k)), .int .i64 (stOf (getW s.l x k))]) ∧ Below W'.heap.size W' w') := fun x k hr W' hb => rbegin_any (hR.below hb) ho hk.w hl x k hr
  have CL : Hid (∀ x k, RefOk x k → ∀ W', Below W.heap.size W W' → ∀ v, Calls Try.prog 15 #[.pointer (some ⟨p, 0, none⟩), refV x k, .int .u64 v] W' fun e w' => e = .returned (.bool (chk (getW s.l x k) v)) ∧ Below W'.heap.size W' w') := fun x k hr W' hb v => chk_l (h.below hb) x k v hr
  have CR : Hid (∀ x k, RefOk x k → ∀ W', Below W.heap.size W W' → ∀ v, Calls Try.prog 31 #[.pointer (some ⟨r, 0, none⟩), refV x k, .int .u64 v] W' fun e w' => e = .returned (.bool (chk (getW s.l x k) v)) ∧ Below W'.heap.size W' w') := fun x k hr W' hb v => chk_r (hR.below hb) ho hl x k v hr
  have HL : Hid (∀ W', Below W.heap.size W W' → Calls Try.prog 20 #[.pointer (some ⟨p, 0, none⟩)] W' fun e w' => e = .returned (.int .i64 s.held) ∧ Below W'.heap.size W' w') := fun W' hb => (held_any (h.below hb)).mono fun e w' ⟨h1, h2⟩ => ⟨h1, by rw [h2]; exact Below.refl _ _⟩
  have HR : Hid (∀ W', Below W.heap.size W W' → Calls Try.prog 32 #[.pointer (some ⟨r, 0, none⟩)] W' fun e w' => e = .returned (.int .i64 s.held) ∧ Below W'.heap.size W' w') := fun W' hb => by rw [hk.held]; exact rheld_any (hR.below hb) hk.w hl
  have TL' : Hid (∀ W', Below W.heap.size W W' → Calls Try.prog 21 #[.pointer (some ⟨p, 0, none⟩)] W' fun e w' => e = .returned (.int .i64 s.taken) ∧ Below W'.heap.size W' w') := fun W' hb => (taken_any (h.below hb)).mono fun e w' ⟨h1, h2⟩ => ⟨h1, by rw [h2]; exact Below.refl _ _⟩
  have NL : Hid (∀ W', Below W.heap.size W W' → Calls Try.prog 22 #[.pointer (some ⟨p, 0, none⟩)] W' fun e w' => e = .returned (.int .i64 (s.l.length : Int)) ∧ Below W'.heap.size W' w') := fun W' hb => (len_any (h.below hb)).mono fun e w' ⟨h1, h2⟩ => ⟨h1, by rw [h2]; exact Below.refl _ _⟩
  obtain ⟨aR, cR, aW, cW, _, _, hv⟩ := hR.reads
  have HV : Hid (∀ W', Below W.heap.size W W' → W'.cell? ⟨r, 0, none⟩ = some (.slice aR s.l.length cR) ∧ W'.cell? ⟨r, 2, none⟩ = some (.int .i64 s.taken)) := fun W' hb => ⟨(hv W' hb).1.cell 0, (hv W' hb).1.cell 2⟩
  have HF := Lib.hid hrefs
  clear h hR hk hN ho hl hrefs hv
  go_enter Try.func10, Try.ntmps10
  go_wp2_with fail
  go_loopw [7] (fun it wr => ∃ i : Nat, i ≤ len ∧ it = .int .i64 i ∧ SameB W wr) (fun it _ => len - (intOf it).toNat)
  case atStart => exact ⟨0, by omega, rfl, Below.refl _ _⟩
  case round =>
    obtain ⟨i, hi, rfl, hB⟩ := hrel
    have HB := Lib.hid (show Below W.heap.size W wr from hB)
    clear hB
    by_cases hlt : i < len
    · obtain ⟨g, rfl, x, k, hr, hat⟩ := HF.out.at' i hlt
      have HAT := Lib.hid hat
      have BL1 := Lib.hid (BL.out x k hr)
      have BR1 := Lib.hid (BR.out x k hr)
      have CL1 := Lib.hid (CL.out x k hr)
      have CR1 := Lib.hid (CR.out x k hr)
      have HI : Hid (i < len) := hlt
      have q0 : (0 : Int) ≤ (i : Int) := Int.natCast_nonneg _
      have q1 : (i : Int) < (len : Int) := by omega
      have q2 : decide (i < len) = true := decide_eq_true hlt
      have q3 : (i : Int) < 200 := by omega
      obtain ⟨o, ho⟩ : ∃ o, getW s.l x k = o := ⟨_, rfl⟩
      rw [ho] at BL1 BR1 CL1 CR1
      obtain ⟨z, hz⟩ : ∃ z, zeroW o = z := ⟨_, rfl⟩
      obtain ⟨t, ht⟩ : ∃ t, stOf o = t := ⟨_, rfl⟩
      rw [hz, ht] at BL1 BR1
      obtain ⟨e0, e1⟩ := HAT.out _ HB.out
      clear hat hlt hi ho hz ht hr hlen
      go_wp2_with fail
      refine (BL1.out _ HB.out).mono ?_
      rintro e w2 ⟨rfl, hb2⟩
      have H2 := Lib.hid (Below.step HB.out hb2)
      clear hb2 e0 e1
      obtain ⟨e0, e1⟩ := HAT.out _ H2.out
      go_wp2_with fail
      refine (BR1.out _ H2.out).mono ?_
      rintro e w3 ⟨rfl, hb3⟩
      have H3 := Lib.hid (Below.step H2.out hb3)
      clear hb3 e0 e1
      obtain ⟨e0, e1⟩ := HAT.out _ H3.out
      go_wp2_with fail
      have g0 := fun d os => cell_regrown e0 d os
      have g1 := fun d os => cell_regrown e1 d os
      have KL : Hid (∀ (d : Nat) (os : Array Obj) v, Calls Try.prog 15 #[.pointer (some ⟨p, 0, none⟩), refV x k, .int .u64 v] (Sort.grow (redrawn w3 d) os) fun e w' => e = .returned (.bool (chk o v)) ∧ Below (Sort.grow (redrawn w3 d) os).heap.size (Sort.grow (redrawn w3 d) os) w') := fun d os v => CL1.out _ (Below.step H3.out (below_regrown _ _ _)) v
      have KR : Hid (∀ (d : Nat) (os : Array Obj) v, Calls Try.prog 31 #[.pointer (some ⟨r, 0, none⟩), refV x k, .int .u64 v] (Sort.grow (redrawn w3 d) os) fun e w' => e = .returned (.bool (chk o v)) ∧ Below (Sort.grow (redrawn w3 d) os).heap.size (Sort.grow (redrawn w3 d) os) w') := fun d os v => CR1.out _ (Below.step H3.out (below_regrown _ _ _)) v
      refine wp_region_quiet_below (by kernel_rfl) (by kernel_rfl) ?_
      repeat (any_goals (first | go_big_quiet_step (first
        | (go_at_call 15; with_reducible exact Calls.regrown_of (KL.out _ _ _))
        | (go_at_call 31; with_reducible exact Calls.regrown_of (KR.out _ _ _))) | quiet_step (fail)))
      refine wpQuiet_nil ?_
      intro w7 hw7
      have hb7 : Below w3.heap.size w3 w7 := by obtain ⟨p, rfl⟩ := hw7; exact below_regrown _ _ _
      have H7 := Lib.hid (Below.step H3.out hb7)
      clear hw7 hb7 g0 g1 e0 e1 KL KR
      go_wp2_with fail
      go_roundw
      case rel => exact ⟨i + 1, HI.out, by go_num, H7.out⟩
      case measure => have := HI.out; simp [intOf]; omega
    · obtain rfl : i = len := by omega
      clear hlt hi hlen
      obtain ⟨c0, c2⟩ := HV.out _ HB.out
      have g0 := fun d os => cell_regrown c0 d os
      have g2 := fun d os => cell_regrown c2 d os
      have KH := Lib.hid (fun (d : Nat) (os : Array Obj) => HL.out (Sort.grow (redrawn wr d) os) (Below.step HB.out (below_regrown _ _ _)))
      have KI := Lib.hid (fun (d : Nat) (os : Array Obj) => HR.out (Sort.grow (redrawn wr d) os) (Below.step HB.out (below_regrown _ _ _)))
      have KT := Lib.hid (fun (d : Nat) (os : Array Obj) => TL'.out (Sort.grow (redrawn wr d) os) (Below.step HB.out (below_regrown _ _ _)))
      have KN := Lib.hid (fun (d : Nat) (os : Array Obj) => NL.out (Sort.grow (redrawn wr d) os) (Below.step HB.out (below_regrown _ _ _)))
      go_wp2_with fail
      refine wp_region_quiet_below (by kernel_rfl) (by kernel_rfl) ?_
      repeat (any_goals (first | go_big_quiet_step (first
        | (go_at_call 20; with_reducible exact Calls.regrown_of (KH.out _ _))
        | (go_at_call 32; with_reducible exact Calls.regrown_of (KI.out _ _))
        | (go_at_call 21; with_reducible exact Calls.regrown_of (KT.out _ _))
        | (go_at_call 22; with_reducible exact Calls.regrown_of (KN.out _ _))) | quiet_step (fail)))
      refine wpQuiet_nil ?_
      intro w7 hw7
      have hb7 : Below wr.heap.size wr w7 := by obtain ⟨p, rfl⟩ := hw7; exact below_regrown _ _ _
      have H7 := Lib.hid (Below.step HB.out hb7)
      clear hw7 hb7 g0 g2 c0 c2
      go_wp2_with fail
      go_ret
      exact ⟨by simp, H7.out⟩
end Go.Proofs.Ythhmbmeajgjhcaa
