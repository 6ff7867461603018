/- The walk of ManyEnds. -/
import Derived.Test.YtiifogbdoajnoaaRowD
import Derived.Test.YtiifogbdoajnoaaRowMO
import Derived.Test.YtiifogbdoajnoaaNilM
import Derived.LoopN
import Derived.Deep.DeepCutAuto
namespace Go.Proofs.Ytiifogbdoajnoaa
open Go.RowKit Go.Shelf
attribute [local go_sem] Oper.semAt_some
set_option maxRecDepth 100000
set_option maxHeartbeats 8000000

def roomsV : Array Value := #[.int .i64 (-9223372036854775808), .int .i64 (-1), .int .i64 0, .int .i64 1, .int .i64 3, .int .i64 4, .int .i64 5, .int .i64 15, .int .i64 16, .int .i64 17, .int .i64 47, .int .i64 48, .int .i64 49, .int .i64 255, .int .i64 256, .int .i64 257, .int .i64 9223372036854775807]
def numsV : Array Value := #[.int .i64 (-9223372036854775808), .int .i64 (-1), .int .i64 0, .int .i64 1, .int .i64 100, .int .i64 254, .int .i64 255, .int .i64 256, .int .i64 9223372036854775807]
theorem rooms_at (i : Nat) (h : i < 17) : ∃ r : Int, roomsV[i]? = some (.int .i64 r) := by
  match i, h with
  | 0, _ | 1, _ | 2, _ | 3, _ | 4, _ | 5, _ | 6, _ | 7, _ | 8, _ | 9, _ | 10, _ | 11, _ | 12, _ | 13, _ | 14, _ | 15, _ | 16, _ => exact ⟨_, rfl⟩
  | n + 17, h => exact absurd h (by omega)
theorem nums_at (i : Nat) (h : i < 9) : ∃ r : Int, numsV[i]? = some (.int .i64 r) ∧ I64 r := by
  match i, h with
  | 0, _ | 1, _ | 2, _ | 3, _ | 4, _ | 5, _ | 6, _ | 7, _ | 8, _ => exact ⟨_, rfl, by unfold I64; omega⟩
  | n + 9, h => exact absurd h (by omega)
def KJ (k j : Nat) : Prop := k = 258 + j
theorem u8_wrap (x : Int) : ∃ c : UInt8, IntKind.u8.wrap x = (c.toNat : Int) := by
  have h : IntKind.u8.wrap x = x % 256 := by simp [IntKind.wrap, IntKind.bits, IntKind.signed]
  refine ⟨UInt8.ofNat (x % 256).toNat, ?_⟩
  rw [h]
  have h1 := Int.emod_nonneg x (show (256 : Int) ≠ 0 by decide)
  have h2 := Int.emod_lt_of_pos x (show (0 : Int) < 256 by decide)
  have h3 : (x % 256).toNat < 256 := by omega
  simp [Nat.mod_eq_of_lt h3]
  omega
structure FE (w W : World) (p q e B : Nat) (l : List En) : Prop where
  many : ManyAt W p q e l 48
  box : Fresh W B #[.pointer (some ⟨p, 0, none⟩)] 24
  z : Fresh W w.heap.size #[.bool false] 4
  low : Below w.heap.size w W
  hq : w.heap.size < q ∧ w.heap.size < e
theorem FE.turned {w W W' : World} {p q e e2 B : Nat} {l l' : List En} (h : FE w W p q e B l) (ht : Turned [q, e] W W') (he : e2 = e ∨ W.heap.size ≤ e2) (hf : ManyAt W' p q e2 l' 48) : FE w W' p q e2 B l' :=
  ⟨hf, ht.other h.box (by have := h.many.apart h.box (by decide) (by decide); simp; exact this), ht.other h.z (by have := h.many.apart h.z (by decide) (by decide); simp; exact this), ht.below h.low (by have := h.hq; simp; omega) h.low.size, h.hq.1, by have := h.hq; have := h.z.lt; omega⟩
theorem FE.below {w W W' : World} {p q e B : Nat} {l : List En} (h : FE w W p q e B l) (hb : Below W.heap.size W W') : FE w W' p q e B l :=
  ⟨h.many.below hb, h.box.below hb, h.z.below hb, h.low.trans (hb.mono h.low.size), h.hq⟩
theorem FE.kept {w W W' : World} {row : Option Nat} {p q e B : Nat} {l : List En} (h : FE w W p q e B l) (hg : W.grownBy W' row) (hr : ∀ r, row = some r → w.heap.size ≤ r ∧ ∃ o : Obj, W.heap[r]? = some o ∧ o.isCells = false) : FE w W' p q e B l :=
  ⟨h.many.kept hg (fun r e => (hr r e).2), h.box.kept hg (fun r e => (hr r e).2), h.z.kept hg (fun r e => (hr r e).2), h.low.grown hg (by have := h.low.size; exact this) (fun r e => (hr r e).1), h.hq⟩
theorem FE.set {w W : World} {p q e B N : Nat} {l : List En} (h : FE w W p q e B l) (hN : w.heap.size < N) (n1 : N ≠ p) (n2 : N ≠ q) (n3 : N ≠ B) (n4 : N ≠ e) (v : Value) : FE w (W.setCell ⟨N, 0, none⟩ v) p q e B l :=
  ⟨h.many.turned (S := [N]) ((Turned.refl _ W).setCell (.inl (by simp)) 0 _) (by simp; omega) (by simp; omega) (by simp; omega), h.box.other (by omega) _ _, h.z.other (by omega) _ _, h.low.setCell (by show w.heap.size ≤ N; omega) _, h.hq⟩
theorem fe_put {w W : World} {p q e B : Nat} {l : List En} (h : FE w W p q e B l) (b : UInt8) (z s v : Int) (l' : List En) (hz : (b.toNat : Int) = z) (hl : l.length ≤ 48) (hv : putE b l 48 = v) (hl' : putS b s 0 l 48 = l') :
    Calls Try.prog 12 #[.pointer (some ⟨p, 0, none⟩), .int .u8 z, .agg #[.int .i64 s, .int .u32 0]] W fun e' w' => e' = .returned (.int .i64 v) ∧ ∃ e2, FE w w' p q e2 B l' := by
  subst hz hv hl'
  refine (put_any h.many (by omega) hl b s 0).mono ?_
  rintro e' w' ⟨rfl, e2, he, ht, hf⟩
  exact ⟨rfl, e2, h.turned ht he hf⟩
theorem fe_take {w W : World} {p q e B N : Nat} {c : Int} {l : List En} (h : FE w W p q e B l) (hN : Fresh W N #[.int .i64 c] 3) (b : UInt8) (z : Int) (V : Value) (v : Int) (l' : List En) (hz : (b.toNat : Int) = z) (hV : refOf b l = V) (hv : (if isIn b l = true then 0 else 5) = v) (hl' : takeS b l = l') :
    Calls Try.prog 14 #[.pointer (some ⟨p, 0, none⟩), .int .u8 z] W fun e' w' => e' = .returned (.tuple #[V, .int .i64 v]) ∧ Turned [q, e] W w' ∧ FE w w' p q e B l' ∧ Fresh w' N #[.int .i64 c] 3 := by
  subst hz hl' hV hv
  refine (take_any h.many b).mono ?_
  rintro e' w' ⟨rfl, ht, hf⟩
  exact ⟨rfl, ht, h.turned ht (.inl rfl) hf, ht.other hN (by have := h.many.apart hN (by decide) (by decide); simp; exact this)⟩
/-- How far the range is: nothing yet, or one round. -/
def EN (pre : List En) (c : Int) (l : List En) : Prop := (pre = [] ∧ c = 0 ∧ l = [(7, 3, 0), (8, 2, 0), (9, 1, 0)]) ∨ (pre = [(7, 3, 0)] ∧ c = 1 ∧ l = [(9, 1, 0)])
theorem en_next {pre : List En} {x : En} {c : Int} {l : List En} (h : NextE [(7, 3, 0), (8, 2, 0), (9, 1, 0)] (pre ++ [x])) (e : EN pre c l) :
    (pre = [] ∧ c = 0 ∧ l = [(7, 3, 0), (8, 2, 0), (9, 1, 0)] ∧ x = (7, 3, 0)) ∨ (pre = [(7, 3, 0)] ∧ c = 1 ∧ l = [(9, 1, 0)] ∧ x = (8, 2, 0)) := by
  obtain ⟨k, hk, hp⟩ := h
  obtain ⟨h1, h2⟩ := List.append_inj' hp rfl
  rcases e with ⟨rfl, rfl, rfl⟩ | ⟨rfl, rfl, rfl⟩
  · left
    match k, hk with
    | 0, _ => exact ⟨rfl, rfl, rfl, by simpa using h2⟩
    | 1, _ => simp at h1
    | 2, _ => simp at h1
  · right
    match k, hk with
    | 0, _ => simp at h1
    | 1, _ => exact ⟨rfl, rfl, rfl, by simpa using h2⟩
    | 2, _ => simp at h1
structure NN (w W : World) (p q e B N z : Nat) : Prop where
  fe : FE w W p q e B []
  n : Fresh W N #[.int .i64 2] 3
  fz : Fresh W z #[.pointer none] 49
  fg : Fresh W (z + 1) #[.pointer none, .pointer (some ⟨z, 0, none⟩)] 24
theorem NN.below {w W W' : World} {p q e B N z : Nat} (h : NN w W p q e B N z) (hb : Below W.heap.size W W') : NN w W' p q e B N z := ⟨h.fe.below hb, h.n.below hb, h.fz.below hb, h.fg.below hb⟩
theorem NN.nil {w W : World} {p q e B N z : Nat} (h : NN w W p q e B N z) : NilF W (some ⟨z, 0, none⟩) := .inr ⟨_, rfl, (h.fz.cell 0).trans rfl⟩
theorem calm_ret3 {F : Fence} {n : Nat} {P : Program} {fn : Func} {R : Ending → World → Prop} {a : Act} {w : World} {v : Value} {D E G : Nat} (hd : a.defers = [{ target := .collected D, args := #[] }, { target := .collected E, args := #[] }, { target := .collected G, args := #[] }]) (hD : w.heap[D]? = some (.deferred (some []))) (hE : w.heap[E]? = some (.deferred (some []))) (hG : w.heap[G]? = some (.deferred (some []))) (hne : E ≠ D) (hne2 : G ≠ D) (hne3 : G ≠ E)
    (hr : (results fn a.tmps).run P (((w.putObj D (.deferred none)).putObj E (.deferred none)).putObj G (.deferred none)) = .ok v (((w.putObj D (.deferred none)).putObj E (.deferred none)).putObj G (.deferred none))) (h : R (.returned v) (((w.putObj D (.deferred none)).putObj E (.deferred none)).putObj G (.deferred none))) : calmQ (bodyPostM F n P fn R) .ret a w := by
  show LeavesInM F n P fn a.tmps R a.defers .returning w
  rw [hd]
  exact ⟨by simp, .inl ⟨_, _, rfl, run_takeDeferred hD, by simp, .inl ⟨_, _, rfl, run_takeDeferred ((World.putObj_heap_other hne).trans hE), by simp, .inl ⟨_, _, rfl, run_takeDeferred ((World.putObj_heap_other hne3).trans ((World.putObj_heap_other hne2).trans hG)), v, hr, h⟩⟩⟩⟩
theorem nilf_none (W : World) : NilF W none := .inl rfl
theorem ends_any (w : World) :
    Calls Try.prog 4 #[] w fun e w' => e = .returned (.bool true) ∧ Below w.heap.size w w' := by
  obtain ⟨iD, jD, jD0, jD1, jD2⟩ := infoD
  have HJD := Lib.hid (⟨jD, jD0, jD1, jD2⟩ : _ ∧ _ ∧ _ ∧ _)
  clear jD jD0 jD1 jD2
  refine (callsIn_wide (n := 10)).1 ?_
  refine callsIn_of_wp_marks Try.func4 rfl trivial ?_ rfl
  simp only [Try.ntmps4, List.size_toArray, List.length_nil, Nat.reduceSub, Array.replicate_succ, Array.replicate_zero, List.push_toArray, List.append_toArray, List.nil_append, List.cons_append]
  refine wpIn_wide.2 ?_
  refine wp_mono (Q := calmQ _) ?_ calmQ_out
  obtain ⟨W0, hW0⟩ : ∃ W0, W0 = ((w.alloc (.cells #[.bool false] 4)).alloc (.cells roomsV 3)).alloc (.cells numsV 3) := ⟨_, rfl⟩
  have B0 : Below w.heap.size w W0 := by rw [hW0]; exact Below.new (Below.new (Below.new (Below.refl _ _) _) _) _
  have f0 : Fresh W0 w.heap.size #[.bool false] 4 := by rw [hW0]; exact ((Fresh.new _ _ _ _ rfl).alloc _).alloc _
  have f1 : Fresh W0 (w.heap.size + 1) roomsV 3 := by rw [hW0]; exact (Fresh.new _ _ _ _ (by simp)).alloc _
  have f2 : Fresh W0 (w.heap.size + 2) numsV 3 := by rw [hW0]; exact Fresh.new _ _ _ _ (by simp)
  have HF := Lib.hid (And.intro B0 (And.intro f0 (And.intro f1 f2)))
  have HW0 := Lib.hid hW0
  unfold roomsV numsV at HW0
  clear B0 f0 f1 f2 hW0
  go_upto_region 3 with fail
  rw [← HW0.out]
  clear HW0
  go_wp2_with fail
  go_loopw [3] (fun iv wr => ∃ i : Nat, i ≤ 17 ∧ iv = .int .i64 i ∧ Below W0.heap.size W0 wr) (fun iv _ => 17 - (intOf iv).toNat)
  case atStart => exact ⟨0, by omega, rfl, Below.refl _ _⟩
  case round =>
    obtain ⟨i, hi, rfl, hB⟩ := hrel
    have HB := Lib.hid hB
    have i0 : (0 : Int) ≤ (i : Int) := by omega
    by_cases hlt : i < 17
    · have i1 : (i : Int) < 17 := by omega
      have i2 : decide (i < 17) = true := decide_eq_true hlt
      obtain ⟨r, hr⟩ := rooms_at i hlt
      clear hB
      obtain ⟨V, hV⟩ : ∃ V, V = wr := ⟨_, rfl⟩
      subst hV
      go_wp2_with fail
      go_loopw [4, 5] (fun v kv wq => ∃ (k : Nat) (l : List Dd) (ao : Option Addr) (cap : Nat), k ≤ 258 ∧ kv = .int .i64 k ∧ v = .slice ao k cap ∧ l.length = k ∧ (∀ d ∈ l, d.ok) ∧ wq.ownsRow W0.heap.size 37 5 (.slice ao k cap) k (dc l) ∧ Below W0.heap.size W0 wq) (fun _ kv _ => 258 - (intOf kv).toNat)
      case atStart => exact ⟨0, [], none, 0, by omega, rfl, rfl, rfl, by simp, ⟨rfl, .inl ⟨rfl, rfl⟩⟩, HB.out⟩
      case round =>
        obtain ⟨k, l, ao, cap, hk, rfl, rfl, hll, hok, hrow, hB⟩ := hrel
        have k0 : (0 : Int) ≤ (k : Int) := by omega
        by_cases hlt2 : k < 258
        · have k1 : (k : Int) < 258 := by omega
          have HR := Lib.hid (⟨hll, hok, hrow, hB⟩ : _ ∧ _ ∧ _ ∧ _)
          clear hll hok hrow hB
          have kw : IntKind.i64.wrap ((k : Int) + 1) = (k : Int) + 1 := IntWalk.i64_in _ (by omega)
          obtain ⟨ca, hca⟩ := u8_wrap (k : Int)
          obtain ⟨cb, hcb⟩ := u8_wrap (255 - (k : Int))
          have hi32 : IntKind.u32.wrap (i : Int) = (i : Int) := by simp [IntKind.wrap, IntKind.bits, IntKind.signed] <;> omega
          have hmt : (i : Int).tmod 2 = (i : Int) % 2 := Int.tmod_eq_emod_of_nonneg i0
          rcases (show (i : Int).tmod 2 = 0 ∨ (i : Int).tmod 2 = 1 by rw [hmt]; omega) with hm | hm
          · clear hmt
            go_upto_region 13 with fail
            have B7 : Below wr.heap.size wr (wr.alloc (.cells #[.int .i64 0, .int .u8 (cb.toNat : Int), .int .i64 0, .int .i64 (k : Int), .int .u32 (i : Int)] 37)) := Below.new (Below.refl _ _) _
            have o7 : Hid ((wr.alloc (.cells #[.int .i64 0, .int .u8 (cb.toNat : Int), .int .i64 0, .int .i64 (k : Int), .int .u32 (i : Int)] 37)).ownsRow W0.heap.size 37 5 (.slice ao k cap) k (dc l)) := row_keep HR.out.2.2.1 fun b hb => B7.block b (HR.out.2.2.1.lt b hb).2
            have N7 : Hid (∀ (j : Nat) q, ([.int .i64 0, .int .u8 (cb.toNat : Int), .int .i64 0, .int .i64 (k : Int), .int .u32 (i : Int)] : List Value)[j]? = some q → (wr.alloc (.cells #[.int .i64 0, .int .u8 (cb.toNat : Int), .int .i64 0, .int .i64 (k : Int), .int .u32 (i : Int)] 37)).cell? ((⟨wr.heap.size, 0, none⟩ : Addr).add j) = some q) := by
              intro j q hj
              have D7 : Fresh (wr.alloc (.cells #[.int .i64 0, .int .u8 (cb.toNat : Int), .int .i64 0, .int .i64 (k : Int), .int .u32 (i : Int)] 37)) wr.heap.size #[.int .i64 0, .int .u8 (cb.toNat : Int), .int .i64 0, .int .i64 (k : Int), .int .u32 (i : Int)] 37 := Fresh.new _ _ _ _ rfl
              rw [Addr.add_lit, Nat.zero_add, D7.cell j]
              simpa using hj
            have S7 : Hid (W0.heap.size ≤ (wr.alloc (.cells #[.int .i64 0, .int .u8 (cb.toNat : Int), .int .i64 0, .int .i64 (k : Int), .int .u32 (i : Int)] 37)).heap.size) := by have := HR.out.2.2.2.size; show _ ≤ _; simp; omega
            have HB7 := Lib.hid B7
            clear B7
            go_wp2_with (at_builtin; refine wpList_append_own _ rfl (.tmp 41) (.tmp 48) 22 rfl W0.heap.size 37 iD (.agg #[.int .i64 0, .int .u8 0, .int .i64 0, .int .i64 0, .int .u32 0]) 5 40 Try.underlying22 HJD.out.1 HJD.out.2.1 HJD.out.2.2.1 HJD.out.2.2.2 rfl (by omega) (.slice ao k cap) k (dc l) rfl o7.out ⟨wr.heap.size, 0, none⟩ 1 1 [.int .i64 0, .int .u8 (cb.toNat : Int), .int .i64 0, .int .i64 (k : Int), .int .u32 (i : Int)] rfl rfl N7.out (by intro u hu; simp at hu; rcases hu with rfl | rfl | rfl | rfl | rfl <;> rfl) (by unfold maxLen; omega) (by omega) S7.out ?_)
            intro v8 w8 hown hgrow hnn
            obtain ⟨a8, c8, rfl⟩ := row_form hown
            have B8 : Below W0.heap.size W0 w8 := (HR.out.2.2.2.trans (HB7.out.mono HR.out.2.2.2.size)).grown hgrow (by have := S7.out; exact this) (fun b hb => (o7.out.lt b hb).1)
            have H8 : Hid ((l ++ [(⟨0, cb, 0, (k : Int), (i : Int)⟩ : Dd)]).length = k + 1 ∧ (∀ d ∈ (l ++ [(⟨0, cb, 0, (k : Int), (i : Int)⟩ : Dd)]), d.ok) ∧ w8.ownsRow W0.heap.size 37 5 (.slice a8 (k + 1) c8) (k + 1) (dc (l ++ [(⟨0, cb, 0, (k : Int), (i : Int)⟩ : Dd)])) ∧ Below W0.heap.size W0 w8) := by
              refine ⟨by rw [List.length_append, HR.out.1]; rfl, ?_, by rw [dc_append]; exact hown, B8⟩
              intro d hd
              rcases List.mem_append.1 hd with hd | hd
              · exact HR.out.2.1 d hd
              · simp only [List.mem_cons, List.not_mem_nil, or_false] at hd
                subst hd; exact ok_small _ _ _ _ _ (by unfold I64; omega) (by unfold I64; omega) (by unfold I64; omega) (by omega)
            clear hown hgrow hnn B8
            go_wp2_with fail
            go_roundw
            case rel => exact ⟨k + 1, _, a8, c8, by omega, by first | rfl | go_num, rfl, H8.out.1, H8.out.2.1, H8.out.2.2.1, H8.out.2.2.2⟩
            case measure => simp [intOf]; omega
          · clear hmt
            go_upto_region 13 with fail
            have B7 : Below wr.heap.size wr (wr.alloc (.cells #[.int .i64 0, .int .u8 (ca.toNat : Int), .int .i64 0, .int .i64 (k : Int), .int .u32 (i : Int)] 37)) := Below.new (Below.refl _ _) _
            have o7 : Hid ((wr.alloc (.cells #[.int .i64 0, .int .u8 (ca.toNat : Int), .int .i64 0, .int .i64 (k : Int), .int .u32 (i : Int)] 37)).ownsRow W0.heap.size 37 5 (.slice ao k cap) k (dc l)) := row_keep HR.out.2.2.1 fun b hb => B7.block b (HR.out.2.2.1.lt b hb).2
            have N7 : Hid (∀ (j : Nat) q, ([.int .i64 0, .int .u8 (ca.toNat : Int), .int .i64 0, .int .i64 (k : Int), .int .u32 (i : Int)] : List Value)[j]? = some q → (wr.alloc (.cells #[.int .i64 0, .int .u8 (ca.toNat : Int), .int .i64 0, .int .i64 (k : Int), .int .u32 (i : Int)] 37)).cell? ((⟨wr.heap.size, 0, none⟩ : Addr).add j) = some q) := by
              intro j q hj
              have D7 : Fresh (wr.alloc (.cells #[.int .i64 0, .int .u8 (ca.toNat : Int), .int .i64 0, .int .i64 (k : Int), .int .u32 (i : Int)] 37)) wr.heap.size #[.int .i64 0, .int .u8 (ca.toNat : Int), .int .i64 0, .int .i64 (k : Int), .int .u32 (i : Int)] 37 := Fresh.new _ _ _ _ rfl
              rw [Addr.add_lit, Nat.zero_add, D7.cell j]
              simpa using hj
            have S7 : Hid (W0.heap.size ≤ (wr.alloc (.cells #[.int .i64 0, .int .u8 (ca.toNat : Int), .int .i64 0, .int .i64 (k : Int), .int .u32 (i : Int)] 37)).heap.size) := by have := HR.out.2.2.2.size; show _ ≤ _; simp; omega
            have HB7 := Lib.hid B7
            clear B7
            go_wp2_with (at_builtin; refine wpList_append_own _ rfl (.tmp 41) (.tmp 48) 22 rfl W0.heap.size 37 iD (.agg #[.int .i64 0, .int .u8 0, .int .i64 0, .int .i64 0, .int .u32 0]) 5 40 Try.underlying22 HJD.out.1 HJD.out.2.1 HJD.out.2.2.1 HJD.out.2.2.2 rfl (by omega) (.slice ao k cap) k (dc l) rfl o7.out ⟨wr.heap.size, 0, none⟩ 1 1 [.int .i64 0, .int .u8 (ca.toNat : Int), .int .i64 0, .int .i64 (k : Int), .int .u32 (i : Int)] rfl rfl N7.out (by intro u hu; simp at hu; rcases hu with rfl | rfl | rfl | rfl | rfl <;> rfl) (by unfold maxLen; omega) (by omega) S7.out ?_)
            intro v8 w8 hown hgrow hnn
            obtain ⟨a8, c8, rfl⟩ := row_form hown
            have B8 : Below W0.heap.size W0 w8 := (HR.out.2.2.2.trans (HB7.out.mono HR.out.2.2.2.size)).grown hgrow (by have := S7.out; exact this) (fun b hb => (o7.out.lt b hb).1)
            have H8 : Hid ((l ++ [(⟨0, ca, 0, (k : Int), (i : Int)⟩ : Dd)]).length = k + 1 ∧ (∀ d ∈ (l ++ [(⟨0, ca, 0, (k : Int), (i : Int)⟩ : Dd)]), d.ok) ∧ w8.ownsRow W0.heap.size 37 5 (.slice a8 (k + 1) c8) (k + 1) (dc (l ++ [(⟨0, ca, 0, (k : Int), (i : Int)⟩ : Dd)])) ∧ Below W0.heap.size W0 w8) := by
              refine ⟨by rw [List.length_append, HR.out.1]; rfl, ?_, by rw [dc_append]; exact hown, B8⟩
              intro d hd
              rcases List.mem_append.1 hd with hd | hd
              · exact HR.out.2.1 d hd
              · simp only [List.mem_cons, List.not_mem_nil, or_false] at hd
                subst hd; exact ok_small _ _ _ _ _ (by unfold I64; omega) (by unfold I64; omega) (by unfold I64; omega) (by omega)
            clear hown hgrow hnn B8
            go_wp2_with fail
            go_roundw
            case rel => exact ⟨k + 1, _, a8, c8, by omega, by first | rfl | go_num, rfl, H8.out.1, H8.out.2.1, H8.out.2.2.1, H8.out.2.2.2⟩
            case measure => simp [intOf]; omega
        · obtain rfl : k = 258 := by omega
          have HR := Lib.hid (⟨hll, hok, hrow, hB⟩ : _ ∧ _ ∧ _ ∧ _)
          clear hll hok hrow hB
          obtain ⟨V1, hV1⟩ : ∃ V1, V1 = wr := ⟨_, rfl⟩
          subst hV1
          go_wp2_with fail
          rw [show ((258 : Nat) : Int) = (258 : Int) from rfl]
          go_loopw [4, 7] (fun v jv wq => ∃ (k j : Nat) (l : List Dd) (ao : Option Addr) (cap : Nat), j ≤ 9 ∧ KJ k j ∧ jv = .int .i64 j ∧ v = .slice ao k cap ∧ l.length = k ∧ (∀ d ∈ l, d.ok) ∧ wq.ownsRow W0.heap.size 37 5 (.slice ao k cap) k (dc l) ∧ Below W0.heap.size W0 wq) (fun _ jv _ => 9 - (intOf jv).toNat)
          case atStart => exact ⟨258, 0, l, ao, cap, by omega, rfl, rfl, rfl, HR.out.1, HR.out.2.1, HR.out.2.2.1, HR.out.2.2.2⟩
          case round =>
            clear HR
            obtain ⟨k, j, l, ao, cap, hj, hkj, rfl, rfl, hll, hok, hrow, hB⟩ := hrel
            have j0 : (0 : Int) ≤ (j : Int) := by omega
            have HKJ : Hid (k = 258 + j) := hkj
            unfold KJ at hkj
            have hk27' : k ≤ 267 := by omega
            clear hkj
            have HR := Lib.hid (⟨hll, hok, hrow, hB⟩ : _ ∧ _ ∧ _ ∧ _)
            clear hll hok hrow hB
            by_cases hlt3 : j < 9
            · have j1 : (j : Int) < 9 := by omega
              have j2 : decide (j < 9) = true := decide_eq_true hlt3
              have hk27 : k < 267 := by have := HKJ.out; omega
              obtain ⟨nu, hnu, hI⟩ := nums_at j hlt3
              have HNU := Lib.hid hI
              have c9 : wr.cell? ⟨w.heap.size + 1 + 1, j, none⟩ = some (.int .i64 nu) := ((HF.out.2.2.2.below HR.out.2.2.2).cell j).trans hnu
              clear hnu hI
              have B7 : Below wr.heap.size wr (wr.alloc (.cells #[.int .i64 4, .int .u8 0, .int .i64 nu, .int .i64 0, .int .u32 0] 37)) := Below.new (Below.refl _ _) _
              have o7 : Hid ((wr.alloc (.cells #[.int .i64 4, .int .u8 0, .int .i64 nu, .int .i64 0, .int .u32 0] 37)).ownsRow W0.heap.size 37 5 (.slice ao k cap) k (dc l)) := row_keep HR.out.2.2.1 fun b hb => B7.block b (HR.out.2.2.1.lt b hb).2
              have N7 : Hid (∀ (j : Nat) q, ([.int .i64 4, .int .u8 0, .int .i64 nu, .int .i64 0, .int .u32 0] : List Value)[j]? = some q → (wr.alloc (.cells #[.int .i64 4, .int .u8 0, .int .i64 nu, .int .i64 0, .int .u32 0] 37)).cell? ((⟨wr.heap.size, 0, none⟩ : Addr).add j) = some q) := by
                intro j q hj
                have D7 : Fresh (wr.alloc (.cells #[.int .i64 4, .int .u8 0, .int .i64 nu, .int .i64 0, .int .u32 0] 37)) wr.heap.size #[.int .i64 4, .int .u8 0, .int .i64 nu, .int .i64 0, .int .u32 0] 37 := Fresh.new _ _ _ _ rfl
                rw [Addr.add_lit, Nat.zero_add, D7.cell j]
                simpa using hj
              have S7 : Hid (W0.heap.size ≤ (wr.alloc (.cells #[.int .i64 4, .int .u8 0, .int .i64 nu, .int .i64 0, .int .u32 0] 37)).heap.size) := by have := HR.out.2.2.2.size; show _ ≤ _; simp; omega
              have HB7 := Lib.hid B7
              clear B7
              go_wp2_with (at_builtin; refine wpList_append_own _ rfl (.tmp 54) (.tmp 60) 22 rfl W0.heap.size 37 iD (.agg #[.int .i64 0, .int .u8 0, .int .i64 0, .int .i64 0, .int .u32 0]) 5 40 Try.underlying22 HJD.out.1 HJD.out.2.1 HJD.out.2.2.1 HJD.out.2.2.2 rfl (by omega) (.slice ao k cap) k (dc l) rfl o7.out ⟨wr.heap.size, 0, none⟩ 1 1 [.int .i64 4, .int .u8 0, .int .i64 nu, .int .i64 0, .int .u32 0] rfl rfl N7.out (by intro u hu; simp at hu; rcases hu with rfl | rfl | rfl | rfl | rfl <;> rfl) (by unfold maxLen; omega) (by omega) S7.out ?_)
              intro v8 w8 hown hgrow hnn
              obtain ⟨a8, c8, rfl⟩ := row_form hown
              have B8 : Below W0.heap.size W0 w8 := (HR.out.2.2.2.trans (HB7.out.mono HR.out.2.2.2.size)).grown hgrow (by have := S7.out; exact this) (fun b hb => (o7.out.lt b hb).1)
              have H8 : Hid ((l ++ [(⟨4, 0, nu, 0, 0⟩ : Dd)]).length = k + 1 ∧ (∀ d ∈ (l ++ [(⟨4, 0, nu, 0, 0⟩ : Dd)]), d.ok) ∧ w8.ownsRow W0.heap.size 37 5 (.slice a8 (k + 1) c8) (k + 1) (dc (l ++ [(⟨4, 0, nu, 0, 0⟩ : Dd)])) ∧ Below W0.heap.size W0 w8) := by
                refine ⟨by rw [List.length_append, HR.out.1]; rfl, ?_, by rw [dc_append]; exact hown, B8⟩
                intro d hd
                rcases List.mem_append.1 hd with hd | hd
                · exact HR.out.2.1 d hd
                · simp only [List.mem_cons, List.not_mem_nil, or_false] at hd
                  subst hd; exact ok_small _ _ _ _ _ (by unfold I64; omega) HNU.out (by unfold I64; omega) (by omega)
              clear hown hgrow hnn B8
              go_wp2_with fail
              go_roundw
              case rel => exact ⟨k + 1, j + 1, _, a8, c8, by omega, by have := HKJ.out; unfold KJ; omega, by first | rfl | go_num, rfl, H8.out.1, H8.out.2.1, H8.out.2.2.1, H8.out.2.2.2⟩
              case measure => simp [intOf]; omega
            · obtain rfl : j = 9 := by omega
              obtain rfl : k = 267 := HKJ.out
              have B7 : Below wr.heap.size wr (wr.alloc (.cells #[.int .i64 2, .int .u8 255, .int .i64 0, .int .i64 7, .int .u32 0, .int .i64 2, .int .u8 0, .int .i64 0, .int .i64 8, .int .u32 0, .int .i64 5, .int .u8 200, .int .i64 0, .int .i64 0, .int .u32 0, .int .i64 3, .int .u8 255, .int .i64 0, .int .i64 0, .int .u32 0, .int .i64 3, .int .u8 255, .int .i64 0, .int .i64 0, .int .u32 0, .int .i64 3, .int .u8 1, .int .i64 0, .int .i64 0, .int .u32 0, .int .i64 2, .int .u8 1, .int .i64 0, .int .i64 0, .int .u32 0, .int .i64 0, .int .u8 1, .int .i64 0, .int .i64 0, .int .u32 0, .int .i64 4, .int .u8 0, .int .i64 0, .int .i64 0, .int .u32 0] 37)) := Below.new (Below.refl _ _) _
              have o7 : Hid ((wr.alloc (.cells #[.int .i64 2, .int .u8 255, .int .i64 0, .int .i64 7, .int .u32 0, .int .i64 2, .int .u8 0, .int .i64 0, .int .i64 8, .int .u32 0, .int .i64 5, .int .u8 200, .int .i64 0, .int .i64 0, .int .u32 0, .int .i64 3, .int .u8 255, .int .i64 0, .int .i64 0, .int .u32 0, .int .i64 3, .int .u8 255, .int .i64 0, .int .i64 0, .int .u32 0, .int .i64 3, .int .u8 1, .int .i64 0, .int .i64 0, .int .u32 0, .int .i64 2, .int .u8 1, .int .i64 0, .int .i64 0, .int .u32 0, .int .i64 0, .int .u8 1, .int .i64 0, .int .i64 0, .int .u32 0, .int .i64 4, .int .u8 0, .int .i64 0, .int .i64 0, .int .u32 0] 37)).ownsRow W0.heap.size 37 5 (.slice ao 267 cap) 267 (dc l)) := row_keep HR.out.2.2.1 fun b hb => B7.block b (HR.out.2.2.1.lt b hb).2
              have N7 : Hid (∀ (j : Nat) q, ([.int .i64 2, .int .u8 255, .int .i64 0, .int .i64 7, .int .u32 0, .int .i64 2, .int .u8 0, .int .i64 0, .int .i64 8, .int .u32 0, .int .i64 5, .int .u8 200, .int .i64 0, .int .i64 0, .int .u32 0, .int .i64 3, .int .u8 255, .int .i64 0, .int .i64 0, .int .u32 0, .int .i64 3, .int .u8 255, .int .i64 0, .int .i64 0, .int .u32 0, .int .i64 3, .int .u8 1, .int .i64 0, .int .i64 0, .int .u32 0, .int .i64 2, .int .u8 1, .int .i64 0, .int .i64 0, .int .u32 0, .int .i64 0, .int .u8 1, .int .i64 0, .int .i64 0, .int .u32 0, .int .i64 4, .int .u8 0, .int .i64 0, .int .i64 0, .int .u32 0] : List Value)[j]? = some q → (wr.alloc (.cells #[.int .i64 2, .int .u8 255, .int .i64 0, .int .i64 7, .int .u32 0, .int .i64 2, .int .u8 0, .int .i64 0, .int .i64 8, .int .u32 0, .int .i64 5, .int .u8 200, .int .i64 0, .int .i64 0, .int .u32 0, .int .i64 3, .int .u8 255, .int .i64 0, .int .i64 0, .int .u32 0, .int .i64 3, .int .u8 255, .int .i64 0, .int .i64 0, .int .u32 0, .int .i64 3, .int .u8 1, .int .i64 0, .int .i64 0, .int .u32 0, .int .i64 2, .int .u8 1, .int .i64 0, .int .i64 0, .int .u32 0, .int .i64 0, .int .u8 1, .int .i64 0, .int .i64 0, .int .u32 0, .int .i64 4, .int .u8 0, .int .i64 0, .int .i64 0, .int .u32 0] 37)).cell? ((⟨wr.heap.size, 0, none⟩ : Addr).add j) = some q) := by
                intro j q hj
                have D7 : Fresh (wr.alloc (.cells #[.int .i64 2, .int .u8 255, .int .i64 0, .int .i64 7, .int .u32 0, .int .i64 2, .int .u8 0, .int .i64 0, .int .i64 8, .int .u32 0, .int .i64 5, .int .u8 200, .int .i64 0, .int .i64 0, .int .u32 0, .int .i64 3, .int .u8 255, .int .i64 0, .int .i64 0, .int .u32 0, .int .i64 3, .int .u8 255, .int .i64 0, .int .i64 0, .int .u32 0, .int .i64 3, .int .u8 1, .int .i64 0, .int .i64 0, .int .u32 0, .int .i64 2, .int .u8 1, .int .i64 0, .int .i64 0, .int .u32 0, .int .i64 0, .int .u8 1, .int .i64 0, .int .i64 0, .int .u32 0, .int .i64 4, .int .u8 0, .int .i64 0, .int .i64 0, .int .u32 0] 37)) wr.heap.size #[.int .i64 2, .int .u8 255, .int .i64 0, .int .i64 7, .int .u32 0, .int .i64 2, .int .u8 0, .int .i64 0, .int .i64 8, .int .u32 0, .int .i64 5, .int .u8 200, .int .i64 0, .int .i64 0, .int .u32 0, .int .i64 3, .int .u8 255, .int .i64 0, .int .i64 0, .int .u32 0, .int .i64 3, .int .u8 255, .int .i64 0, .int .i64 0, .int .u32 0, .int .i64 3, .int .u8 1, .int .i64 0, .int .i64 0, .int .u32 0, .int .i64 2, .int .u8 1, .int .i64 0, .int .i64 0, .int .u32 0, .int .i64 0, .int .u8 1, .int .i64 0, .int .i64 0, .int .u32 0, .int .i64 4, .int .u8 0, .int .i64 0, .int .i64 0, .int .u32 0] 37 := Fresh.new _ _ _ _ rfl
                rw [Addr.add_lit, Nat.zero_add, D7.cell j]
                simpa using hj
              have S7 : Hid (W0.heap.size ≤ (wr.alloc (.cells #[.int .i64 2, .int .u8 255, .int .i64 0, .int .i64 7, .int .u32 0, .int .i64 2, .int .u8 0, .int .i64 0, .int .i64 8, .int .u32 0, .int .i64 5, .int .u8 200, .int .i64 0, .int .i64 0, .int .u32 0, .int .i64 3, .int .u8 255, .int .i64 0, .int .i64 0, .int .u32 0, .int .i64 3, .int .u8 255, .int .i64 0, .int .i64 0, .int .u32 0, .int .i64 3, .int .u8 1, .int .i64 0, .int .i64 0, .int .u32 0, .int .i64 2, .int .u8 1, .int .i64 0, .int .i64 0, .int .u32 0, .int .i64 0, .int .u8 1, .int .i64 0, .int .i64 0, .int .u32 0, .int .i64 4, .int .u8 0, .int .i64 0, .int .i64 0, .int .u32 0] 37)).heap.size) := by have := HR.out.2.2.2.size; show _ ≤ _; simp; omega
              have HB7 := Lib.hid B7
              clear B7
              go_wp2_with (at_builtin; refine wpList_append_own _ rfl (.tmp 62) (.tmp 74) 22 rfl W0.heap.size 37 iD (.agg #[.int .i64 0, .int .u8 0, .int .i64 0, .int .i64 0, .int .u32 0]) 5 40 Try.underlying22 HJD.out.1 HJD.out.2.1 HJD.out.2.2.1 HJD.out.2.2.2 rfl (by omega) (.slice ao 267 cap) 267 (dc l) rfl o7.out ⟨wr.heap.size, 0, none⟩ 9 9 [.int .i64 2, .int .u8 255, .int .i64 0, .int .i64 7, .int .u32 0, .int .i64 2, .int .u8 0, .int .i64 0, .int .i64 8, .int .u32 0, .int .i64 5, .int .u8 200, .int .i64 0, .int .i64 0, .int .u32 0, .int .i64 3, .int .u8 255, .int .i64 0, .int .i64 0, .int .u32 0, .int .i64 3, .int .u8 255, .int .i64 0, .int .i64 0, .int .u32 0, .int .i64 3, .int .u8 1, .int .i64 0, .int .i64 0, .int .u32 0, .int .i64 2, .int .u8 1, .int .i64 0, .int .i64 0, .int .u32 0, .int .i64 0, .int .u8 1, .int .i64 0, .int .i64 0, .int .u32 0, .int .i64 4, .int .u8 0, .int .i64 0, .int .i64 0, .int .u32 0] rfl rfl N7.out (by intro u hu; simp at hu; rcases hu with rfl | rfl | rfl | rfl | rfl | rfl | rfl | rfl | rfl | rfl | rfl | rfl | rfl | rfl | rfl | rfl | rfl | rfl | rfl | rfl | rfl | rfl | rfl | rfl | rfl | rfl | rfl | rfl | rfl | rfl | rfl | rfl | rfl | rfl | rfl | rfl | rfl | rfl | rfl | rfl | rfl | rfl | rfl | rfl | rfl <;> rfl) (by unfold maxLen; omega) (by omega) S7.out ?_)
              intro v8 w8 hown hgrow hnn
              obtain ⟨a8, c8, rfl⟩ := row_form hown
              have B8 : Below W0.heap.size W0 w8 := (HR.out.2.2.2.trans (HB7.out.mono HR.out.2.2.2.size)).grown hgrow (by have := S7.out; exact this) (fun b hb => (o7.out.lt b hb).1)
              have H8 : Hid ((l ++ [(⟨2, 255, 0, 7, 0⟩ : Dd), (⟨2, 0, 0, 8, 0⟩ : Dd), (⟨5, 200, 0, 0, 0⟩ : Dd), (⟨3, 255, 0, 0, 0⟩ : Dd), (⟨3, 255, 0, 0, 0⟩ : Dd), (⟨3, 1, 0, 0, 0⟩ : Dd), (⟨2, 1, 0, 0, 0⟩ : Dd), (⟨0, 1, 0, 0, 0⟩ : Dd), (⟨4, 0, 0, 0, 0⟩ : Dd)]).length = 267 + 9 ∧ (∀ d ∈ (l ++ [(⟨2, 255, 0, 7, 0⟩ : Dd), (⟨2, 0, 0, 8, 0⟩ : Dd), (⟨5, 200, 0, 0, 0⟩ : Dd), (⟨3, 255, 0, 0, 0⟩ : Dd), (⟨3, 255, 0, 0, 0⟩ : Dd), (⟨3, 1, 0, 0, 0⟩ : Dd), (⟨2, 1, 0, 0, 0⟩ : Dd), (⟨0, 1, 0, 0, 0⟩ : Dd), (⟨4, 0, 0, 0, 0⟩ : Dd)]), d.ok) ∧ w8.ownsRow W0.heap.size 37 5 (.slice a8 (267 + 9) c8) (267 + 9) (dc (l ++ [(⟨2, 255, 0, 7, 0⟩ : Dd), (⟨2, 0, 0, 8, 0⟩ : Dd), (⟨5, 200, 0, 0, 0⟩ : Dd), (⟨3, 255, 0, 0, 0⟩ : Dd), (⟨3, 255, 0, 0, 0⟩ : Dd), (⟨3, 1, 0, 0, 0⟩ : Dd), (⟨2, 1, 0, 0, 0⟩ : Dd), (⟨0, 1, 0, 0, 0⟩ : Dd), (⟨4, 0, 0, 0, 0⟩ : Dd)])) ∧ Below W0.heap.size W0 w8) := by
                refine ⟨by rw [List.length_append, HR.out.1]; rfl, ?_, by rw [dc_append]; exact hown, B8⟩
                intro d hd
                rcases List.mem_append.1 hd with hd | hd
                · exact HR.out.2.1 d hd
                · simp only [List.mem_cons, List.not_mem_nil, or_false] at hd
                  rcases hd with rfl | rfl | rfl | rfl | rfl | rfl | rfl | rfl | rfl <;> exact ok_small _ _ _ _ _ (by unfold I64; omega) (by unfold I64; omega) (by unfold I64; omega) (by omega)
              clear hown hgrow hnn B8
              have c1 : w8.cell? ⟨w.heap.size + 1, i, none⟩ = some (.int .i64 r) := ((HF.out.2.2.1.below H8.out.2.2.2).cell i).trans hr
              have HX := Lib.hid (manyDoes_any r a8 276 c8 w8 (deeds_of_row (n := 276) H8.out.2.2.1 H8.out.1 H8.out.2.1 (by omega)))
              have kw : IntKind.i64.wrap ((i : Int) + 1) = (i : Int) + 1 := IntWalk.i64_in _ (by omega)
              go_wp2_with (go_at_call 3; refine HX.out.mono ?_; rintro e w9 ⟨rfl, hb9⟩)
              go_roundw
              case rel => exact ⟨i + 1, by omega, by first | rfl | go_num | (rw [kw]; rfl), (H8.out.2.2.2).trans (hb9.mono H8.out.2.2.2.size)⟩
              case measure => first | (simp [intOf]; omega) | (rw [kw]; simp [intOf]; omega)
    · obtain rfl : i = 17 := by omega
      have HBW := Lib.hid (HF.out.1.trans (HB.out.mono HF.out.1.size))
      have HZ0 := Lib.hid (HF.out.2.1.below HB.out)
      have HNew : Hid (∀ W : World, Calls Try.prog 8 #[.int .i64 48] W fun e w' => e = .returned (.tuple #[.pointer (some ⟨W.heap.size + 1, 0, none⟩), .int .i64 0]) ∧ Below W.heap.size W w' ∧ ManyAt w' (W.heap.size + 1) W.heap.size W.heap.size [] 48) := Lib.hid fun W => new_yes 48 (.inl rfl) W
      have HS0 := HF.out.2.1.lt
      have HWR : Hid (w.heap.size < wr.heap.size) := HZ0.out.lt
      clear i0 hlt hi hB HS0 HB HF HJD
      rw [show ((17 : Nat) : Int) = (17 : Int) from rfl]
      go_upto_region 22 with (go_at_call 8; refine (HNew.out _).mono ?_; rintro e w1 ⟨rfl, hb1, hf1⟩)
      obtain ⟨p, hp⟩ : ∃ p, p = wr.heap.size + 1 := ⟨_, rfl⟩
      obtain ⟨q, hq⟩ : ∃ q, q = wr.heap.size := ⟨_, rfl⟩
      rw [← hp, ← hq] at hf1
      rw [← hp]
      obtain ⟨B, hB⟩ : ∃ B, B = w1.heap.size := ⟨_, rfl⟩
      rw [← hB]
      obtain ⟨W1, hW1⟩ : ∃ W1, W1 = w1.alloc (.cells #[.pointer (some ⟨p, 0, none⟩)] 24) := ⟨_, rfl⟩
      rw [← hW1]
      have O1 : Hid (FE w W1 p q q B []) := by
        have hl := hf1.lt
        have hwr := HWR.out
        show FE _ _ _ _ _ _ _
        rw [hW1]
        exact ⟨hf1.below (Below.new (Below.refl _ _) _), Fresh.new _ _ _ _ hB.symm, (HZ0.out.below hb1).alloc _, Below.new (HBW.out.trans (hb1.mono (by omega))) _, by omega, by omega⟩
      clear hW1 hB hb1 hf1 hp hq
      have r0 := (O1.out.box.cell 0).trans rfl
      go_upto_region 25 with (go_at_call 12; first
        | (have _t := O3; refine (fe_put O3.out 7 7 3 0 [(7, 3, 0), (8, 2, 0), (9, 1, 0)] rfl (by decide) (by decide) (by decide)).mono ?_; rintro e w4 ⟨rfl, e4, h⟩; have O4 := Lib.hid h; clear h)
        | (have _t := O2; refine (fe_put O2.out 8 8 2 0 [(8, 2, 0), (9, 1, 0)] rfl (by decide) (by decide) (by decide)).mono ?_; rintro e w3 ⟨rfl, e3, h⟩; have O3 := Lib.hid h; have r0 := (O3.out.box.cell 0).trans rfl; clear h)
        | (refine (fe_put O1.out 9 9 1 0 [(9, 1, 0)] rfl (by decide) (by decide) (by decide)).mono ?_; rintro e w2 ⟨rfl, e2, h⟩; have O2 := Lib.hid h; have r0 := (O2.out.box.cell 0).trans rfl; clear h))
      clear O1 O2 O3 r0
      obtain ⟨N, hN⟩ : ∃ N, N = w4.heap.size := ⟨_, rfl⟩
      go_upto_region 26 with fail
      rw [← hN]
      obtain ⟨W4, hW4⟩ : ∃ W4, W4 = w4.alloc (.cells #[.int .i64 0] 3) := ⟨_, rfl⟩
      rw [← hW4]
      have low4 : Below w4.heap.size w4 W4 := by rw [hW4]; exact Below.new (Below.refl _ _) _
      have O5 := Lib.hid (O4.out.below low4)
      have FN : Hid (Fresh W4 N #[.int .i64 0] 3) := by show Fresh _ _ _ _; rw [hW4]; exact Fresh.new _ _ _ _ hN.symm
      have HLT : Hid (w.heap.size < N ∧ N ≠ p ∧ N ≠ q ∧ N ≠ B ∧ p < N ∧ q < N ∧ B < N ∧ N < W4.heap.size ∧ e4 < N) := by
        have h1 := O4.out.many.lt; have h3 := O4.out.box.lt; have h4 := O4.out.hq
        have h5 := FN.out.lt
        show _ ∧ _
        omega
      clear hW4 hN low4 O4
      have r0 := (O5.out.box.cell 0).trans rfl
      go_wp2_with (go_at_call 13; refine (allv_any _ _).mono ?_; rintro e WL ⟨rfl, hWL⟩; have HWL := Lib.hid hWL; clear hWL)
      have szL : WL.heap.size = W4.heap.size + 1 := by rw [HWL.out]; simp
      have BL : Below W4.heap.size W4 WL := by rw [HWL.out]; exact Below.new (Below.refl _ _) _
      have fa : Fresh WL W4.heap.size #[.pointer (some ⟨p, 0, none⟩)] 24 := by rw [HWL.out]; exact Fresh.new _ _ _ _ rfl
      have OL := O5.out.below BL
      have NL := FN.out.below BL
      have hlt := HLT.out
      clear r0 HWL BL
      refine (wpIn_wide (n := 10)).1 ?_
      generalize hA0 : ({ tmps := _, defers := _ } : Act) = A0
      refine range_box rfl (by omega) (gf := 32) (lb := #[.pointer (some ⟨W4.heap.size, 0, none⟩)]) (by rw [← hA0]; rfl) trivial (enters_of Try.func32 (by kernel_rfl) rfl)
        (all_own kTurned 9 (by omega) W4.heap.size [q, e4, N, WL.heap.size + 1] [(7, 3, 0), (8, 2, 0), (9, 1, 0)] 48 WL p q e4 OL.many ((fa.cell 0).trans rfl) (fun k h => by simp at h; omega))
        (fun h k => h.trans k) (fun Wc o _ => Turned.put (by simp) o) (Below.refl _ _) (fun _ => rfl)
        (fun pre Wc => ∃ c l', FE w Wc p q e4 B l' ∧ Fresh Wc N #[.int .i64 c] 3 ∧ EN pre c l')
        (fun c _ Wc => c = .exit 6 ∧ FE w Wc p q e4 B [] ∧ Fresh Wc N #[.int .i64 2] 3)
        (fun pre X Y row ⟨c, l', h1, h2, h3⟩ hg hr => ⟨c, l', h1.kept hg (fun r e => ⟨by have := (hr r e).1; omega, (hr r e).2⟩), h2.kept hg (fun r e => (hr r e).2), h3⟩)
        (fun c pre X Y row ⟨h0, h1, h2⟩ hg hr => ⟨h0, h1.kept hg (fun r e => ⟨by have := (hr r e).1; omega, (hr r e).2⟩), h2.kept hg (fun r e => (hr r e).2)⟩)
        ⟨0, _, OL, NL, .inl ⟨rfl, rfl, rfl⟩⟩
        (fun x a' _ => a' = { tmps := (((A0.tmps.setIfInBounds 98 (.int .u8 (x.1.toNat : Int))).setIfInBounds 99 (refV x.2.1 x.2.2)).setIfInBounds 11 (.int .u8 (x.1.toNat : Int))), defers := [] })
        (fun x a' _ X Y row h1 hg hr => h1)
        ?assignment ?round ?done ?stop
      all_goals subst hA0
      case assignment =>
        rintro l' pre x Wc K' hG hI hK
        have HK := Lib.hid (hK _ Wc ((KeepsOthers.refl _).from _) (Turned.refl _ Wc) hI rfl)
        clear hK hI hG szL fa OL NL hlt
        replace HK := HK.out
        simp only [List.setIfInBounds_toArray, List.set_cons_succ, List.set_cons_zero] at HK
        replace HK := Lib.hid HK
        unfold enV
        gi_wp2
        exact HK.out
      case round =>
        rintro l' pre x a' W5 hG ⟨c, l1, h1, h2, h3⟩ rfl hz
        simp only [List.setIfInBounds_toArray, List.set_cons_succ, List.set_cons_zero]
        have r0 := (h1.box.cell 0).trans rfl
        have HSZ := Lib.hid (And.intro hlt (And.intro hz (show W4.heap.size ≤ WL.heap.size by omega)))
        rcases en_next hG h3 with ⟨rfl, rfl, rfl, rfl⟩ | ⟨rfl, rfl, rfl, rfl⟩
        · have HT := Lib.hid (fe_take h1 h2 7 7 (refV 3 0) 0 [(8, 2, 0), (9, 1, 0)] rfl rfl (by decide) (by decide))
          clear h1 h2 h3 hG szL fa OL NL hlt hz
          gi_wp2_with (refine ⟨trivial, ?_⟩; gi_at_call 14; first
            | (with_reducible refine (callsIn_round HT.out).mono ?_; rintro e w6 ⟨rfl, hT6, h6, n6⟩; have r0 := (h6.box.cell 0).trans rfl; have H6 := Lib.hid hT6; have HT' := Lib.hid (fe_take h6 n6 8 8 (refV 2 0) 0 [(9, 1, 0)] rfl rfl (by decide) (by decide)); clear hT6 h6 n6)
            | (with_reducible refine (callsIn_round HT'.out).mono ?_; rintro e w7 ⟨rfl, hT7, h7, n7⟩; have k0 := n7.cell 0; have k1 := n7.thawed 0; simp only [List.getElem?_toArray, List.getElem?_cons_zero, List.getElem?_cons_succ] at k0; have H7 := Lib.hid (And.intro hT7 (And.intro h7 n7)); clear hT7 h7 n7))
          have hs := HSZ.out
          have T8 : Turned [q, e4, N] W5 (w7.setCell ⟨N, 0, none⟩ (.int .i64 1)) := ((H6.out.trans H7.out.1).wide (by intro k hk; simp at hk; simp; omega)).setCell (.inl (by simp)) 0 _
          have E8 : FE w (w7.setCell ⟨N, 0, none⟩ (.int .i64 1)) p q e4 B [(9, 1, 0)] := H7.out.2.1.set (by omega) (by omega) (by omega) (by omega) (by omega) _
          have N8 : Fresh (w7.setCell ⟨N, 0, none⟩ (.int .i64 1)) N #[.int .i64 1] 3 := by have := H7.out.2.2.set 0 (.int .i64 1); simpa using this
          exact ⟨KeepsFrom.of_turned T8 (by intro k hk; simp at hk; omega), T8.wide (by intro k hk; simp at hk; simp; omega), 1, _, E8, N8, .inr ⟨rfl, rfl, rfl⟩⟩
        · have HT := Lib.hid (fe_take h1 h2 8 8 (refV 0 0) 5 [(9, 1, 0)] rfl rfl (by decide) (by decide))
          clear h1 h2 h3 hG szL fa OL NL hlt hz
          gi_wp2_with (refine ⟨trivial, ?_⟩; gi_at_call 14; first
            | (with_reducible refine (callsIn_round HT.out).mono ?_; rintro e w6 ⟨rfl, hT6, h6, n6⟩; have r0 := (h6.box.cell 0).trans rfl; have H6 := Lib.hid hT6; have HT' := Lib.hid (fe_take h6 n6 9 9 (refV 1 0) 0 [] rfl rfl (by decide) (by decide)); clear hT6 h6 n6)
            | (with_reducible refine (callsIn_round HT'.out).mono ?_; rintro e w7 ⟨rfl, hT7, h7, n7⟩; have k0 := n7.cell 0; have k1 := n7.thawed 0; simp only [List.getElem?_toArray, List.getElem?_cons_zero, List.getElem?_cons_succ] at k0; have H7 := Lib.hid (And.intro hT7 (And.intro h7 n7)); clear hT7 h7 n7))
          have hs := HSZ.out
          have T8 : Turned [q, e4, N] W5 (w7.setCell ⟨N, 0, none⟩ (.int .i64 2)) := ((H6.out.trans H7.out.1).wide (by intro k hk; simp at hk; simp; omega)).setCell (.inl (by simp)) 0 _
          have E8 : FE w (w7.setCell ⟨N, 0, none⟩ (.int .i64 2)) p q e4 B [] := H7.out.2.1.set (by omega) (by omega) (by omega) (by omega) (by omega) _
          have N8 : Fresh (w7.setCell ⟨N, 0, none⟩ (.int .i64 2)) N #[.int .i64 2] 3 := by have := H7.out.2.2.set 0 (.int .i64 2); simpa using this
          exact ⟨KeepsFrom.of_turned T8 (by intro k hk; simp at hk; omega), T8.wide (by intro k hk; simp at hk; simp; omega), rfl, E8, N8⟩
      case done =>
        rintro D xs W5 hD hxs ⟨c, l', _, _, h⟩ hK
        exfalso
        subst hxs
        rcases h with ⟨h, _⟩ | ⟨h, _⟩ <;> simp at h
      case stop =>
        rintro D c pre W5 hD hSp ⟨rfl, h1, h2⟩ hK
        obtain ⟨z, hz⟩ : ∃ z, z = W5.heap.size := ⟨_, rfl⟩
        obtain ⟨V0, hV0⟩ : ∃ V, V = (W5.alloc (.cells #[.pointer none] 49)).alloc (.cells #[.pointer none, .pointer (some ⟨W5.heap.size, 0, none⟩)] 24) := ⟨_, rfl⟩
        have low0 : Below W5.heap.size W5 V0 := by rw [hV0]; exact Below.new (Below.new (Below.refl _ _) _) _
        have HN0 : Hid (NN w V0 p q e4 B N z) := by
          show NN _ _ _ _ _ _ _ _
          refine ⟨h1.below low0, h2.below low0, ?_, ?_⟩
          · rw [hV0, hz]; exact (Fresh.new _ _ _ _ rfl).alloc _
          · rw [hV0, hz]; exact Fresh.new _ _ _ _ (by simp)
        have hDl := (Array.getElem?_eq_some_iff.1 hK).1
        have HDz : Hid (V0.heap[D]? = some (.deferred (some [])) ∧ D < V0.heap.size) := ⟨(low0.block D hDl).trans hK, by have := low0.size; omega⟩
        have HDw : Hid (w.heap.size ≤ D) := by show _ ≤ _; omega
        have HZ := Lib.hid hz
        have HV0 := Lib.hid hV0
        clear hD hK h1 h2 hSp fa OL NL hlt szL low0 hDl hz hV0
        gi_wp2
        go_wp2_with fail
        rw [← HV0.out, ← HZ.out]
        clear HV0 HZ
        refine wp_loop_rounds 3 ?_
        rw [rounds_succ]
        have g0 := HN0.out.fg.cell 0
        simp only [List.getElem?_toArray, List.getElem?_cons_zero, List.getElem?_cons_succ] at g0
        go_upto_region 38 with (go_at_call 14; refine (nil_take (nilf_none _) 1).mono ?_; rintro e v1 ⟨rfl, hb1⟩)
        obtain ⟨u1, hu1⟩ : ∃ u, u = v1.alloc (.cells #[.int .i64 0, .int .u32 0] 35) := ⟨_, rfl⟩
        rw [← hu1]
        have HB1 : Hid (Below V0.heap.size V0 u1) := by show Below _ _ _; rw [hu1]; exact Below.new hb1 _
        have HR1 : Hid (Fresh u1 v1.heap.size #[.int .i64 0, .int .u32 0] 35) := by show Fresh _ _ _ _; rw [hu1]; exact Fresh.new _ _ _ _ rfl
        clear hu1 hb1 g0
        go_upto_region 39 with (go_at_call 15; refine (nil_find (nilf_none _) 1).mono ?_; rintro e v2 ⟨rfl, hb2⟩)
        obtain ⟨u2, hu2⟩ : ∃ u, u = v2.alloc (.cells #[.int .i64 0, .int .u32 0] 35) := ⟨_, rfl⟩
        rw [← hu2]
        have HC2 : Hid (Below u1.heap.size u1 u2) := by show Below _ _ _; rw [hu2]; exact Below.new hb2 _
        have HB2 := Lib.hid (Below.step HB1.out HC2.out)
        have HR2 : Hid (Fresh u2 v2.heap.size #[.int .i64 0, .int .u32 0] 35) := by show Fresh _ _ _ _; rw [hu2]; exact Fresh.new _ _ _ _ rfl
        have HR1' := Lib.hid (HR1.out.below HC2.out)
        clear hu2 hb2 HR1 HB1 HC2
        go_upto_region 40 with (go_at_call 16; refine (nil_next (nilf_none _) 0).mono ?_; rintro e v3 ⟨rfl, hb3⟩)
        obtain ⟨u3, hu3⟩ : ∃ u, u = v3.alloc (.cells #[.int .i64 0, .int .u32 0] 35) := ⟨_, rfl⟩
        rw [← hu3]
        have HC3 : Hid (Below u2.heap.size u2 u3) := by show Below _ _ _; rw [hu3]; exact Below.new hb3 _
        have HB3 := Lib.hid (Below.step HB2.out HC3.out)
        have HR3 : Hid (Fresh u3 v3.heap.size #[.int .i64 0, .int .u32 0] 35) := by show Fresh _ _ _ _; rw [hu3]; exact Fresh.new _ _ _ _ rfl
        have HRS := Lib.hid (And.intro (HR1'.out.below HC3.out) (And.intro (HR2.out.below HC3.out) HR3.out))
        clear hu3 hb3 HR1' HR2 HB2 HR3 HC3
        go_wp2_with (go_at_call 13; refine (nil_all _ _).mono ?_; rintro e WL ⟨rfl, hWL⟩; have HWL := Lib.hid hWL; clear hWL)
        have BL : Below u3.heap.size u3 WL := by rw [HWL.out]; exact Below.new (Below.refl _ _) _
        have fs : Fresh WL u3.heap.size #[.pointer none] 24 := by rw [HWL.out]; exact Fresh.new _ _ _ _ rfl
        have BVL := Below.step HB3.out BL
        have szL : WL.heap.size = u3.heap.size + 1 := by rw [HWL.out]; simp
        refine (wpIn_wide (n := 10)).1 ?_
        refine range_box rfl (by omega) (gf := 32) (lb := #[.pointer (some ⟨u3.heap.size, 0, none⟩)]) rfl trivial (enters_of Try.func32 (by kernel_rfl) rfl)
          (nil_own 9 (by omega) u3.heap.size WL none ((nilf_none _)) (fs.cell 0) (fun _ => #[undef, undef]))
          (fun _ _ => trivial) (fun _ _ _ => trivial) (Below.refl _ _) (fun _ => rfl)
          (fun _ Wc => Below WL.heap.size WL Wc) (fun _ _ _ => False) (ownFrom_below (Nat.le_refl _) (Nat.le_refl _)) (fun _ _ _ _ _ h _ _ => h) (Below.refl _ _)
          (fun _ _ _ => False) (fun _ _ _ _ _ _ h _ _ => h) (fun _ _ _ _ _ hG => hG.elim) (fun _ _ _ _ _ hG => hG.elim) ?_ (fun _ _ _ _ _ h => h.elim)
        rintro D0 xs V5 hD0 _ hB5 hD5
        have HD0 : Hid (WL.heap.size ≤ D0 ∧ D0 < V5.heap.size) := ⟨hD0, (Array.getElem?_eq_some_iff.1 hD5).1⟩
        have HB5 := Lib.hid (Below.step BVL hB5)
        have HF5 := Lib.hid (And.intro (HRS.out.1.below (Below.step BL hB5)) (And.intro (HRS.out.2.1.below (Below.step BL hB5)) (HRS.out.2.2.below (Below.step BL hB5))))
        have HDD0 := Lib.hid hD5
        have HLW0 : Hid (V0.heap.size ≤ WL.heap.size) := BVL.size
        clear BL fs BVL szL hD0 hB5 hD5 HRS HB3 HWL
        obtain ⟨c0, c1⟩ : V5.cell? ⟨v1.heap.size, 0, none⟩ = some (.int .i64 0) ∧ V5.cell? ⟨v1.heap.size, 1, none⟩ = some (.int .u32 0) := ⟨(HF5.out.1.cell 0).trans rfl, (HF5.out.1.cell 1).trans rfl⟩
        go_upto_region 35 with (first
          | (have _t := HB9; go_at_call 20; with_reducible refine (nil_copy (nilf_none _)).mono ?_; rintro e V1 ⟨rfl, hb10⟩; have HB10 := Lib.hid (Below.step HB9.out hb10); have HX10 : Hid (Below V5.heap.size V5 V1) := Lib.hid (Below.step HX9.out hb10); clear hb10)
          | (have _t := HB8; go_at_call 19; with_reducible refine (nil_room (nilf_none _)).mono ?_; rintro e v9 ⟨rfl, hb9⟩; have HB9 := Lib.hid (Below.step HB8.out hb9); have HX9 : Hid (Below V5.heap.size V5 v9) := Lib.hid (Below.step HX8.out hb9); clear hb9)
          | (have _t := HB7; go_at_call 18; with_reducible refine (nil_len (nilf_none _)).mono ?_; rintro e v8 ⟨rfl, hb8⟩; have HB8 := Lib.hid (Below.step HB7.out hb8); have HX8 : Hid (Below V5.heap.size V5 v8) := Lib.hid (Below.step HX7.out hb8); clear hb8)
          | (have _t := HB6; go_at_call 17; with_reducible refine (nil_turn (nilf_none _) 1 0 0).mono ?_; rintro e v7 ⟨rfl, hb7⟩; have HB7 := Lib.hid (Below.step HB6.out hb7); have HX7 : Hid (Below V5.heap.size V5 v7) := Lib.hid (Below.step HX6.out hb7); obtain ⟨c0, c1⟩ : v7.cell? ⟨v1.heap.size, 0, none⟩ = some (.int .i64 0) ∧ v7.cell? ⟨v1.heap.size, 1, none⟩ = some (.int .u32 0) := ⟨((HF5.out.1.below HX7.out).cell 0).trans rfl, ((HF5.out.1.below HX7.out).cell 1).trans rfl⟩; obtain ⟨d0, d1⟩ : v7.cell? ⟨v2.heap.size, 0, none⟩ = some (.int .i64 0) ∧ v7.cell? ⟨v2.heap.size, 1, none⟩ = some (.int .u32 0) := ⟨((HF5.out.2.1.below HX7.out).cell 0).trans rfl, ((HF5.out.2.1.below HX7.out).cell 1).trans rfl⟩; obtain ⟨e0, e1⟩ : v7.cell? ⟨v3.heap.size, 0, none⟩ = some (.int .i64 0) ∧ v7.cell? ⟨v3.heap.size, 1, none⟩ = some (.int .u32 0) := ⟨((HF5.out.2.2.below HX7.out).cell 0).trans rfl, ((HF5.out.2.2.below HX7.out).cell 1).trans rfl⟩; clear hb7)
          | (have _t := HB5; go_at_call 12; with_reducible refine (nil_put (nilf_none _) 1 0 0).mono ?_; rintro e v6 ⟨rfl, hb6⟩; have HB6 := Lib.hid (Below.step HB5.out hb6); have HX6 : Hid (Below V5.heap.size V5 v6) := Lib.hid (Below.step (Below.refl _ _) hb6); obtain ⟨c0, c1⟩ : v6.cell? ⟨v1.heap.size, 0, none⟩ = some (.int .i64 0) ∧ v6.cell? ⟨v1.heap.size, 1, none⟩ = some (.int .u32 0) := ⟨((HF5.out.1.below HX6.out).cell 0).trans rfl, ((HF5.out.1.below HX6.out).cell 1).trans rfl⟩; clear hb6))
        have HN1 := Lib.hid (HN0.out.below HB10.out)
        have HE0 : Hid (V1.heap[D0]? = some (.deferred (some [])) ∧ D0 < V1.heap.size) := ⟨(HX10.out.block D0 HD0.out.2).trans HDD0.out, by have := HX10.out.size; have := HD0.out.2; omega⟩
        have HDa : Hid (V1.heap[D]? = some (.deferred (some [])) ∧ D < V1.heap.size) := ⟨(HB10.out.block D HDz.out.2).trans HDz.out.1, by have := HB10.out.size; have := HDz.out.2; omega⟩
        have HM0 : Hid (V0.heap.size ≤ V1.heap.size) := HB10.out.size
        clear c0 c1 d0 d1 e0 e1 HB5 HB6 HB7 HB8 HB9 HB10 HX6 HX7 HX8 HX9 HX10 HF5
        go_wp2_with fail
        rw [rounds_succ]
        have g1 := HN1.out.fg.cell 1
        simp only [List.getElem?_toArray, List.getElem?_cons_zero, List.getElem?_cons_succ] at g1
        go_upto_region 38 with (go_at_call 14; refine (nil_take HN1.out.nil 1).mono ?_; rintro e v1 ⟨rfl, hb1⟩)
        obtain ⟨u1, hu1⟩ : ∃ u, u = v1.alloc (.cells #[.int .i64 0, .int .u32 0] 35) := ⟨_, rfl⟩
        rw [← hu1]
        have HB1 : Hid (Below V1.heap.size V1 u1) := by show Below _ _ _; rw [hu1]; exact Below.new hb1 _
        have HR1 : Hid (Fresh u1 v1.heap.size #[.int .i64 0, .int .u32 0] 35) := by show Fresh _ _ _ _; rw [hu1]; exact Fresh.new _ _ _ _ rfl
        clear hu1 hb1 g1
        go_upto_region 39 with (go_at_call 15; refine (nil_find (HN1.out.below (HB1.out)).nil 1).mono ?_; rintro e v2 ⟨rfl, hb2⟩)
        obtain ⟨u2, hu2⟩ : ∃ u, u = v2.alloc (.cells #[.int .i64 0, .int .u32 0] 35) := ⟨_, rfl⟩
        rw [← hu2]
        have HC2 : Hid (Below u1.heap.size u1 u2) := by show Below _ _ _; rw [hu2]; exact Below.new hb2 _
        have HB2 := Lib.hid (Below.step HB1.out HC2.out)
        have HR2 : Hid (Fresh u2 v2.heap.size #[.int .i64 0, .int .u32 0] 35) := by show Fresh _ _ _ _; rw [hu2]; exact Fresh.new _ _ _ _ rfl
        have HR1' := Lib.hid (HR1.out.below HC2.out)
        clear hu2 hb2 HR1 HB1 HC2
        go_upto_region 40 with (go_at_call 16; refine (nil_next (HN1.out.below (HB2.out)).nil 0).mono ?_; rintro e v3 ⟨rfl, hb3⟩)
        obtain ⟨u3, hu3⟩ : ∃ u, u = v3.alloc (.cells #[.int .i64 0, .int .u32 0] 35) := ⟨_, rfl⟩
        rw [← hu3]
        have HC3 : Hid (Below u2.heap.size u2 u3) := by show Below _ _ _; rw [hu3]; exact Below.new hb3 _
        have HB3 := Lib.hid (Below.step HB2.out HC3.out)
        have HR3 : Hid (Fresh u3 v3.heap.size #[.int .i64 0, .int .u32 0] 35) := by show Fresh _ _ _ _; rw [hu3]; exact Fresh.new _ _ _ _ rfl
        have HRS := Lib.hid (And.intro (HR1'.out.below HC3.out) (And.intro (HR2.out.below HC3.out) HR3.out))
        clear hu3 hb3 HR1' HR2 HB2 HR3 HC3
        go_wp2_with (go_at_call 13; refine (nil_all _ _).mono ?_; rintro e WL ⟨rfl, hWL⟩; have HWL := Lib.hid hWL; clear hWL)
        have BL : Below u3.heap.size u3 WL := by rw [HWL.out]; exact Below.new (Below.refl _ _) _
        have fs : Fresh WL u3.heap.size #[.pointer (some ⟨z, 0, none⟩)] 24 := by rw [HWL.out]; exact Fresh.new _ _ _ _ rfl
        have BVL := Below.step HB3.out BL
        have szL : WL.heap.size = u3.heap.size + 1 := by rw [HWL.out]; simp
        refine (wpIn_wide (n := 10)).1 ?_
        refine range_box rfl (by omega) (gf := 32) (lb := #[.pointer (some ⟨u3.heap.size, 0, none⟩)]) rfl trivial (enters_of Try.func32 (by kernel_rfl) rfl)
          (nil_own 9 (by omega) u3.heap.size WL (some ⟨z, 0, none⟩) ((HN1.out.below (BVL)).nil) (fs.cell 0) (fun _ => #[undef, undef]))
          (fun _ _ => trivial) (fun _ _ _ => trivial) (Below.refl _ _) (fun _ => rfl)
          (fun _ Wc => Below WL.heap.size WL Wc) (fun _ _ _ => False) (ownFrom_below (Nat.le_refl _) (Nat.le_refl _)) (fun _ _ _ _ _ h _ _ => h) (Below.refl _ _)
          (fun _ _ _ => False) (fun _ _ _ _ _ _ h _ _ => h) (fun _ _ _ _ _ hG => hG.elim) (fun _ _ _ _ _ hG => hG.elim) ?_ (fun _ _ _ _ _ h => h.elim)
        rintro D1 xs V5 hD1 _ hB5 hD5
        have HD1 : Hid (WL.heap.size ≤ D1 ∧ D1 < V5.heap.size) := ⟨hD1, (Array.getElem?_eq_some_iff.1 hD5).1⟩
        have HB5 := Lib.hid (Below.step BVL hB5)
        have HF5 := Lib.hid (And.intro (HRS.out.1.below (Below.step BL hB5)) (And.intro (HRS.out.2.1.below (Below.step BL hB5)) (HRS.out.2.2.below (Below.step BL hB5))))
        have HDD1 := Lib.hid hD5
        have HLW1 : Hid (V1.heap.size ≤ WL.heap.size) := BVL.size
        clear BL fs BVL szL hD1 hB5 hD5 HRS HB3 HWL
        obtain ⟨c0, c1⟩ : V5.cell? ⟨v1.heap.size, 0, none⟩ = some (.int .i64 0) ∧ V5.cell? ⟨v1.heap.size, 1, none⟩ = some (.int .u32 0) := ⟨(HF5.out.1.cell 0).trans rfl, (HF5.out.1.cell 1).trans rfl⟩
        go_upto_region 35 with (first
          | (have _t := HB9; go_at_call 20; with_reducible refine (nil_copy (HN1.out.below (HB9.out)).nil).mono ?_; rintro e V2 ⟨rfl, hb10⟩; have HB10 := Lib.hid (Below.step HB9.out hb10); have HX10 : Hid (Below V5.heap.size V5 V2) := Lib.hid (Below.step HX9.out hb10); clear hb10)
          | (have _t := HB8; go_at_call 19; with_reducible refine (nil_room (HN1.out.below (HB8.out)).nil).mono ?_; rintro e v9 ⟨rfl, hb9⟩; have HB9 := Lib.hid (Below.step HB8.out hb9); have HX9 : Hid (Below V5.heap.size V5 v9) := Lib.hid (Below.step HX8.out hb9); clear hb9)
          | (have _t := HB7; go_at_call 18; with_reducible refine (nil_len (HN1.out.below (HB7.out)).nil).mono ?_; rintro e v8 ⟨rfl, hb8⟩; have HB8 := Lib.hid (Below.step HB7.out hb8); have HX8 : Hid (Below V5.heap.size V5 v8) := Lib.hid (Below.step HX7.out hb8); clear hb8)
          | (have _t := HB6; go_at_call 17; with_reducible refine (nil_turn (HN1.out.below (HB6.out)).nil 1 0 0).mono ?_; rintro e v7 ⟨rfl, hb7⟩; have HB7 := Lib.hid (Below.step HB6.out hb7); have HX7 : Hid (Below V5.heap.size V5 v7) := Lib.hid (Below.step HX6.out hb7); obtain ⟨c0, c1⟩ : v7.cell? ⟨v1.heap.size, 0, none⟩ = some (.int .i64 0) ∧ v7.cell? ⟨v1.heap.size, 1, none⟩ = some (.int .u32 0) := ⟨((HF5.out.1.below HX7.out).cell 0).trans rfl, ((HF5.out.1.below HX7.out).cell 1).trans rfl⟩; obtain ⟨d0, d1⟩ : v7.cell? ⟨v2.heap.size, 0, none⟩ = some (.int .i64 0) ∧ v7.cell? ⟨v2.heap.size, 1, none⟩ = some (.int .u32 0) := ⟨((HF5.out.2.1.below HX7.out).cell 0).trans rfl, ((HF5.out.2.1.below HX7.out).cell 1).trans rfl⟩; obtain ⟨e0, e1⟩ : v7.cell? ⟨v3.heap.size, 0, none⟩ = some (.int .i64 0) ∧ v7.cell? ⟨v3.heap.size, 1, none⟩ = some (.int .u32 0) := ⟨((HF5.out.2.2.below HX7.out).cell 0).trans rfl, ((HF5.out.2.2.below HX7.out).cell 1).trans rfl⟩; clear hb7)
          | (have _t := HB5; go_at_call 12; with_reducible refine (nil_put (HN1.out.below (HB5.out)).nil 1 0 0).mono ?_; rintro e v6 ⟨rfl, hb6⟩; have HB6 := Lib.hid (Below.step HB5.out hb6); have HX6 : Hid (Below V5.heap.size V5 v6) := Lib.hid (Below.step (Below.refl _ _) hb6); obtain ⟨c0, c1⟩ : v6.cell? ⟨v1.heap.size, 0, none⟩ = some (.int .i64 0) ∧ v6.cell? ⟨v1.heap.size, 1, none⟩ = some (.int .u32 0) := ⟨((HF5.out.1.below HX6.out).cell 0).trans rfl, ((HF5.out.1.below HX6.out).cell 1).trans rfl⟩; clear hb6))
        have HN2 := Lib.hid (HN1.out.below HB10.out)
        have HE1 : Hid (V2.heap[D1]? = some (.deferred (some [])) ∧ D1 < V2.heap.size) := ⟨(HX10.out.block D1 HD1.out.2).trans HDD1.out, by have := HX10.out.size; have := HD1.out.2; omega⟩
        have HE0b : Hid (V2.heap[D0]? = some (.deferred (some []))) := (HB10.out.block D0 HE0.out.2).trans HE0.out.1
        have HDb : Hid (V2.heap[D]? = some (.deferred (some []))) := (HB10.out.block D HDa.out.2).trans HDa.out.1
        have HM1 : Hid (V1.heap.size ≤ V2.heap.size) := HB10.out.size
        clear c0 c1 d0 d1 e0 e1 HB5 HB6 HB7 HB8 HB9 HB10 HX6 HX7 HX8 HX9 HX10 HF5
        go_wp2_with fail
        rw [rounds_succ]
        go_upto_region 44 with fail
        have q0 := (HN2.out.n.cell 0).trans rfl
        have q1 := (HN2.out.fe.box.cell 0).trans rfl
        have HL : Hid (Calls Try.prog 18 #[.pointer (some ⟨p, 0, none⟩)] V2 fun e w' => e = .returned (.int .i64 0) ∧ w' = V2) := Lib.hid (len_any HN2.out.fe.many)
        go_wp2_with (first
          | (go_at_call 18; refine HL.out.mono ?_; rintro e w1 ⟨rfl, hw⟩; replace hw := hw.symm; subst hw)
          | (go_at_call 7; refine (awake_any _).mono ?_; rintro e V3 ⟨rfl, hb3⟩; have HB3 := Lib.hid hb3; have z0 := (HN2.out.fe.z.below hb3).cell 0; have z1 := (HN2.out.fe.z.below hb3).thawed 0; simp only [List.getElem?_toArray, List.getElem?_cons_zero] at z0; clear hb3))
        obtain ⟨V4, hV4⟩ : ∃ V, V = V3.setCell ⟨w.heap.size, 0, none⟩ (.bool true) := ⟨_, rfl⟩
        rw [← hV4]
        have k3 : KeepsOthers V3 V4 := by rw [hV4]; exact KeepsOthers.setCell _ _ _
        have f3 : Fresh V4 w.heap.size #[.bool true] 4 := by rw [hV4]; have := (HN2.out.fe.z.below HB3.out).set 0 (.bool true); simpa using this
        have b3 : Below w.heap.size w V4 := by rw [hV4]; exact (HN2.out.fe.low.trans (HB3.out.mono HN2.out.fe.low.size)).setCell (Nat.le_refl _) _
        clear hV4
        have m1 := HE1.out.2
        have s1 := HM1.out
        have e1 : V4.heap[D1]? = some (.deferred (some [])) := k3.same _ _ ((HB3.out.block D1 HE1.out.2).trans HE1.out.1) rfl
        have e0 : V4.heap[D0]? = some (.deferred (some [])) := k3.same _ _ ((HB3.out.block D0 (by have := HE0.out.2; omega)).trans HE0b.out) rfl
        have e2 : V4.heap[D]? = some (.deferred (some [])) := k3.same _ _ ((HB3.out.block D (by have := HDa.out.2; omega)).trans HDb.out) rfl
        have y1 := HD1.out.1
        have y2 := HLW1.out
        have y3 := HE0.out.2
        have y4 := HD0.out.1
        have y5 := HLW0.out
        have y6 := HDz.out.2
        have y7 := HDw.out
        have hg1 := grownBy_putObj' V4 D1 (.deferred none)
        have e0' : (V4.putObj D1 (.deferred none)).heap[D0]? = some (.deferred (some [])) := (World.putObj_heap_other (by omega)).trans e0
        have e2' : (V4.putObj D1 (.deferred none)).heap[D]? = some (.deferred (some [])) := (World.putObj_heap_other (by omega)).trans e2
        have hg2 := grownBy_putObj' (V4.putObj D1 (.deferred none)) D0 (.deferred none)
        have e2'' : ((V4.putObj D1 (.deferred none)).putObj D0 (.deferred none)).heap[D]? = some (.deferred (some [])) := (World.putObj_heap_other (by omega)).trans e2'
        have hg3 := grownBy_putObj' ((V4.putObj D1 (.deferred none)).putObj D0 (.deferred none)) D (.deferred none)
        have f4 := ((f3.kept hg1 (fun r e => by cases e; exact ⟨_, e1, rfl⟩)).kept hg2 (fun r e => by cases e; exact ⟨_, e0', rfl⟩)).kept hg3 (fun r e => by cases e; exact ⟨_, e2'', rfl⟩)
        have u0 := f4.cell 0
        simp only [List.getElem?_toArray, List.getElem?_cons_zero] at u0
        have b4 := ((b3.grown hg1 (by have := b3.size; exact this) (fun r e => by cases e; omega)).grown hg2 (by have := b3.size; simp; exact this) (fun r e => by cases e; omega)).grown hg3 (by have := b3.size; simp; exact this) (fun r e => by cases e; omega)
        exact calm_ret3 (v := .bool true) rfl e1 e0 e2 (by omega) (by omega) (by omega) (by simp [results, Try.f4, go_sem, u0]) ⟨rfl, b4⟩
end Go.Proofs.Ytiifogbdoajnoaa
