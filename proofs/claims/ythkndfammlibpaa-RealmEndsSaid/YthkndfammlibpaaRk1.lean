/- The walk of the iterator over a code's bytes. -/
import Derived.Test.YthkndfammlibpaaRkey
namespace Go.Proofs.Ythkndfammlibpaa
open Go.RowKit Go.Shelf
attribute [local go_sem] Oper.semAt_some exi_round
set_option maxRecDepth 100000
set_option maxHeartbeats 2000000

/-- Behind the bytes xs of a text the rest is l. -/
inductive Got (l0 : List UInt8) : List UInt8 → List UInt8 → Prop
  | start : Got l0 [] l0
  | more {xs l t : List UInt8} {c : UInt8} : Got l0 xs l → met l = .byte c t → Got l0 (xs ++ [c]) t
theorem Got.le {l0 xs l : List UInt8} (h : Got l0 xs l) : l.length ≤ l0.length := by
  induction h with
  | start => exact Nat.le_refl _
  | more _ hm ih => rcases met_byte hm with ⟨_, rfl⟩ | ⟨_, rfl⟩ <;> simp at ih <;> omega

def restLen (r : Nat) (w : World) : Nat := match w.heap[r]? with
  | some (.cells cs _ _) => (match cs[0]? with | some (Value.string s) => s.size | _ => 0)
  | _ => 0
theorem Fresh.restLen {w : World} {r : Nat} {l : List UInt8} (h : Rest w r (bz l)) : restLen r w = l.length := by
  unfold Go.Proofs.Ythkndfammlibpaa.restLen
  rw [show w.heap[r]? = _ from h]
  exact bz_size l

/-- The blocks of the reader and of its box are as they were. -/
def KeepR (r Bk : Nat) (W W' : World) : Prop := W'.heap[r]? = W.heap[r]? ∧ W'.heap[Bk]? = W.heap[Bk]?

theorem key1_in (n : Nat) (hn : 4 ≤ n) (l r Bk : Nat) (hrb : Bk ≠ r) (l0 : List UInt8) (hl0 : l0.length ≤ 1000000) (J Jx : List UInt8 → World → Prop) (Jp : List PanicEntry → List UInt8 → World → Prop)
    (hO : ∀ pre X Y, J pre X → Turned [r] X Y → J pre Y)
    (hY : ∀ pre x W1, (∃ l, Got l0 (pre ++ [x]) l) → J pre W1 → YieldAt (Exi Try.prog) (n - 1) Try.prog l #[.int .u8 (x.toNat : Int)] W1 fun e W' =>
      KeepR r Bk W1 W' ∧ ((e = .returned (.bool true) ∧ J (pre ++ [x]) W') ∨ (e = .returned (.bool false) ∧ Jx (pre ++ [x]) W') ∨ (∃ c, e = .panicked c ∧ Jp c (pre ++ [x]) W')))
    (W : World) (h0 : J [] W) (hR : Rest W r (bz l0)) (hB : Fresh W Bk #[.pointer (some ⟨r, 0, none⟩)] 73) :
    CallsIn (Exi Try.prog) n Try.prog 47 #[.func (.yield l) #[] #[], .pointer (some ⟨Bk, 0, none⟩)] W fun e W' =>
      ((∃ v, e = .returned v) ∧ ((∃ xs, (∃ l t, Got l0 xs l ∧ met l = .fin t ∧ Rest W' r (bz t)) ∧ J xs W') ∨ (∃ pre, (∃ l, Got l0 pre l) ∧ Jx pre W'))) ∨
      (∃ c, e = .panicked c ∧ ((∃ pre, (c = brk ∧ ∃ l, Got l0 pre l ∧ met l = .broken) ∧ J pre W') ∨ (∃ pre, Jp c pre W'))) := by
  have d1 : 1 ≤ n := by omega
  refine callsIn_of_wp Try.func47 rfl (exi_of rfl) ?_ rfl
  simp only [Try.ntmps47, List.size_toArray, List.length_cons, List.length_nil, Nat.reduceAdd, Nat.reduceSub, Array.replicate_succ, Array.replicate_zero, List.push_toArray, List.append_toArray, List.nil_append, List.cons_append]
  gi_wp2
  gi_loopw [3] (fun _ wr => ∃ xs l, Got l0 xs l ∧ J xs wr ∧ Rest wr r (bz l) ∧ Fresh wr Bk #[.pointer (some ⟨r, 0, none⟩)] 73) (fun _ wr => restLen r wr)
  case atStart => exact ⟨[], l0, .start, h0, hR, hB⟩
  case round =>
    obtain ⟨xs, la, hG, hJ, hRa, hBa⟩ := hrel
    have c1 : wr.cell? ⟨Bk, 0, none⟩ = some (.pointer (some ⟨r, 0, none⟩)) := (hBa.cell 0).trans rfl
    have hle := hG.le
    cases hm : met la with
    | fin t =>
      have H1 := Lib.hid (skip_fin (n - 1) (by omega) r la wr hRa t hm)
      have HJ := Lib.hid hJ
      have HB := Lib.hid hBa
      clear hJ hBa hY h0 hR hB hRa
      gi_wp2_with (refine ⟨exi_of rfl, ?_⟩; gi_at_call 48; with_reducible refine H1.out.mono ?_; rintro e w2 ⟨rfl, hr2, ht2⟩; have HR2 := Lib.hid hr2; have HT2 := Lib.hid ht2; clear hr2 ht2)
      go_end0
      exact .inl ⟨⟨_, rfl⟩, .inl ⟨xs, ⟨la, t, hG, hm, HR2.out⟩, hO _ _ _ HJ.out HT2.out⟩⟩
    | broken =>
      obtain ⟨b1, b2, b3⟩ := met_broken hm
      have H1 := Lib.hid (skip_end_no (n - 1) (by omega) r la wr hRa b1)
      have H2 := Lib.hid fun W h => skip_esc_no (n - 1) (by omega) r la W h b2
      have H3 := Lib.hid fun W h => (literal_in (n - 1) (by omega) r la (by omega) W h).mono (R' := fun e w' => Brk r W e w') (by
        rintro e w' (⟨_, k⟩ | ⟨c, t, k, k2, _⟩)
        · exact k
        · exact (k2 (b3 c t k)).elim)
      have HJ := Lib.hid hJ
      have HB := Lib.hid hBa
      clear hJ hBa hY h0 hR hB hRa
      gi_wp2_with (refine ⟨exi_of rfl, ?_⟩; first
        | (gi_at_call 48; with_reducible refine H1.out.mono ?_; rintro e w2 ⟨rfl, hr2, ht2⟩; have c2 : w2.cell? ⟨Bk, 0, none⟩ = some (.pointer (some ⟨r, 0, none⟩)) := ((ht2.other HB.out (by simpa using hrb)).cell 0).trans rfl; have HR2 := Lib.hid hr2; have HT2 := Lib.hid ht2; clear hr2 ht2)
        | (gi_at_call 48; with_reducible refine (H2.out _ HR2.out).mono ?_; rintro e w3 ⟨rfl, hr3, ht3⟩; have c3 : w3.cell? ⟨Bk, 0, none⟩ = some (.pointer (some ⟨r, 0, none⟩)) := (((HT2.out.trans ht3).other HB.out (by simpa using hrb)).cell 0).trans rfl; have HR3 := Lib.hid hr3; have HT3 := Lib.hid ht3; clear hr3 ht3)
        | fail)
      refine ⟨exi_of rfl, ?_⟩
      gi_at_call 49
      with_reducible refine (H3.out _ HR3.out).mono ?_
      rintro e w4 ⟨rfl, ht4⟩
      exact ⟨rfl, Or.inr ⟨brk, rfl, .inl ⟨xs, ⟨rfl, la, hG, hm⟩, hO _ _ _ HJ.out ((HT2.out.trans HT3.out).trans ht4)⟩⟩⟩
    | byte c t =>
      rcases met_byte hm with ⟨rfl, rfl⟩ | ⟨hc, rfl⟩
      · have H1 := Lib.hid (skip_end_no (n - 1) (by omega) r (0 :: 1 :: t) wr hRa (by simp [List.cons_prefix_cons]))
        have H2 := Lib.hid fun W h => skip_esc (n - 1) (by omega) r t W h
        have hRm := Lib.hid hRa
        have HJ := Lib.hid hJ
        have HB := Lib.hid hBa
        have HY := Lib.hid hY
        clear hJ hBa hY h0 hR hB hRa
        gi_wp2_with (refine ⟨exi_of rfl, ?_⟩; first
          | (gi_at_call 48; with_reducible refine H1.out.mono ?_; rintro e w2 ⟨rfl, hr2, ht2⟩; have c2 : w2.cell? ⟨Bk, 0, none⟩ = some (.pointer (some ⟨r, 0, none⟩)) := ((ht2.other HB.out (by simpa using hrb)).cell 0).trans rfl; have HR2 := Lib.hid hr2; have HT2 := Lib.hid ht2; clear hr2 ht2)
          | (gi_at_call 48; with_reducible refine (H2.out _ HR2.out).mono ?_; rintro e w3 ⟨rfl, hr3, ht3⟩; have c3 : w3.cell? ⟨Bk, 0, none⟩ = some (.pointer (some ⟨r, 0, none⟩)) := (((HT2.out.trans ht3).other HB.out (by simpa using hrb)).cell 0).trans rfl; have HR3 := Lib.hid hr3; have HT3 := Lib.hid ht3; clear hr3 ht3;
             have hG3 := Lib.hid (Got.more hG hm); obtain ⟨fn, tmps, assign, body, hy, hRo⟩ := HY.out xs 0 w3 ⟨_, hG3.out⟩ (hO _ _ _ HJ.out (HT2.out.trans HT3.out)); replace hy : (Instr.yield l #[.int .u8 0]).run Try.prog w3 = .ok (.round l fn tmps assign body) w3 := hy; have HRo := Lib.hid hRo; clear hRo))
        refine HRo.out.mono ?_
        rintro e W4 ⟨hk4, (⟨rfl, hJ4⟩ | ⟨rfl, hJ4⟩ | ⟨c, rfl, hJ4⟩)⟩
        · gi_wp2
          go_roundw
          case rel => exact ⟨_, _, hG3.out, hJ4, hk4.1.trans HR3.out, hk4.2.trans ((HT2.out.trans HT3.out).other HB.out (by simpa using hrb))⟩
          case measure => rw [Fresh.restLen (l := t) (hk4.1.trans HR3.out), Fresh.restLen hRm.out]; simp <;> omega
        · gi_wp2
          refine bodyPost_ret (results_none rfl _ _ _) rfl ?_
          exact .inl ⟨⟨_, rfl⟩, .inr ⟨_, ⟨_, hG3.out⟩, hJ4⟩⟩
        · exact ⟨rfl, Or.inr ⟨c, rfl, .inr ⟨_, hJ4⟩⟩⟩
      · have hp0 : ¬ [0, 0] <+: c :: t := by simp [List.cons_prefix_cons]; intro e; exact (hc e.symm).elim
        have hp1 : ¬ [0, 1] <+: c :: t := by simp [List.cons_prefix_cons]; intro e; exact (hc e.symm).elim
        have H1 := Lib.hid (skip_end_no (n - 1) (by omega) r (c :: t) wr hRa hp0)
        have H2 := Lib.hid fun W h => skip_esc_no (n - 1) (by omega) r (c :: t) W h hp1
        have H3 := Lib.hid fun W h => (literal_in (n - 1) (by omega) r (c :: t) (by omega) W h).mono (R' := fun e w' => e = .returned (.int .u8 (c.toNat : Int)) ∧ Rest w' r (bz t) ∧ Turned [r] W w') (by
          rintro e w' (⟨k, _⟩ | ⟨c, t, k, k2, hq⟩)
          · exact (hc (k c t rfl)).elim
          · cases k; exact hq)
        have hRm := Lib.hid hRa
        have HJ := Lib.hid hJ
        have HB := Lib.hid hBa
        have HY := Lib.hid hY
        clear hJ hBa hY h0 hR hB hRa
        gi_wp2_with (refine ⟨exi_of rfl, ?_⟩; first
          | (gi_at_call 48; with_reducible refine H1.out.mono ?_; rintro e w2 ⟨rfl, hr2, ht2⟩; have c2 : w2.cell? ⟨Bk, 0, none⟩ = some (.pointer (some ⟨r, 0, none⟩)) := ((ht2.other HB.out (by simpa using hrb)).cell 0).trans rfl; have HR2 := Lib.hid hr2; have HT2 := Lib.hid ht2; clear hr2 ht2)
          | (gi_at_call 48; with_reducible refine (H2.out _ HR2.out).mono ?_; rintro e w3 ⟨rfl, hr3, ht3⟩; have c3 : w3.cell? ⟨Bk, 0, none⟩ = some (.pointer (some ⟨r, 0, none⟩)) := (((HT2.out.trans ht3).other HB.out (by simpa using hrb)).cell 0).trans rfl; have HR3 := Lib.hid hr3; have HT3 := Lib.hid ht3; clear hr3 ht3)
          | (gi_at_call 49; with_reducible refine (H3.out _ HR3.out).mono ?_; rintro e w4 ⟨rfl, hr4, ht4⟩; have HR4 := Lib.hid hr4; have HT4 := Lib.hid ((HT2.out.trans HT3.out).trans ht4); clear hr4 ht4;
             have hG3 := Lib.hid (Got.more hG hm); obtain ⟨fn, tmps, assign, body, hy, hRo⟩ := HY.out xs c w4 ⟨_, hG3.out⟩ (hO _ _ _ HJ.out HT4.out); have HRo := Lib.hid hRo; clear hRo))
        refine HRo.out.mono ?_
        rintro e W5 ⟨hk4, (⟨rfl, hJ4⟩ | ⟨rfl, hJ4⟩ | ⟨c, rfl, hJ4⟩)⟩
        · gi_wp2
          go_roundw
          case rel => exact ⟨_, _, hG3.out, hJ4, hk4.1.trans HR4.out, hk4.2.trans (HT4.out.other HB.out (by simpa using hrb))⟩
          case measure => rw [Fresh.restLen (l := t) (hk4.1.trans HR4.out), Fresh.restLen hRm.out]; simp <;> omega
        · gi_wp2
          refine bodyPost_ret (results_none rfl _ _ _) rfl ?_
          exact .inl ⟨⟨_, rfl⟩, .inr ⟨_, ⟨_, hG3.out⟩, hJ4⟩⟩
        · exact ⟨rfl, Or.inr ⟨c, rfl, .inr ⟨_, hJ4⟩⟩⟩

theorem key_any (n : Nat) (r : Nat) (w : World) :
    CallsIn (Exi Try.prog) n Try.prog 46 #[.pointer (some ⟨r, 0, none⟩)] w fun e w' => e = .returned (.func (.func 47) #[] #[.pointer (some ⟨w.heap.size, 0, none⟩)]) ∧
      w' = w.alloc (.cells #[.pointer (some ⟨r, 0, none⟩)] 73) := by
  refine callsIn_of_wp Try.func46 rfl (exi_of rfl) ?_ rfl
  simp only [Try.ntmps46, List.size_toArray, List.length_cons, List.length_nil, Nat.reduceAdd, Nat.reduceSub, Array.replicate_succ, Array.replicate_zero, List.push_toArray, List.append_toArray, List.nil_append, List.cons_append]
  have hmf := @makeFunc_run Try.prog
  gi_wp2
  refine bodyPost_ret (v := .func (.func 47) #[] #[.pointer (some ⟨w.heap.size, 0, none⟩)]) (by simp [results, Try.results46, go_sem]) rfl ?_
  exact ⟨rfl, rfl⟩

/-- What the value of key() gives to a range over it. -/
theorem key_pan (n : Nat) (hn : 4 ≤ n) (r Bk : Nat) (hrb : Bk ≠ r) (l0 : List UInt8) (hl0 : l0.length ≤ 1000000) (w : World) (hR : Rest w r (bz l0)) (hB : Fresh w Bk #[.pointer (some ⟨r, 0, none⟩)] 73) :
    SeqPan (Exi Try.prog) n Try.prog 47 #[.pointer (some ⟨Bk, 0, none⟩)] (fun x : UInt8 => #[Value.int .u8 (x.toNat : Int)]) (KeepR r Bk) (Turned [r])
      (fun xs W' => ∃ l t, Got l0 xs l ∧ met l = .fin t ∧ Rest W' r (bz t)) (fun pre => ∃ l, Got l0 pre l) (fun pre => ∃ l, Got l0 pre l) (fun c pre => c = brk ∧ ∃ l, Got l0 pre l ∧ met l = .broken) w := fun l J Jx Jp W hb _ _ _ _ hO hY h0 =>
  key1_in n hn l r Bk hrb l0 hl0 J Jx Jp hO hY W h0 ((hb.block r hR.lt).trans hR) ((hb.block Bk hB.lt).trans hB)
end Go.Proofs.Ythkndfammlibpaa
