/- The iterator over the bytes that are there, from a number on. -/
import Derived.Test.YtjaijomkdgoenaaDoorMnCopied
import Derived.Test.YtjaijomkdgoenaaDoorSeqOwn
import Derived.OwnWalkIn
import Derived.TacticsInMore
import Derived.LoopNIn
import Derived.LoopIn
import Derived.TacticsIn
namespace Go.Proofs.YtjaijomkdgoenaaDoor.Mn
open Go.RowKit
attribute [local go_sem] Oper.semAt_some
set_option maxRecDepth 100000
set_option maxHeartbeats 2000000

/-- What is yielded for a byte. -/
def byV (b : UInt8) : Array Value := #[.int .u8 (b.toNat : Int)]
structure FromOf (L : List UInt8) (f : Int) (es : List En) : Prop where
  srt : L.Pairwise fun a b => a.toNat < b.toNat
  mem : ∀ b : UInt8, b ∈ L ↔ (f ≤ (b.toNat : Int) ∧ ∃ x ∈ es, x.1 = b)
/-- What the iterator needs of memory. -/
structure ByAt (W : World) (bf bi q e : Nat) (f : Int) (es : List En) (room : Nat) (cs : Array Value) (v : Value) : Prop where
  row : RowM W q e es room cs v
  frm : Fresh W bf #[.int .i64 f] 3
  is : Fresh W bi #[.func (.func 106) #[.pointer (some ⟨q, 0, none⟩)] #[]] 67
theorem ByAt.turned {S : List Nat} {W W' : World} {bf bi q e : Nat} {f : Int} {es : List En} {room : Nat} {cs : Array Value} {v : Value} (h : ByAt W bf bi q e f es room cs v) (ht : Turned S W W') (hn : bf ∉ S ∧ bi ∉ S ∧ q ∉ S ∧ e ∉ S) : ByAt W' bf bi q e f es room cs v :=
  ⟨h.row.turned ht hn.2.2.1 hn.2.2.2, ht.other h.frm hn.1, ht.other h.is hn.2.1⟩
theorem ByAt.below {W W' : World} {bf bi q e : Nat} {f : Int} {es : List En} {room : Nat} {cs : Array Value} {v : Value} (h : ByAt W bf bi q e f es room cs v) (hb : Below W.heap.size W W') : ByAt W' bf bi q e f es room cs v :=
  ⟨h.row.below hb, h.frm.below hb, h.is.below hb⟩
theorem bytes1_in (n : Nat) (hn : 2 ≤ n) (l0 bf bi q e : Nat) (f : Int) (es : List En) (room : Nat) (cs : Array Value) (v : Value) (L : List UInt8) (hL : FromOf L f es) (KS : World → World → Prop) (J Jx : List UInt8 → World → Prop)
    (hY : ∀ (k : Nat) (h : k < L.length) (W : World), J (L.take k) W → YieldAt Fence.wide (n - 1) Tryd.prog l0 (byV L[k]) W fun e W' =>
      (e = .returned (.bool true) ∧ J (L.take k ++ [L[k]]) W' ∧ KS W W') ∨ (e = .returned (.bool false) ∧ Jx (L.take k ++ [L[k]]) W'))
    (hAB : ∀ s X Y, Below X.heap.size X Y → J s X → J s Y)
    (W : World) (hR : ByAt W bf bi q e f es room cs v) (hS : ∀ A B, KS A B → ByAt A bf bi q e f es room cs v → ByAt B bf bi q e f es room cs v) (h0 : J [] W) :
    CallsIn Fence.wide n Tryd.prog 111 #[.func (.yield l0) #[] #[], .pointer (some ⟨bf, 0, none⟩), .pointer (some ⟨bi, 0, none⟩)] W fun e W' => (∃ v, e = .returned v) ∧
      (J L W' ∨ (∃ k, k < L.length ∧ Jx (L.take (k + 1)) W')) := by
  have c0 := (hR.frm.cell 0).trans rfl
  simp only [List.getElem?_toArray, List.getElem?_cons_zero] at c0
  have HR := Lib.hid hR
  have HY := Lib.hid hY
  have HAB := Lib.hid hAB
  have H0 := Lib.hid h0
  have HS := Lib.hid hS
  have HLL := Lib.hid hL
  clear hR hY hAB h0 hS hL
  refine callsIn_of_wp Tryd.func111 rfl trivial ?_ rfl
  simp only [Tryd.ntmps111, List.size_toArray, List.length_cons, List.length_nil, Nat.reduceAdd, Nat.reduceSub, Array.replicate_succ, Array.replicate_zero, List.push_toArray, List.append_toArray, List.nil_append, List.cons_append]
  gi_wp2
  all_goals
    clear c0
    gi_loopw [4] (fun iv wr => ∃ (m : Int) (k : Nat), iv = .int .i64 m ∧ 0 ≤ m ∧ f ≤ m ∧ k ≤ L.length ∧ (∀ j (hj : j < L.length), j < k → ((L[j]'hj).toNat : Int) < m) ∧ (∀ j (hj : j < L.length), k ≤ j → m ≤ ((L[j]'hj).toNat : Int)) ∧ J (L.take k) wr ∧ ByAt wr bf bi q e f es room cs v) (fun iv _ => (256 - intOf iv).toNat)
    case atStart =>
      refine ⟨_, 0, rfl, ?_, ?_, by omega, fun j _ h => by omega, fun j hj _ => ?_, H0.out, HR.out⟩
      · omega
      · omega
      · have := ((HLL.out.mem _).1 (List.getElem_mem hj)).1
        omega
    case round =>
      obtain ⟨m, k, rfl, hm0, hmf, hk, hlo, hhi, hJ, hT⟩ := hrel
      by_cases hlt : m < 256
      · obtain ⟨c, rfl⟩ : ∃ c : UInt8, m = (c.toNat : Int) := ⟨UInt8.ofNat m.toNat, by
          have : m.toNat < 256 := by omega
          simp [Nat.mod_eq_of_lt this]; omega⟩
        have hRk := hT
        have c1 := (hRk.is.cell 0).trans rfl
        simp only [List.getElem?_toArray, List.getElem?_cons_zero] at c1
        have hcw : IntKind.u8.wrap (c.toNat : Int) = (c.toNat : Int) := by
          have := c.toNat_lt
          simp [IntKind.wrap, IntKind.bits, IntKind.signed]; omega
        obtain ⟨z, hz⟩ : ∃ z, c.toNat = z := ⟨_, rfl⟩
        have HZ := Lib.hid hz
        obtain ⟨p, hp1, hp2⟩ := hRk.row.tab c
        have HC := has_any hRk.row c hp2
        rw [hz] at HC hm0 hmf hlt hlo hhi hcw ⊢
        have HT := Lib.hid hT
        rcases hp2 with ⟨rfl, hno⟩ | ⟨i, s, g, rfl, hi⟩
        · replace HC := Lib.hid HC
          have HX : Hid (k ≤ L.length ∧ (∀ j (hj : j < L.length), j < k → ((L[j]'hj).toNat : Int) < (z : Int) + 1) ∧ (∀ j (hj : j < L.length), k ≤ j → (z : Int) + 1 ≤ ((L[j]'hj).toNat : Int)) ∧ J (L.take k) wr) := by
            refine ⟨hk, fun j hj h => by have := hlo j hj h; omega, fun j hj h => ?_, hJ⟩
            have h1 := hhi j hj h
            have h2 : (L[j]'hj).toNat ≠ z := by
              intro e'
              obtain ⟨_, x, hx, hxe⟩ := (HLL.out.mem _).1 (List.getElem_mem hj)
              have : L[j]'hj = c := UInt8.toNat_inj.1 (by rw [e']; exact hz.symm)
              exact hno x hx (hxe.trans this)
            omega
          clear hRk hz hp1 hlo hhi hJ hT hno hk
          gi_wp2_with (refine ⟨trivial, fun _ => by omega, ?_⟩; gi_at_call 106; refine (callsIn_wide.2 HC.out).mono ?_; rintro e w2 ⟨rfl, hw2⟩; replace hw2 := hw2.symm; subst hw2)
          refine ⟨fun _ h => (by cases h), ?_⟩
          gi_wp2
          go_roundw
          case rel => exact ⟨(z : Int) + 1, k, by first | rfl | go_num, by omega, by omega, HX.out.1, HX.out.2.1, HX.out.2.2.1, HX.out.2.2.2, HT.out⟩
          case measure => simp [intOf] <;> omega
        · have hkl : k < L.length ∧ ∀ h : k < L.length, L[k] = c := by
            have hcm : c ∈ L := (HLL.out.mem c).2 ⟨by rw [HZ.out]; exact hmf, _, List.mem_of_getElem? hi, rfl⟩
            obtain ⟨j, hj, hje⟩ := List.getElem_of_mem hcm
            have hjz : (L[j]'hj).toNat = z := by rw [hje]; exact HZ.out
            have hkj : k ≤ j := by
              rcases Nat.lt_or_ge j k with h | h
              · have := hlo j hj h; omega
              · exact h
            have ejk : k = j := by
              rcases Nat.lt_or_eq_of_le hkj with h | h
              · have h1 := List.pairwise_iff_getElem.1 HLL.out.srt k j (by omega) hj h
                have h2 := hhi k (by omega) (Nat.le_refl _)
                omega
              · exact h
            subst ejk
            exact ⟨hj, fun _ => hje⟩
          obtain ⟨hkl, hkc⟩ := hkl
          have hkc := hkc hkl
          have HX : Hid (k + 1 ≤ L.length ∧ (∀ j (hj : j < L.length), j < k + 1 → ((L[j]'hj).toNat : Int) < (z : Int) + 1) ∧ (∀ j (hj : j < L.length), k + 1 ≤ j → (z : Int) + 1 ≤ ((L[j]'hj).toNat : Int))) := by
            have hkz : (L[k]'hkl).toNat = z := by rw [hkc]; exact HZ.out
            refine ⟨hkl, fun j hj h => ?_, fun j hj h => ?_⟩
            · rcases Nat.lt_or_eq_of_le (Nat.le_of_lt_succ h) with h' | h'
              · have := hlo j hj h'; omega
              · subst h'; omega
            · have := List.pairwise_iff_getElem.1 HLL.out.srt k j hkl hj (by omega); omega
          obtain ⟨fn, tmps, asg, body, hy, hRd⟩ := HY.out k hkl wr hJ
          rw [hkc] at hy hRd
          have hx2 : L.take k ++ [c] = L.take (k + 1) := by rw [← hkc]; exact (List.take_succ_eq_append_getElem hkl).symm
          rw [hx2] at hRd
          unfold byV at hy
          rw [hz] at hy
          have HRd := Lib.hid hRd
          have HK := Lib.hid hkl
          rw [show (i + 1 != 0) = true from by simp] at HC
          replace HC := Lib.hid HC
          clear hRk hz hp1 hlo hhi hJ hT hk hRd hkc hx2 hkl hi
          gi_wp2_with (refine ⟨trivial, fun _ => by omega, ?_⟩; gi_at_call 106; refine (callsIn_wide.2 HC.out).mono ?_; rintro e w2 ⟨rfl, hw2⟩; replace hw2 := hw2.symm; subst hw2)
          refine ⟨fun _ => by omega, ?_⟩
          refine HRd.out.mono ?_
          rintro e W3 (⟨rfl, hJ3, hT3⟩ | ⟨rfl, hJx⟩)
          · have H3 := Lib.hid (And.intro hJ3 (HS.out _ _ hT3 HT.out))
            clear hJ3 hT3
            gi_wp2
            go_roundw
            case rel => exact ⟨(z : Int) + 1, k + 1, by first | rfl | go_num, by omega, by omega, HX.out.1, HX.out.2.1, HX.out.2.2, H3.out⟩
            case measure => simp [intOf] <;> omega
          · have H3 := Lib.hid hJx
            clear hJx
            gi_wp2
            refine bodyPost_ret (results_none rfl _ _ _) rfl ?_
            exact ⟨⟨_, rfl⟩, .inr ⟨k, HK.out, H3.out⟩⟩
      · have H3 : Hid (J L wr) := by
          have hkL : L.length ≤ k := by
            rcases Nat.lt_or_ge k L.length with h | h
            · have := hhi k h (Nat.le_refl _); have := (L[k]).toNat_lt; omega
            · exact h
          have := hJ
          rw [List.take_of_length_le hkL] at this
          exact this
        clear hJ hT hlo hhi
        gi_wp2
        go_end0
        exact ⟨⟨_, rfl⟩, .inl H3.out⟩
/-- What may be yielded next. -/
def NextB (L : List UInt8) (pre : List UInt8) : Prop := ∃ k, ∃ h : k < L.length, pre = L.take k ++ [L[k]'h]
theorem bytes_own (n : Nat) (hn : 2 ≤ n) (bf bi q e : Nat) (f : Int) (es : List En) (room : Nat) (cs : Array Value) (v : Value) (L : List UInt8) (hL : FromOf L f es) (KS : World → World → Prop) (w : World) (hR : ByAt w bf bi q e f es room cs v)
    (hS : ∀ A B, KS A B → ByAt A bf bi q e f es room cs v → ByAt B bf bi q e f es room cs v) :
    SeqOwn Fence.wide n Tryd.prog 111 #[.pointer (some ⟨bf, 0, none⟩), .pointer (some ⟨bi, 0, none⟩)] byV KS (fun xs => xs = L) (fun pre => ∃ k, k < L.length ∧ pre = L.take (k + 1)) (NextB L) w := fun l0 J Jx W hW _ hJ hJx hY h0 => by
  have := bytes1_in n hn l0 bf bi q e f es room cs v L hL KS J Jx
    (fun k hk W hj => by
      obtain ⟨fn, tmps, asg, body, e, hRd⟩ := hY (L.take k) L[k] W ⟨k, hk, rfl⟩ hj
      refine ⟨fn, tmps, asg, body, e, hRd.mono ?_⟩
      rintro e W' ⟨hB, ⟨rfl, hJ2⟩ | ⟨rfl, hJ2⟩⟩
      · exact .inl ⟨rfl, hJ2, hB⟩
      · exact .inr ⟨rfl, hJ2⟩)
    (fun s X Y hB hj => hJ s X Y none hj ⟨hB.os, hB.tape, hB.output, hB.size, fun k hk _ => hB.block k hk⟩ (fun r e => by cases e))
    W (hR.below hW) hS h0
  refine this.mono ?_
  rintro e W' ⟨he, h | ⟨k, hk, h⟩⟩
  · exact ⟨he, .inl ⟨_, rfl, h⟩⟩
  · exact ⟨he, .inr ⟨_, ⟨k, hk, rfl⟩, h⟩⟩
theorem bytes_any (f : Int) (q : Nat) (w : World) : Calls Tryd.prog 105 #[.int .i64 f, .func (.func 106) #[.pointer (some ⟨q, 0, none⟩)] #[]] w fun e w' => e = .returned (.func (.func 111) #[] #[.pointer (some ⟨w.heap.size, 0, none⟩), .pointer (some ⟨w.heap.size + 1, 0, none⟩)]) ∧ w' = (w.alloc (.cells #[.int .i64 f] 3)).alloc (.cells #[.func (.func 106) #[.pointer (some ⟨q, 0, none⟩)] #[]] 67) := by
  have hmf := @makeFunc_run Tryd.prog
  go_enter Tryd.func105, Tryd.ntmps105
  go_wp2
  go_ret
  exact ⟨rfl, rfl⟩
end Go.Proofs.YtjaijomkdgoenaaDoor.Mn
