/- A reader's text: prefixes, in the fence of functions that exist. -/
import Derived.Test.YthkndfammlibpaaKit
import Derived.Test.YthkndfammlibpaaFr
import Derived.Test.YthkndfammlibpaaPan
import Derived.Test.YthkndfammlibpaaMix
import Derived.OwnWalkIn
import Derived.TacticsInMore
import Derived.LoopNIn
import Derived.LoopIn
import Derived.WalkSmall
namespace Go.Proofs.Ythkndfammlibpaa
open Go.RowKit Go.Shelf
theorem exi_round {P : Program} : (Exi P).round = none := rfl
theorem exi_of {P : Program} {f : FuncId} {fn : Func} (h : P.funcs[f]? = some fn) : (Exi P).fn f := by show (P.funcs[f]?).isSome = true; rw [h]; rfl
attribute [local go_sem] Oper.semAt_some exi_round
set_option maxRecDepth 100000
set_option maxHeartbeats 2000000

/-- Whether a text begins with p. -/
def begins (s p : ByteArray) : Bool := decide (p.size ≤ s.size) && ((s.extract 0 p.size).toList == p.toList)

theorem hasPrefix_in (n : Nat) (s p : ByteArray) (w : World) :
    CallsIn (Exi Try.prog) n Try.prog 32 #[.string s, .string p] w fun e w' => e = .returned (.bool (begins s p)) ∧ Below w.heap.size w w' := by
  refine callsIn_of_wp Try.func32 rfl (exi_of rfl) ?_ rfl
  simp only [Try.ntmps32, List.size_toArray, List.length_cons, List.length_nil, Nat.reduceAdd, Nat.reduceSub, Array.replicate_succ, Array.replicate_zero, List.push_toArray, List.append_toArray, List.nil_append, List.cons_append]
  have q0 : (0 : Int) ≤ (p.size : Int) := Int.natCast_nonneg _
  have q1 : (0 : Int) ≤ (s.size : Int) := Int.natCast_nonneg _
  by_cases h : p.size ≤ s.size
  · have k1 : (p.size : Int) ≤ (s.size : Int) := by omega
    gi_wp2
    refine bodyPost_ret (v := .bool (begins s p)) (by simp [results, Try.results32, go_sem, begins, h]) rfl ?_
    exact ⟨rfl, Below.refl _ _⟩
  · have k1 : (s.size : Int) < (p.size : Int) := by omega
    gi_wp2
    refine bodyPost_ret (v := .bool (begins s p)) (by simp [results, Try.results32, go_sem, begins, h]) rfl ?_
    exact ⟨rfl, Below.refl _ _⟩

/-- What is left of a text behind a prefix. -/
def cut (s p : ByteArray) : ByteArray := if begins s p = true then s.extract p.size s.size else s
theorem begins_le {s p : ByteArray} (h : begins s p = true) : p.size ≤ s.size := by
  simp [begins] at h
  exact h.1

theorem cutLow_in (n : Nat) (h1 : 1 ≤ n) (s p : ByteArray) (w : World) :
    CallsIn (Exi Try.prog) n Try.prog 52 #[.string s, .string p] w fun e w' => e = .returned (.tuple #[.string (cut s p), .bool (begins s p)]) ∧ Below w.heap.size w w' := by
  have H := Lib.hid fun W => hasPrefix_in (n - 1) s p W
  refine callsIn_of_wp Try.func52 rfl (exi_of rfl) ?_ rfl
  simp only [Try.ntmps52, List.size_toArray, List.length_cons, List.length_nil, Nat.reduceAdd, Nat.reduceSub, Array.replicate_succ, Array.replicate_zero, List.push_toArray, List.append_toArray, List.nil_append, List.cons_append]
  have q0 : (0 : Int) ≤ (p.size : Int) := Int.natCast_nonneg _
  have q1 : (0 : Int) ≤ (s.size : Int) := Int.natCast_nonneg _
  obtain ⟨u, hu⟩ : ∃ u, begins s p = u := ⟨_, rfl⟩
  cases u
  · have hc : cut s p = s := by rw [cut, hu]; rfl
    rw [hc]
    simp only [hu] at H ⊢
    gi_wp2_with (refine ⟨exi_of rfl, ?_⟩; gi_at_call 32; refine (H.out _).mono ?_; rintro e w2 ⟨rfl, hb2⟩)
    refine bodyPost_ret (v := .tuple #[.string s, .bool false]) (by simp [results, Try.results52, go_sem]) rfl ?_
    exact ⟨rfl, by first | exact hb2 | exact (Below.refl _ _)⟩
  · have hc : cut s p = s.extract p.size s.size := by rw [cut, hu]; rfl
    have k1 : (p.size : Int) ≤ (s.size : Int) := by have := begins_le hu; omega
    rw [hc]
    simp only [hu] at H ⊢
    gi_wp2_with (refine ⟨exi_of rfl, ?_⟩; gi_at_call 32; refine (H.out _).mono ?_; rintro e w2 ⟨rfl, hb2⟩)
    refine bodyPost_ret (v := .tuple #[.string (s.extract p.size s.size), .bool true]) (by simp [results, Try.results52, go_sem]) rfl ?_
    exact ⟨rfl, by first | exact hb2 | exact (Below.refl _ _)⟩

theorem cutPrefix_in (n : Nat) (h1 : 2 ≤ n) (s p : ByteArray) (w : World) :
    CallsIn (Exi Try.prog) n Try.prog 50 #[.string s, .string p] w fun e w' => e = .returned (.tuple #[.string (cut s p), .bool (begins s p)]) ∧ Below w.heap.size w w' := by
  have d1 : 1 ≤ n := by omega
  have H := Lib.hid fun W => cutLow_in (n - 1) (by omega) s p W
  refine callsIn_of_wp Try.func50 rfl (exi_of rfl) ?_ rfl
  simp only [Try.ntmps50, List.size_toArray, List.length_cons, List.length_nil, Nat.reduceAdd, Nat.reduceSub, Array.replicate_succ, Array.replicate_zero, List.push_toArray, List.append_toArray, List.nil_append, List.cons_append]
  gi_wp2_with (refine ⟨exi_of rfl, ?_⟩; gi_at_call 52; refine (H.out _).mono ?_; rintro e w2 ⟨rfl, hb2⟩)
  refine bodyPost_ret (v := .tuple #[.string (cut s p), .bool (begins s p)]) (by simp [results, Try.results50, go_sem]) rfl ?_
  exact ⟨rfl, hb2⟩

/-- A reader: its one cell is what is left of the text. -/
abbrev Rest (w : World) (r : Nat) (s : ByteArray) : Prop := Fresh w r #[.string s] 71

theorem skip_in (n : Nat) (h1 : 3 ≤ n) (r : Nat) (s p : ByteArray) (w : World) (h : Rest w r s) :
    CallsIn (Exi Try.prog) n Try.prog 48 #[.pointer (some ⟨r, 0, none⟩), .string p] w fun e w' => e = .returned (.bool (begins s p)) ∧ Rest w' r (cut s p) ∧ Turned [r] w w' := by
  have d1 : 1 ≤ n := by omega
  have H := Lib.hid fun W => cutPrefix_in (n - 1) (by omega) s p W
  have c1 : w.cell? ⟨r, 0, none⟩ = some (.string s) := (h.cell 0).trans rfl
  refine callsIn_of_wp Try.func48 rfl (exi_of rfl) ?_ rfl
  simp only [Try.ntmps48, List.size_toArray, List.length_cons, List.length_nil, Nat.reduceAdd, Nat.reduceSub, Array.replicate_succ, Array.replicate_zero, List.push_toArray, List.append_toArray, List.nil_append, List.cons_append]
  obtain ⟨u, hu⟩ : ∃ u, begins s p = u := ⟨_, rfl⟩
  cases u
  · have hc : cut s p = s := by rw [cut, hu]; rfl
    rw [hc]
    simp only [hu] at H ⊢
    have HH := Lib.hid h
    clear h
    gi_wp2_with (refine ⟨exi_of rfl, ?_⟩; gi_at_call 50; refine (H.out _).mono ?_; rintro e w2 ⟨rfl, hb2⟩)
    refine bodyPost_ret (v := .bool false) (by simp [results, Try.results48, go_sem]) rfl ?_
    exact ⟨rfl, HH.out.below hb2, .of_below hb2⟩
  · have hc : cut s p = s.extract p.size s.size := by rw [cut, hu]; rfl
    obtain ⟨x, hx⟩ : ∃ x, cut s p = x := ⟨_, rfl⟩
    simp only [hu, hx] at H ⊢
    have HH := Lib.hid h
    clear h
    gi_wp2_with (refine ⟨exi_of rfl, ?_⟩; gi_at_call 50; refine (H.out _).mono ?_; rintro e w2 ⟨rfl, hb2⟩; have c2 : w2.frozen? ⟨r, 0, none⟩ = false := (HH.out.below hb2).thawed 0; have c3 : w2.cell? ⟨r, 0, none⟩ = some (.string s) := ((HH.out.below hb2).cell 0).trans rfl; have HB := Lib.hid hb2; clear hb2)
    refine bodyPost_ret (v := .bool true) (by simp [results, Try.results48, go_sem]) rfl ?_
    exact ⟨rfl, (HH.out.below HB.out).set 0 _, (Turned.of_below HB.out).setCell (.inl (by simp)) 0 _⟩

/-- The panic that a text which is no code ends in. -/
def brk : List PanicEntry := [{ v := .iface 76 (.agg #[]), recovered := false }]

/-- What a panic of the reader leaves. -/
def Brk (r : Nat) (w : World) (e : Ending) (w' : World) : Prop := e = .panicked brk ∧ Turned [r] w w'

theorem next_in (n : Nat) (r : Nat) (s : ByteArray) (hs : s.size ≤ 1000000) (w : World) (h : Rest w r s) :
    CallsIn (Exi Try.prog) n Try.prog 51 #[.pointer (some ⟨r, 0, none⟩)] w fun e w' => (s.data.toList = [] ∧ Brk r w e w') ∨
      ∃ c t, s.data.toList = c :: t ∧ e = .returned (.int .u8 (c.toNat : Int)) ∧ Rest w' r ⟨t.toArray⟩ ∧ Turned [r] w w' := by
  have c1 : w.cell? ⟨r, 0, none⟩ = some (.string s) := (h.cell 0).trans rfl
  have c2 := h.thawed 0
  refine callsIn_of_wp Try.func51 rfl (exi_of rfl) ?_ rfl
  simp only [Try.ntmps51, List.size_toArray, List.length_cons, List.length_nil, Nat.reduceAdd, Nat.reduceSub, Array.replicate_succ, Array.replicate_zero, List.push_toArray, List.append_toArray, List.nil_append, List.cons_append]
  cases hl : s.data.toList with
  | nil =>
    obtain rfl : s = ⟨#[]⟩ := bytes_ext hl
    gi_wp2
    exact ⟨rfl, rfl, Turned.refl _ _⟩
  | cons c t =>
    have hne : s.toList.isEmpty = false := by rw [ByteArray.toList_eq, hl]; rfl
    have hsz : s.size = t.length + 1 := by rw [← length_list, hl]; rfl
    have h0 : (0 : Int) < (s.size : Int) := by omega
    have h1 : (1 : Int) ≤ (s.size : Int) := by omega
    have hg : s[0]'(by omega) = c := by
      have := byte_at s 0 (by omega)
      rw [hl] at this
      exact (Option.some.inj this).symm
    have hx : s.extract 1 s.size = ⟨t.toArray⟩ := bytes_ext (by rw [extract_list, hl]; simp [hsz])
    have HH := Lib.hid h
    clear h
    gi_wp2
    refine bodyPost_ret (v := .int .u8 (c.toNat : Int)) (by simp [results, Try.results51, go_sem]) rfl ?_
    rw [hsz] at hx
    rw [hx]
    exact .inr ⟨c, t, rfl, rfl, HH.out.set 0 _, (Turned.refl [r] w).setCell (.inl (by simp)) 0 _⟩

/-- The string of some bytes. -/
abbrev bz (l : List UInt8) : ByteArray := ⟨l.toArray⟩
theorem bz_size (l : List UInt8) : (bz l).size = l.length := by rw [← length_list]

theorem literal_in (n : Nat) (h1 : 1 ≤ n) (r : Nat) (l : List UInt8) (hl : l.length ≤ 1000000) (w : World) (h : Rest w r (bz l)) :
    CallsIn (Exi Try.prog) n Try.prog 49 #[.pointer (some ⟨r, 0, none⟩)] w fun e w' => ((∀ c t, l = c :: t → c = 0) ∧ Brk r w e w') ∨
      ∃ c t, l = c :: t ∧ c ≠ 0 ∧ e = .returned (.int .u8 (c.toNat : Int)) ∧ Rest w' r (bz t) ∧ Turned [r] w w' := by
  have H0 := next_in (n - 1) r (bz l) (by rw [bz_size]; exact hl) w h
  refine callsIn_of_wp Try.func49 rfl (exi_of rfl) ?_ rfl
  simp only [Try.ntmps49, List.size_toArray, List.length_cons, List.length_nil, Nat.reduceAdd, Nat.reduceSub, Array.replicate_succ, Array.replicate_zero, List.push_toArray, List.append_toArray, List.nil_append, List.cons_append]
  cases l with
  | nil =>
    have H := Lib.hid (H0.mono (R' := fun e w' => Brk r w e w') (by
      rintro e w' (⟨_, k⟩ | ⟨c, t, k, _⟩)
      · exact k
      · cases k))
    clear H0
    gi_wp2_with (refine ⟨exi_of rfl, ?_⟩; gi_at_call 51; refine H.out.mono ?_; rintro e w2 ⟨rfl, ht⟩; have HT := Lib.hid ht; clear ht)
    exact ⟨rfl, Or.inl ⟨(fun c t e => nomatch e), rfl, HT.out⟩⟩
  | cons c t =>
    have H := Lib.hid (H0.mono (R' := fun e w' => e = .returned (.int .u8 (c.toNat : Int)) ∧ Rest w' r (bz t) ∧ Turned [r] w w') (by
      rintro e w' (⟨k, _⟩ | ⟨c, t, k, hq⟩)
      · cases k
      · cases k; exact hq))
    clear H0
    by_cases hc : c = 0
    · subst hc
      have e0 : ((0 : UInt8).toNat : Int) = 0 := rfl
      simp only [e0] at H
      gi_wp2_with (refine ⟨exi_of rfl, ?_⟩; gi_at_call 51; refine H.out.mono ?_; rintro e w2 ⟨rfl, _, ht⟩; have HT := Lib.hid ht; clear ht)
      exact ⟨rfl, Or.inl ⟨fun c t e => by cases e; rfl, rfl, HT.out⟩⟩
    · have hc' : ¬ (c.toNat : Int) = 0 := fun e => hc (UInt8.toNat_inj.1 (by simpa using e))
      gi_wp2_with (refine ⟨exi_of rfl, ?_⟩; gi_at_call 51; refine H.out.mono ?_; rintro e w2 ⟨rfl, hr, ht⟩; have HT := Lib.hid ht; clear ht)
      refine bodyPost_ret (v := .int .u8 (c.toNat : Int)) (by simp [results, Try.results49, go_sem]) rfl ?_
      exact .inr ⟨c, t, rfl, hc, rfl, hr, HT.out⟩
end Go.Proofs.Ythkndfammlibpaa
