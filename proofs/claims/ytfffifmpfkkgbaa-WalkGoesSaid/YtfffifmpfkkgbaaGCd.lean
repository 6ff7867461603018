/- Texts of stage 12, merged: CdEach, CdWrite, CdEncode, CdRd, CdRkey, CdRk1, CdRall, CdDec, CdMathC. -/
import Derived.Test.YtfffifmpfkkgbaaKit
import Derived.RangeFuncNested
import Derived.RangeFuncBound
import Derived.RangeFuncCalls
import Derived.RangeFuncLeaves
import Derived.RangeFuncBox
import Derived.Shelf.Abstract
import Derived.Shelf.RegionOpen
import Derived.OwnWalkIn
import Derived.TacticsInMore
import Derived.LoopNIn
import Derived.LoopIn
import Derived.OwnWalk
import Derived.Maps.AppendAt
import Derived.Laws.EntriesVeiled
import Derived.Test.YtfffifmpfkkgbaaFr
import Derived.Test.YtfffifmpfkkgbaaPan
import Derived.Test.YtfffifmpfkkgbaaMix
import Derived.WalkSmall
import Derived.Tactics
import Derived.Tactics2
import Derived.Defers
import Derived.Recover
import Derived.Laws.Pointers
/- The iterator over a key's bytes. -/
namespace Go.Proofs.Ytfffifmpfkkgbaa.Cd
open Go.RowKit Go.Shelf
attribute [local go_sem] Oper.semAt_some

/-- An index of a string's bytes. -/
abbrev Ix (s : ByteArray) := { i : Nat // i < s.size }
def upTo (s : ByteArray) : (k : Nat) → k ≤ s.size → List (Ix s)
  | 0, _ => []
  | k + 1, h => upTo s k (by omega) ++ [⟨k, by omega⟩]
theorem upTo_length (s : ByteArray) : ∀ (k : Nat) (h : k ≤ s.size), (upTo s k h).length = k
  | 0, _ => rfl
  | k + 1, h => by simp [upTo, upTo_length s k]

/-- Block B is as it was. -/
def KeepB (B : Nat) (W W' : World) : Prop := W'.heap[B]? = W.heap[B]?
theorem keepB_t {B : Nat} {X Y Z : World} (h : KeepB B X Y) (k : KeepB B Y Z) : KeepB B X Z := Eq.trans k h
theorem keepB_b {B : Nat} {w : World} (hB : B < w.heap.size) (W : World) (l : Nat) (o o' : Obj) (hl : w.heap.size ≤ l) (_ : W.heap[l]? = some o) (_ : o.isCells = false) (_ : o.isWalk = false) : KeepB B W (W.putObj l o') :=
  World.putObj_heap_other (by omega)

end Go.Proofs.Ytfffifmpfkkgbaa.Cd

/- The closure that writes bytes to the code. -/
namespace Go.Proofs.Ytfffifmpfkkgbaa.Cd
open Go.RowKit
set_option maxRecDepth 100000
set_option maxHeartbeats 1000000

theorem infoB : (Try.prog.info? 5).map (fun i => (i.zero, i.size, i.bytes)) = some (some (.int .u8 0), 1, 1) := by kernel_rfl

def byteVals (xs : List UInt8) : List Value := xs.map fun c => Value.int .u8 (c.toNat : Int)
theorem byteVals_one (xs : List UInt8) : ∀ u ∈ byteVals xs, u.oneCell' = true := by
  intro u hu
  obtain ⟨s, _, rfl⟩ := List.mem_map.1 hu
  rfl
theorem byteVals_length (xs : List UInt8) : (byteVals xs).length = xs.length := by simp [byteVals]
theorem byteVals_append (xs ys : List UInt8) : byteVals (xs ++ ys) = byteVals xs ++ byteVals ys := by simp [byteVals]

/-- The code under way: its variable's box, and the row that it owns. -/
structure Coding (base Bc g : Nat) (xs : List UInt8) (w : World) : Prop where
  box : Boxed w Bc 122 (.slice (some ⟨g, 0, none⟩) xs.length 34)
  own : w.ownsRow base 5 1 (.slice (some ⟨g, 0, none⟩) xs.length 34) xs.length (byteVals xs)

/-- All but two blocks are as they were. -/
structure Kept2 (g Bc : Nat) (w w' : World) : Prop where
  os : w'.os = w.os
  tape : w'.tape = w.tape
  output : w'.output = w.output
  size : w.heap.size ≤ w'.heap.size
  block : ∀ k, k < w.heap.size → k ≠ g → k ≠ Bc → w'.heap[k]? = w.heap[k]?
theorem Kept2.refl (g Bc : Nat) (w : World) : Kept2 g Bc w w := ⟨rfl, rfl, rfl, Nat.le_refl _, fun _ _ _ _ => rfl⟩
theorem Kept2.trans {g Bc : Nat} {a b c : World} (h : Kept2 g Bc a b) (k : Kept2 g Bc b c) : Kept2 g Bc a c :=
  ⟨k.os.trans h.os, k.tape.trans h.tape, k.output.trans h.output, Nat.le_trans h.size k.size, fun i hi h1 h2 => (k.block i (Nat.lt_of_lt_of_le hi h.size) h1 h2).trans (h.block i hi h1 h2)⟩
theorem Kept2.alloc (g Bc : Nat) (w : World) (o : Obj) : Kept2 g Bc w (w.alloc o) := ⟨rfl, rfl, rfl, by simp, fun k hk _ _ => Below.heap_alloc _ _ _ hk⟩
theorem Kept2.below {g Bc B : Nat} {w w' : World} (h : Kept2 g Bc w w') (hg : B ≤ g) (hc : B ≤ Bc) (hB : B ≤ w.heap.size) : Below B w w' :=
  ⟨h.os, h.tape, h.output, h.size, fun k hk => h.block k (by omega) (by omega) (by omega)⟩
theorem Kept2.boxed {g Bc : Nat} {w w' : World} {B : Nat} {t : TypeId} {v : Value} (h : Kept2 g Bc w w') (hb : Boxed w B t v) (h1 : B ≠ g) (h2 : B ≠ Bc) : Boxed w' B t v := (h.block B hb.lt h1 h2).trans hb

theorem Coding.ne {base Bc g : Nat} {xs : List UInt8} {w : World} (h : Coding base Bc g xs w) : Bc ≠ g := by
  have := h.box.not_row (by decide) h.own
  simpa [Value.ownBlock] using this
theorem Coding.alloc {base Bc g : Nat} {xs : List UInt8} {w : World} (h : Coding base Bc g xs w) (o : Obj) : Coding base Bc g xs (w.alloc o) := ⟨h.box.alloc o, h.own.alloc o⟩
/-- Blocks that are no cells are kept. -/
theorem Coding.others {base Bc g : Nat} {xs : List UInt8} {w w' : World} (h : Coding base Bc g xs w) (k : Kept2 g Bc w w') : KeepsOthers w w' := by
  refine ⟨k.size, fun i o hi ho => (k.block i (Array.getElem?_eq_some_iff.1 hi).1 ?_ ?_).trans hi⟩
  · rintro rfl
    rcases h.own.2 with ⟨h1, _⟩ | ⟨g', cap, cur, h1, _, hg, _⟩
    · cases h1
    · cases h1; rw [hg] at hi; cases hi; cases ho
  · rintro rfl
    have := h.box
    rw [show w.heap[i]? = _ from this] at hi; cases hi; cases ho

end Go.Proofs.Ytfffifmpfkkgbaa.Cd

/- The walk of Encode. -/
namespace Go.Proofs.Ytfffifmpfkkgbaa.Cd
open Go.RowKit Go.Shelf
attribute [local go_sem] Oper.semAt_some

/-- The code of a key, byte by byte. -/
def encB : List UInt8 → List UInt8
  | [] => []
  | c :: l => (if c = 0 then [0, 1] else [c]) ++ encB l
theorem encB_append : ∀ a b, encB (a ++ b) = encB a ++ encB b
  | [], b => rfl
  | c :: a, b => by simp [encB, encB_append a b]
theorem encB_le : ∀ l, (encB l).length ≤ 2 * l.length
  | [] => by simp [encB]
  | c :: l => by
    have := encB_le l
    simp only [encB, List.length_append, List.length_cons]
    split <;> simp <;> omega
def codeL (s : ByteArray) : List UInt8 := encB s.data.toList ++ [0, 0]
def codeOf (s : ByteArray) : ByteArray := ⟨(codeL s).toArray⟩

def bytesAt (s : ByteArray) (l : List (Ix s)) : List UInt8 := l.map fun x => s[x.1]'x.2
theorem bytesAt_snoc (s : ByteArray) (l : List (Ix s)) (x : Ix s) : bytesAt s (l ++ [x]) = bytesAt s l ++ [s[x.1]'x.2] := by simp [bytesAt]
theorem bytesAt_upTo (s : ByteArray) : ∀ (k : Nat) (h : k ≤ s.size), bytesAt s (upTo s k h) = s.data.toList.take k
  | 0, _ => by simp [upTo, bytesAt]
  | k + 1, h => by
    rw [upTo, bytesAt_snoc, bytesAt_upTo s k (by omega), List.take_succ_eq_append_getElem (by rw [length_list]; omega)]
    rfl
theorem bytesAt_length (s : ByteArray) (l : List (Ix s)) : (bytesAt s l).length = l.length := by simp [bytesAt]

theorem Coding.grown {base Bc g : Nat} {xs : List UInt8} {W W' : World} {row : Option Nat} (h : Coding base Bc g xs W) (hg : W.grownBy W' row) (hr : ∀ r, row = some r → ∃ o : Obj, W.heap[r]? = some o ∧ o.isCells = false) : Coding base Bc g xs W' := by
  refine ⟨h.box.kept hg (fun e => ?_), h.own.kept hg ?_⟩
  · obtain ⟨o, ho, hc⟩ := hr Bc e.symm
    rw [show W.heap[Bc]? = _ from h.box] at ho; cases ho; cases hc
  · rcases h.own.2 with ⟨h1, _⟩ | ⟨g', cap, cur, h1, _, hgb, _⟩
    · cases h1
    · cases h1
      refine .inr fun e => ?_
      obtain ⟨o, ho, hc⟩ := hr g (by simpa [Value.ownBlock] using e.symm)
      rw [hgb] at ho; cases ho; cases hc
theorem boxed_grown {W W' : World} {B : Nat} {t : TypeId} {v : Value} {row : Option Nat} (h : Boxed W B t v) (hg : W.grownBy W' row) (hr : ∀ r, row = some r → ∃ o : Obj, W.heap[r]? = some o ∧ o.isCells = false) : Boxed W' B t v :=
  h.kept hg (fun e => by
    obtain ⟨o, ho, hc⟩ := hr B e.symm
    rw [show W.heap[B]? = _ from h] at ho; cases ho; cases hc)
theorem foldl_push (xs : List UInt8) : ∀ acc : ByteArray, (xs.map fun c => (c.toNat : Int)).foldl (fun r n => r.push (UInt8.ofNat n.toNat)) acc = acc ++ ⟨xs.toArray⟩ := by
  induction xs with
  | nil => intro acc; apply bytes_ext; simp [ByteArray.data_append]
  | cons c xs ih =>
    intro acc
    rw [List.map_cons, List.foldl_cons, ih]
    apply bytes_ext
    simp [ByteArray.data_append, ByteArray.push]
theorem code_string {base Bc g : Nat} {xs : List UInt8} {w : World} (h : Coding base Bc g xs w) :
    (convert 122 9 (.slice (some ⟨g, 0, none⟩) xs.length 34)).run Try.prog w = .ok (.string ⟨xs.toArray⟩) w := by
  rw [run_convert_bytes_string _ 122 9 5 _ _ _ Try.underlying122 Try.underlying5 Try.underlying9]
  have hl := run_loadCells_list (P := Try.prog) (w := w) ⟨g, 0, none⟩ (byteVals xs) (fun j v hv => by
    rw [Addr.add_lit, Nat.zero_add, h.own.cellAt j (by have := (List.getElem?_eq_some_iff.1 hv).1; rw [byteVals_length] at this; omega)]
    exact hv)
  rw [byteVals_length] at hl
  rw [run_bytesToString _ _ _ _ (xs.map fun c => (c.toNat : Int)) (by rw [hl]; simp [byteVals, Function.comp_def])]
  rw [foldl_push]
  congr 2

end Go.Proofs.Ytfffifmpfkkgbaa.Cd

/- A reader's text: prefixes, in the fence of functions that exist. -/
namespace Go.Proofs.Ytfffifmpfkkgbaa.Cd
open Go.RowKit Go.Shelf
theorem exi_round {P : Program} : (Exi P).round = none := rfl
theorem exi_of {P : Program} {f : FuncId} {fn : Func} (h : P.funcs[f]? = some fn) : (Exi P).fn f := by show (P.funcs[f]?).isSome = true; rw [h]; rfl
attribute [local go_sem] Oper.semAt_some exi_round
set_option maxRecDepth 100000
set_option maxHeartbeats 2000000

/-- Whether a text begins with p. -/
def begins (s p : ByteArray) : Bool := decide (p.size ≤ s.size) && ((s.extract 0 p.size).toList == p.toList)

theorem hasPrefix_in (n : Nat) (s p : ByteArray) (w : World) :
    CallsIn (Exi Try.prog) n Try.prog 58 #[.string s, .string p] w fun e w' => e = .returned (.bool (begins s p)) ∧ Below w.heap.size w w' := by
  refine callsIn_of_wp Try.func58 rfl (exi_of rfl) ?_ rfl
  simp only [Try.ntmps58, List.size_toArray, List.length_cons, List.length_nil, Nat.reduceAdd, Nat.reduceSub, Array.replicate_succ, Array.replicate_zero, List.push_toArray, List.append_toArray, List.nil_append, List.cons_append]
  have q0 : (0 : Int) ≤ (p.size : Int) := Int.natCast_nonneg _
  have q1 : (0 : Int) ≤ (s.size : Int) := Int.natCast_nonneg _
  by_cases h : p.size ≤ s.size
  · have k1 : (p.size : Int) ≤ (s.size : Int) := by omega
    gi_wp2
    refine bodyPost_ret (v := .bool (begins s p)) (by simp [results, Try.results58, go_sem, begins, h]) rfl ?_
    exact ⟨rfl, Below.refl _ _⟩
  · have k1 : (s.size : Int) < (p.size : Int) := by omega
    gi_wp2
    refine bodyPost_ret (v := .bool (begins s p)) (by simp [results, Try.results58, go_sem, begins, h]) rfl ?_
    exact ⟨rfl, Below.refl _ _⟩

/-- What is left of a text behind a prefix. -/
def cut (s p : ByteArray) : ByteArray := if begins s p = true then s.extract p.size s.size else s
theorem begins_le {s p : ByteArray} (h : begins s p = true) : p.size ≤ s.size := by
  simp [begins] at h
  exact h.1

theorem cutLow_in (n : Nat) (h1 : 1 ≤ n) (s p : ByteArray) (w : World) :
    CallsIn (Exi Try.prog) n Try.prog 91 #[.string s, .string p] w fun e w' => e = .returned (.tuple #[.string (cut s p), .bool (begins s p)]) ∧ Below w.heap.size w w' := by
  have H := Lib.hid fun W => hasPrefix_in (n - 1) s p W
  refine callsIn_of_wp Try.func91 rfl (exi_of rfl) ?_ rfl
  simp only [Try.ntmps91, List.size_toArray, List.length_cons, List.length_nil, Nat.reduceAdd, Nat.reduceSub, Array.replicate_succ, Array.replicate_zero, List.push_toArray, List.append_toArray, List.nil_append, List.cons_append]
  have q0 : (0 : Int) ≤ (p.size : Int) := Int.natCast_nonneg _
  have q1 : (0 : Int) ≤ (s.size : Int) := Int.natCast_nonneg _
  obtain ⟨u, hu⟩ : ∃ u, begins s p = u := ⟨_, rfl⟩
  cases u
  · have hc : cut s p = s := by rw [cut, hu]; rfl
    rw [hc]
    simp only [hu] at H ⊢
    gi_wp2_with (refine ⟨exi_of rfl, ?_⟩; gi_at_call 58; refine (H.out _).mono ?_; rintro e w2 ⟨rfl, hb2⟩)
    refine bodyPost_ret (v := .tuple #[.string s, .bool false]) (by simp [results, Try.results91, go_sem]) rfl ?_
    exact ⟨rfl, by first | exact hb2 | exact (Below.refl _ _)⟩
  · have hc : cut s p = s.extract p.size s.size := by rw [cut, hu]; rfl
    have k1 : (p.size : Int) ≤ (s.size : Int) := by have := begins_le hu; omega
    rw [hc]
    simp only [hu] at H ⊢
    gi_wp2_with (refine ⟨exi_of rfl, ?_⟩; gi_at_call 58; refine (H.out _).mono ?_; rintro e w2 ⟨rfl, hb2⟩)
    refine bodyPost_ret (v := .tuple #[.string (s.extract p.size s.size), .bool true]) (by simp [results, Try.results91, go_sem]) rfl ?_
    exact ⟨rfl, by first | exact hb2 | exact (Below.refl _ _)⟩

theorem cutPrefix_in (n : Nat) (h1 : 2 ≤ n) (s p : ByteArray) (w : World) :
    CallsIn (Exi Try.prog) n Try.prog 89 #[.string s, .string p] w fun e w' => e = .returned (.tuple #[.string (cut s p), .bool (begins s p)]) ∧ Below w.heap.size w w' := by
  have d1 : 1 ≤ n := by omega
  have H := Lib.hid fun W => cutLow_in (n - 1) (by omega) s p W
  refine callsIn_of_wp Try.func89 rfl (exi_of rfl) ?_ rfl
  simp only [Try.ntmps89, List.size_toArray, List.length_cons, List.length_nil, Nat.reduceAdd, Nat.reduceSub, Array.replicate_succ, Array.replicate_zero, List.push_toArray, List.append_toArray, List.nil_append, List.cons_append]
  gi_wp2_with (refine ⟨exi_of rfl, ?_⟩; gi_at_call 91; refine (H.out _).mono ?_; rintro e w2 ⟨rfl, hb2⟩)
  refine bodyPost_ret (v := .tuple #[.string (cut s p), .bool (begins s p)]) (by simp [results, Try.results89, go_sem]) rfl ?_
  exact ⟨rfl, hb2⟩

/-- A reader: its one cell is what is left of the text. -/
abbrev Rest (w : World) (r : Nat) (s : ByteArray) : Prop := Fresh w r #[.string s] 118

theorem skip_in (n : Nat) (h1 : 3 ≤ n) (r : Nat) (s p : ByteArray) (w : World) (h : Rest w r s) :
    CallsIn (Exi Try.prog) n Try.prog 87 #[.pointer (some ⟨r, 0, none⟩), .string p] w fun e w' => e = .returned (.bool (begins s p)) ∧ Rest w' r (cut s p) ∧ Turned [r] w w' := by
  have d1 : 1 ≤ n := by omega
  have H := Lib.hid fun W => cutPrefix_in (n - 1) (by omega) s p W
  have c1 : w.cell? ⟨r, 0, none⟩ = some (.string s) := (h.cell 0).trans rfl
  refine callsIn_of_wp Try.func87 rfl (exi_of rfl) ?_ rfl
  simp only [Try.ntmps87, List.size_toArray, List.length_cons, List.length_nil, Nat.reduceAdd, Nat.reduceSub, Array.replicate_succ, Array.replicate_zero, List.push_toArray, List.append_toArray, List.nil_append, List.cons_append]
  obtain ⟨u, hu⟩ : ∃ u, begins s p = u := ⟨_, rfl⟩
  cases u
  · have hc : cut s p = s := by rw [cut, hu]; rfl
    rw [hc]
    simp only [hu] at H ⊢
    have HH := Lib.hid h
    clear h
    gi_wp2_with (refine ⟨exi_of rfl, ?_⟩; gi_at_call 89; refine (H.out _).mono ?_; rintro e w2 ⟨rfl, hb2⟩)
    refine bodyPost_ret (v := .bool false) (by simp [results, Try.results87, go_sem]) rfl ?_
    exact ⟨rfl, HH.out.below hb2, .of_below hb2⟩
  · have hc : cut s p = s.extract p.size s.size := by rw [cut, hu]; rfl
    obtain ⟨x, hx⟩ : ∃ x, cut s p = x := ⟨_, rfl⟩
    simp only [hu, hx] at H ⊢
    have HH := Lib.hid h
    clear h
    gi_wp2_with (refine ⟨exi_of rfl, ?_⟩; gi_at_call 89; refine (H.out _).mono ?_; rintro e w2 ⟨rfl, hb2⟩; have c2 : w2.frozen? ⟨r, 0, none⟩ = false := (HH.out.below hb2).thawed 0; have c3 : w2.cell? ⟨r, 0, none⟩ = some (.string s) := ((HH.out.below hb2).cell 0).trans rfl; have HB := Lib.hid hb2; clear hb2)
    refine bodyPost_ret (v := .bool true) (by simp [results, Try.results87, go_sem]) rfl ?_
    exact ⟨rfl, (HH.out.below HB.out).set 0 _, (Turned.of_below HB.out).setCell (.inl (by simp)) 0 _⟩

/-- The panic that a text which is no code ends in. -/
def brk : List PanicEntry := [{ v := .iface 127 (.agg #[]), recovered := false }]

/-- What a panic of the reader leaves. -/
def Brk (r : Nat) (w : World) (e : Ending) (w' : World) : Prop := e = .panicked brk ∧ Turned [r] w w'

theorem next_in (n : Nat) (r : Nat) (s : ByteArray) (hs : s.size ≤ 1000000) (w : World) (h : Rest w r s) :
    CallsIn (Exi Try.prog) n Try.prog 90 #[.pointer (some ⟨r, 0, none⟩)] w fun e w' => (s.data.toList = [] ∧ Brk r w e w') ∨
      ∃ c t, s.data.toList = c :: t ∧ e = .returned (.int .u8 (c.toNat : Int)) ∧ Rest w' r ⟨t.toArray⟩ ∧ Turned [r] w w' := by
  have c1 : w.cell? ⟨r, 0, none⟩ = some (.string s) := (h.cell 0).trans rfl
  have c2 := h.thawed 0
  refine callsIn_of_wp Try.func90 rfl (exi_of rfl) ?_ rfl
  simp only [Try.ntmps90, List.size_toArray, List.length_cons, List.length_nil, Nat.reduceAdd, Nat.reduceSub, Array.replicate_succ, Array.replicate_zero, List.push_toArray, List.append_toArray, List.nil_append, List.cons_append]
  cases hl : s.data.toList with
  | nil =>
    obtain rfl : s = ⟨#[]⟩ := bytes_ext hl
    gi_wp2
    exact ⟨rfl, rfl, Turned.refl _ _⟩
  | cons c t =>
    have hne : s.toList.isEmpty = false := by rw [ByteArray.toList_eq, hl]; rfl
    have hsz : s.size = t.length + 1 := by rw [← length_list, hl]; rfl
    have h0 : (0 : Int) < (s.size : Int) := by omega
    have h1 : (1 : Int) ≤ (s.size : Int) := by omega
    have hg : s[0]'(by omega) = c := by
      have := byte_at s 0 (by omega)
      rw [hl] at this
      exact (Option.some.inj this).symm
    have hx : s.extract 1 s.size = ⟨t.toArray⟩ := bytes_ext (by rw [extract_list, hl]; simp [hsz])
    have HH := Lib.hid h
    clear h
    gi_wp2
    refine bodyPost_ret (v := .int .u8 (c.toNat : Int)) (by simp [results, Try.results90, go_sem]) rfl ?_
    rw [hsz] at hx
    rw [hx]
    exact .inr ⟨c, t, rfl, rfl, HH.out.set 0 _, (Turned.refl [r] w).setCell (.inl (by simp)) 0 _⟩

/-- The string of some bytes. -/
abbrev bz (l : List UInt8) : ByteArray := ⟨l.toArray⟩
theorem bz_size (l : List UInt8) : (bz l).size = l.length := by rw [← length_list]

theorem literal_in (n : Nat) (h1 : 1 ≤ n) (r : Nat) (l : List UInt8) (hl : l.length ≤ 1000000) (w : World) (h : Rest w r (bz l)) :
    CallsIn (Exi Try.prog) n Try.prog 88 #[.pointer (some ⟨r, 0, none⟩)] w fun e w' => ((∀ c t, l = c :: t → c = 0) ∧ Brk r w e w') ∨
      ∃ c t, l = c :: t ∧ c ≠ 0 ∧ e = .returned (.int .u8 (c.toNat : Int)) ∧ Rest w' r (bz t) ∧ Turned [r] w w' := by
  have H0 := next_in (n - 1) r (bz l) (by rw [bz_size]; exact hl) w h
  refine callsIn_of_wp Try.func88 rfl (exi_of rfl) ?_ rfl
  simp only [Try.ntmps88, List.size_toArray, List.length_cons, List.length_nil, Nat.reduceAdd, Nat.reduceSub, Array.replicate_succ, Array.replicate_zero, List.push_toArray, List.append_toArray, List.nil_append, List.cons_append]
  cases l with
  | nil =>
    have H := Lib.hid (H0.mono (R' := fun e w' => Brk r w e w') (by
      rintro e w' (⟨_, k⟩ | ⟨c, t, k, _⟩)
      · exact k
      · cases k))
    clear H0
    gi_wp2_with (refine ⟨exi_of rfl, ?_⟩; gi_at_call 90; refine H.out.mono ?_; rintro e w2 ⟨rfl, ht⟩; have HT := Lib.hid ht; clear ht)
    exact ⟨rfl, Or.inl ⟨(fun c t e => nomatch e), rfl, HT.out⟩⟩
  | cons c t =>
    have H := Lib.hid (H0.mono (R' := fun e w' => e = .returned (.int .u8 (c.toNat : Int)) ∧ Rest w' r (bz t) ∧ Turned [r] w w') (by
      rintro e w' (⟨k, _⟩ | ⟨c, t, k, hq⟩)
      · cases k
      · cases k; exact hq))
    clear H0
    by_cases hc : c = 0
    · subst hc
      have e0 : ((0 : UInt8).toNat : Int) = 0 := rfl
      simp only [e0] at H
      gi_wp2_with (refine ⟨exi_of rfl, ?_⟩; gi_at_call 90; refine H.out.mono ?_; rintro e w2 ⟨rfl, _, ht⟩; have HT := Lib.hid ht; clear ht)
      exact ⟨rfl, Or.inl ⟨fun c t e => by cases e; rfl, rfl, HT.out⟩⟩
    · have hc' : ¬ (c.toNat : Int) = 0 := fun e => hc (UInt8.toNat_inj.1 (by simpa using e))
      gi_wp2_with (refine ⟨exi_of rfl, ?_⟩; gi_at_call 90; refine H.out.mono ?_; rintro e w2 ⟨rfl, hr, ht⟩; have HT := Lib.hid ht; clear ht)
      refine bodyPost_ret (v := .int .u8 (c.toNat : Int)) (by simp [results, Try.results88, go_sem]) rfl ?_
      exact .inr ⟨c, t, rfl, hc, rfl, hr, HT.out⟩
end Go.Proofs.Ytfffifmpfkkgbaa.Cd

/- The iterator over a code's bytes. -/
namespace Go.Proofs.Ytfffifmpfkkgbaa.Cd
open Go.RowKit Go.Shelf
attribute [local go_sem] Oper.semAt_some exi_round
set_option maxRecDepth 100000
set_option maxHeartbeats 2000000

/-- The two bytes that end a code, and those that stand for a 0. -/
abbrev zz : ByteArray := bz [0, 0]
abbrev zo : ByteArray := bz [0, 1]

/-- What a reader meets: the end and what follows it; a byte and what follows it; no code. -/
inductive Met where
  | fin (t : List UInt8)
  | byte (c : UInt8) (t : List UInt8)
  | broken
def met : List UInt8 → Met
  | [] => .broken
  | c :: t => if c = 0 then (match t with
      | [] => .broken
      | d :: t' => if d = 0 then .fin t' else if d = 1 then .byte 0 t' else .broken)
    else .byte c t

theorem begins_bz (l p : List UInt8) : begins (bz l) (bz p) = decide (p <+: l) := by
  have hs : ((bz l).extract 0 (bz p).size).toList = l.take p.length := by
    rw [ByteArray.toList_eq, extract_list, bz_size]; simp
  have hp : (bz p).toList = p := by rw [ByteArray.toList_eq]
  rw [begins, hs, hp, bz_size, bz_size, Bool.eq_iff_iff]
  simp only [Bool.and_eq_true, decide_eq_true_eq, beq_iff_eq]
  rw [List.prefix_iff_eq_take]
  constructor
  · rintro ⟨h1, h2⟩; exact h2.symm
  · intro h; exact ⟨by rw [h]; simp [List.length_take]; omega, h.symm⟩
theorem cut_bz (l p : List UInt8) : cut (bz l) (bz p) = bz (if p <+: l then l.drop p.length else l) := by
  rw [cut, begins_bz]
  by_cases h : p <+: l
  · simp only [h, decide_true, if_pos, bz_size]
    exact bytes_ext (by rw [extract_list]; simp [List.take_of_length_le])
  · simp [h]

theorem met_fin {l t : List UInt8} (h : met l = .fin t) : l = 0 :: 0 :: t := by
  cases l with
  | nil => cases h
  | cons c l =>
    unfold met at h; dsimp only at h
    split at h
    case isFalse => cases h
    case isTrue hc =>
      cases l with
      | nil => cases h
      | cons d l =>
        dsimp only at h
        split at h
        case isTrue hd => cases h; rw [hc, hd]
        case isFalse => split at h <;> cases h
theorem met_byte {l t : List UInt8} {c : UInt8} (h : met l = .byte c t) : (c = 0 ∧ l = 0 :: 1 :: t) ∨ (c ≠ 0 ∧ l = c :: t) := by
  cases l with
  | nil => cases h
  | cons x l =>
    unfold met at h; dsimp only at h
    split at h
    case isFalse hx => cases h; exact .inr ⟨hx, rfl⟩
    case isTrue hc =>
      cases l with
      | nil => cases h
      | cons d l =>
        dsimp only at h
        split at h
        case isTrue hd => cases h
        case isFalse hd0 =>
          split at h
          case isTrue hd => cases h; exact .inl ⟨rfl, by rw [hc, hd]⟩
          case isFalse => cases h
theorem met_broken {l : List UInt8} (h : met l = .broken) : ¬ [0, 0] <+: l ∧ ¬ [0, 1] <+: l ∧ ∀ c t, l = c :: t → c = 0 := by
  cases l with
  | nil => simp
  | cons x l =>
    unfold met at h; dsimp only at h
    split at h
    case isFalse hx => cases h
    case isTrue hc =>
      subst hc
      cases l with
      | nil => simp
      | cons d l =>
        dsimp only at h
        split at h
        case isTrue hd => cases h
        case isFalse hd0 =>
          split at h
          case isTrue hd => cases h
          case isFalse hd1 => 
            refine ⟨?_, ?_, by rintro c t e; cases e; rfl⟩
            · simp [List.cons_prefix_cons]; exact fun e => hd0 e.symm
            · simp [List.cons_prefix_cons]; exact fun e => hd1 e.symm

theorem skip_fin (n : Nat) (h1 : 3 ≤ n) (r : Nat) (l : List UInt8) (w : World) (h : Rest w r (bz l)) (t : List UInt8) (hm : met l = .fin t) :
    CallsIn (Exi Try.prog) n Try.prog 87 #[.pointer (some ⟨r, 0, none⟩), .string zz] w fun e w' => e = .returned (.bool true) ∧ Rest w' r (bz t) ∧ Turned [r] w w' := by
  have H := skip_in n h1 r (bz l) zz w h
  rw [begins_bz, cut_bz] at H
  obtain rfl := met_fin hm
  simpa [List.cons_prefix_cons] using H
theorem skip_end_no (n : Nat) (h1 : 3 ≤ n) (r : Nat) (l : List UInt8) (w : World) (h : Rest w r (bz l)) (hm : ¬ [0, 0] <+: l) :
    CallsIn (Exi Try.prog) n Try.prog 87 #[.pointer (some ⟨r, 0, none⟩), .string zz] w fun e w' => e = .returned (.bool false) ∧ Rest w' r (bz l) ∧ Turned [r] w w' := by
  have H := skip_in n h1 r (bz l) zz w h
  rw [begins_bz, cut_bz] at H
  simpa [hm] using H
theorem skip_esc (n : Nat) (h1 : 3 ≤ n) (r : Nat) (t : List UInt8) (w : World) (h : Rest w r (bz (0 :: 1 :: t))) :
    CallsIn (Exi Try.prog) n Try.prog 87 #[.pointer (some ⟨r, 0, none⟩), .string zo] w fun e w' => e = .returned (.bool true) ∧ Rest w' r (bz t) ∧ Turned [r] w w' := by
  have H := skip_in n h1 r (bz (0 :: 1 :: t)) zo w h
  rw [begins_bz, cut_bz] at H
  simpa [List.cons_prefix_cons] using H
theorem skip_esc_no (n : Nat) (h1 : 3 ≤ n) (r : Nat) (l : List UInt8) (w : World) (h : Rest w r (bz l)) (hm : ¬ [0, 1] <+: l) :
    CallsIn (Exi Try.prog) n Try.prog 87 #[.pointer (some ⟨r, 0, none⟩), .string zo] w fun e w' => e = .returned (.bool false) ∧ Rest w' r (bz l) ∧ Turned [r] w w' := by
  have H := skip_in n h1 r (bz l) zo w h
  rw [begins_bz, cut_bz] at H
  simpa [hm] using H
end Go.Proofs.Ytfffifmpfkkgbaa.Cd

/- The walk of the iterator over a code's bytes. -/
namespace Go.Proofs.Ytfffifmpfkkgbaa.Cd
open Go.RowKit Go.Shelf
attribute [local go_sem] Oper.semAt_some exi_round
set_option maxRecDepth 100000
set_option maxHeartbeats 2000000

/-- Behind the bytes xs of a text the rest is l. -/
inductive Got (l0 : List UInt8) : List UInt8 → List UInt8 → Prop
  | start : Got l0 [] l0
  | more {xs l t : List UInt8} {c : UInt8} : Got l0 xs l → met l = .byte c t → Got l0 (xs ++ [c]) t
theorem Got.le {l0 xs l : List UInt8} (h : Got l0 xs l) : l.length ≤ l0.length := by
  induction h with
  | start => exact Nat.le_refl _
  | more _ hm ih => rcases met_byte hm with ⟨_, rfl⟩ | ⟨_, rfl⟩ <;> simp at ih <;> omega

def restLen (r : Nat) (w : World) : Nat := match w.heap[r]? with
  | some (.cells cs _ _) => (match cs[0]? with | some (Value.string s) => s.size | _ => 0)
  | _ => 0
theorem _root_.Go.Proofs.Ytfffifmpfkkgbaa.Fresh.restLen {w : World} {r : Nat} {l : List UInt8} (h : Rest w r (bz l)) : restLen r w = l.length := by
  unfold Go.Proofs.Ytfffifmpfkkgbaa.Cd.restLen
  rw [show w.heap[r]? = _ from h]
  exact bz_size l

/-- The blocks of the reader and of its box are as they were. -/
def KeepR (r Bk : Nat) (W W' : World) : Prop := W'.heap[r]? = W.heap[r]? ∧ W'.heap[Bk]? = W.heap[Bk]?

theorem key1_in (n : Nat) (hn : 4 ≤ n) (l r Bk : Nat) (hrb : Bk ≠ r) (l0 : List UInt8) (hl0 : l0.length ≤ 1000000) (J Jx : List UInt8 → World → Prop) (Jp : List PanicEntry → List UInt8 → World → Prop)
    (hO : ∀ pre X Y, J pre X → Turned [r] X Y → J pre Y)
    (hY : ∀ pre x W1, (∃ l, Got l0 (pre ++ [x]) l) → J pre W1 → YieldAt (Exi Try.prog) (n - 1) Try.prog l #[.int .u8 (x.toNat : Int)] W1 fun e W' =>
      KeepR r Bk W1 W' ∧ ((e = .returned (.bool true) ∧ J (pre ++ [x]) W') ∨ (e = .returned (.bool false) ∧ Jx (pre ++ [x]) W') ∨ (∃ c, e = .panicked c ∧ Jp c (pre ++ [x]) W')))
    (W : World) (h0 : J [] W) (hR : Rest W r (bz l0)) (hB : Fresh W Bk #[.pointer (some ⟨r, 0, none⟩)] 121) :
    CallsIn (Exi Try.prog) n Try.prog 86 #[.func (.yield l) #[] #[], .pointer (some ⟨Bk, 0, none⟩)] W fun e W' =>
      ((∃ v, e = .returned v) ∧ ((∃ xs, (∃ l t, Got l0 xs l ∧ met l = .fin t ∧ Rest W' r (bz t)) ∧ J xs W') ∨ (∃ pre, (∃ l, Got l0 pre l) ∧ Jx pre W'))) ∨
      (∃ c, e = .panicked c ∧ ((∃ pre, (c = brk ∧ ∃ l, Got l0 pre l ∧ met l = .broken) ∧ J pre W') ∨ (∃ pre, Jp c pre W'))) := by
  have d1 : 1 ≤ n := by omega
  refine callsIn_of_wp Try.func86 rfl (exi_of rfl) ?_ rfl
  simp only [Try.ntmps86, List.size_toArray, List.length_cons, List.length_nil, Nat.reduceAdd, Nat.reduceSub, Array.replicate_succ, Array.replicate_zero, List.push_toArray, List.append_toArray, List.nil_append, List.cons_append]
  gi_wp2
  gi_loopw [3] (fun _ wr => ∃ xs l, Got l0 xs l ∧ J xs wr ∧ Rest wr r (bz l) ∧ Fresh wr Bk #[.pointer (some ⟨r, 0, none⟩)] 121) (fun _ wr => restLen r wr)
  case atStart => exact ⟨[], l0, .start, h0, hR, hB⟩
  case round =>
    obtain ⟨xs, la, hG, hJ, hRa, hBa⟩ := hrel
    have c1 : wr.cell? ⟨Bk, 0, none⟩ = some (.pointer (some ⟨r, 0, none⟩)) := (hBa.cell 0).trans rfl
    have hle := hG.le
    cases hm : met la with
    | fin t =>
      have H1 := Lib.hid (skip_fin (n - 1) (by omega) r la wr hRa t hm)
      have HJ := Lib.hid hJ
      have HB := Lib.hid hBa
      clear hJ hBa hY h0 hR hB hRa
      gi_wp2_with (refine ⟨exi_of rfl, ?_⟩; gi_at_call 87; with_reducible refine H1.out.mono ?_; rintro e w2 ⟨rfl, hr2, ht2⟩; have HR2 := Lib.hid hr2; have HT2 := Lib.hid ht2; clear hr2 ht2)
      go_end0
      exact .inl ⟨⟨_, rfl⟩, .inl ⟨xs, ⟨la, t, hG, hm, HR2.out⟩, hO _ _ _ HJ.out HT2.out⟩⟩
    | broken =>
      obtain ⟨b1, b2, b3⟩ := met_broken hm
      have H1 := Lib.hid (skip_end_no (n - 1) (by omega) r la wr hRa b1)
      have H2 := Lib.hid fun W h => skip_esc_no (n - 1) (by omega) r la W h b2
      have H3 := Lib.hid fun W h => (literal_in (n - 1) (by omega) r la (by omega) W h).mono (R' := fun e w' => Brk r W e w') (by
        rintro e w' (⟨_, k⟩ | ⟨c, t, k, k2, _⟩)
        · exact k
        · exact (k2 (b3 c t k)).elim)
      have HJ := Lib.hid hJ
      have HB := Lib.hid hBa
      clear hJ hBa hY h0 hR hB hRa
      gi_wp2_with (refine ⟨exi_of rfl, ?_⟩; first
        | (gi_at_call 87; with_reducible refine H1.out.mono ?_; rintro e w2 ⟨rfl, hr2, ht2⟩; have c2 : w2.cell? ⟨Bk, 0, none⟩ = some (.pointer (some ⟨r, 0, none⟩)) := ((ht2.other HB.out (by simpa using hrb)).cell 0).trans rfl; have HR2 := Lib.hid hr2; have HT2 := Lib.hid ht2; clear hr2 ht2)
        | (gi_at_call 87; with_reducible refine (H2.out _ HR2.out).mono ?_; rintro e w3 ⟨rfl, hr3, ht3⟩; have c3 : w3.cell? ⟨Bk, 0, none⟩ = some (.pointer (some ⟨r, 0, none⟩)) := (((HT2.out.trans ht3).other HB.out (by simpa using hrb)).cell 0).trans rfl; have HR3 := Lib.hid hr3; have HT3 := Lib.hid ht3; clear hr3 ht3)
        | fail)
      refine ⟨exi_of rfl, ?_⟩
      gi_at_call 88
      with_reducible refine (H3.out _ HR3.out).mono ?_
      rintro e w4 ⟨rfl, ht4⟩
      exact ⟨rfl, Or.inr ⟨brk, rfl, .inl ⟨xs, ⟨rfl, la, hG, hm⟩, hO _ _ _ HJ.out ((HT2.out.trans HT3.out).trans ht4)⟩⟩⟩
    | byte c t =>
      rcases met_byte hm with ⟨rfl, rfl⟩ | ⟨hc, rfl⟩
      · have H1 := Lib.hid (skip_end_no (n - 1) (by omega) r (0 :: 1 :: t) wr hRa (by simp [List.cons_prefix_cons]))
        have H2 := Lib.hid fun W h => skip_esc (n - 1) (by omega) r t W h
        have hRm := Lib.hid hRa
        have HJ := Lib.hid hJ
        have HB := Lib.hid hBa
        have HY := Lib.hid hY
        clear hJ hBa hY h0 hR hB hRa
        gi_wp2_with (refine ⟨exi_of rfl, ?_⟩; first
          | (gi_at_call 87; with_reducible refine H1.out.mono ?_; rintro e w2 ⟨rfl, hr2, ht2⟩; have c2 : w2.cell? ⟨Bk, 0, none⟩ = some (.pointer (some ⟨r, 0, none⟩)) := ((ht2.other HB.out (by simpa using hrb)).cell 0).trans rfl; have HR2 := Lib.hid hr2; have HT2 := Lib.hid ht2; clear hr2 ht2)
          | (gi_at_call 87; with_reducible refine (H2.out _ HR2.out).mono ?_; rintro e w3 ⟨rfl, hr3, ht3⟩; have c3 : w3.cell? ⟨Bk, 0, none⟩ = some (.pointer (some ⟨r, 0, none⟩)) := (((HT2.out.trans ht3).other HB.out (by simpa using hrb)).cell 0).trans rfl; have HR3 := Lib.hid hr3; have HT3 := Lib.hid ht3; clear hr3 ht3;
             have hG3 := Lib.hid (Got.more hG hm); obtain ⟨fn, tmps, assign, body, hy, hRo⟩ := HY.out xs 0 w3 ⟨_, hG3.out⟩ (hO _ _ _ HJ.out (HT2.out.trans HT3.out)); replace hy : (Instr.yield l #[.int .u8 0]).run Try.prog w3 = .ok (.round l fn tmps assign body) w3 := hy; have HRo := Lib.hid hRo; clear hRo))
        refine HRo.out.mono ?_
        rintro e W4 ⟨hk4, (⟨rfl, hJ4⟩ | ⟨rfl, hJ4⟩ | ⟨c, rfl, hJ4⟩)⟩
        · gi_wp2
          go_roundw
          case rel => exact ⟨_, _, hG3.out, hJ4, hk4.1.trans HR3.out, hk4.2.trans ((HT2.out.trans HT3.out).other HB.out (by simpa using hrb))⟩
          case measure => rw [Fresh.restLen (l := t) (hk4.1.trans HR3.out), Fresh.restLen hRm.out]; simp <;> omega
        · gi_wp2
          refine bodyPost_ret (results_none rfl _ _ _) rfl ?_
          exact .inl ⟨⟨_, rfl⟩, .inr ⟨_, ⟨_, hG3.out⟩, hJ4⟩⟩
        · exact ⟨rfl, Or.inr ⟨c, rfl, .inr ⟨_, hJ4⟩⟩⟩
      · have hp0 : ¬ [0, 0] <+: c :: t := by simp [List.cons_prefix_cons]; intro e; exact (hc e.symm).elim
        have hp1 : ¬ [0, 1] <+: c :: t := by simp [List.cons_prefix_cons]; intro e; exact (hc e.symm).elim
        have H1 := Lib.hid (skip_end_no (n - 1) (by omega) r (c :: t) wr hRa hp0)
        have H2 := Lib.hid fun W h => skip_esc_no (n - 1) (by omega) r (c :: t) W h hp1
        have H3 := Lib.hid fun W h => (literal_in (n - 1) (by omega) r (c :: t) (by omega) W h).mono (R' := fun e w' => e = .returned (.int .u8 (c.toNat : Int)) ∧ Rest w' r (bz t) ∧ Turned [r] W w') (by
          rintro e w' (⟨k, _⟩ | ⟨c, t, k, k2, hq⟩)
          · exact (hc (k c t rfl)).elim
          · cases k; exact hq)
        have hRm := Lib.hid hRa
        have HJ := Lib.hid hJ
        have HB := Lib.hid hBa
        have HY := Lib.hid hY
        clear hJ hBa hY h0 hR hB hRa
        gi_wp2_with (refine ⟨exi_of rfl, ?_⟩; first
          | (gi_at_call 87; with_reducible refine H1.out.mono ?_; rintro e w2 ⟨rfl, hr2, ht2⟩; have c2 : w2.cell? ⟨Bk, 0, none⟩ = some (.pointer (some ⟨r, 0, none⟩)) := ((ht2.other HB.out (by simpa using hrb)).cell 0).trans rfl; have HR2 := Lib.hid hr2; have HT2 := Lib.hid ht2; clear hr2 ht2)
          | (gi_at_call 87; with_reducible refine (H2.out _ HR2.out).mono ?_; rintro e w3 ⟨rfl, hr3, ht3⟩; have c3 : w3.cell? ⟨Bk, 0, none⟩ = some (.pointer (some ⟨r, 0, none⟩)) := (((HT2.out.trans ht3).other HB.out (by simpa using hrb)).cell 0).trans rfl; have HR3 := Lib.hid hr3; have HT3 := Lib.hid ht3; clear hr3 ht3)
          | (gi_at_call 88; with_reducible refine (H3.out _ HR3.out).mono ?_; rintro e w4 ⟨rfl, hr4, ht4⟩; have HR4 := Lib.hid hr4; have HT4 := Lib.hid ((HT2.out.trans HT3.out).trans ht4); clear hr4 ht4;
             have hG3 := Lib.hid (Got.more hG hm); obtain ⟨fn, tmps, assign, body, hy, hRo⟩ := HY.out xs c w4 ⟨_, hG3.out⟩ (hO _ _ _ HJ.out HT4.out); have HRo := Lib.hid hRo; clear hRo))
        refine HRo.out.mono ?_
        rintro e W5 ⟨hk4, (⟨rfl, hJ4⟩ | ⟨rfl, hJ4⟩ | ⟨c, rfl, hJ4⟩)⟩
        · gi_wp2
          go_roundw
          case rel => exact ⟨_, _, hG3.out, hJ4, hk4.1.trans HR4.out, hk4.2.trans (HT4.out.other HB.out (by simpa using hrb))⟩
          case measure => rw [Fresh.restLen (l := t) (hk4.1.trans HR4.out), Fresh.restLen hRm.out]; simp <;> omega
        · gi_wp2
          refine bodyPost_ret (results_none rfl _ _ _) rfl ?_
          exact .inl ⟨⟨_, rfl⟩, .inr ⟨_, ⟨_, hG3.out⟩, hJ4⟩⟩
        · exact ⟨rfl, Or.inr ⟨c, rfl, .inr ⟨_, hJ4⟩⟩⟩

theorem key_any (n : Nat) (r : Nat) (w : World) :
    CallsIn (Exi Try.prog) n Try.prog 85 #[.pointer (some ⟨r, 0, none⟩)] w fun e w' => e = .returned (.func (.func 86) #[] #[.pointer (some ⟨w.heap.size, 0, none⟩)]) ∧
      w' = w.alloc (.cells #[.pointer (some ⟨r, 0, none⟩)] 121) := by
  refine callsIn_of_wp Try.func85 rfl (exi_of rfl) ?_ rfl
  simp only [Try.ntmps85, List.size_toArray, List.length_cons, List.length_nil, Nat.reduceAdd, Nat.reduceSub, Array.replicate_succ, Array.replicate_zero, List.push_toArray, List.append_toArray, List.nil_append, List.cons_append]
  have hmf := @makeFunc_run Try.prog
  gi_wp2
  refine bodyPost_ret (v := .func (.func 86) #[] #[.pointer (some ⟨w.heap.size, 0, none⟩)]) (by simp [results, Try.results85, go_sem]) rfl ?_
  exact ⟨rfl, rfl⟩

/-- What the value of key() gives to a range over it. -/
theorem key_pan (n : Nat) (hn : 4 ≤ n) (r Bk : Nat) (hrb : Bk ≠ r) (l0 : List UInt8) (hl0 : l0.length ≤ 1000000) (w : World) (hR : Rest w r (bz l0)) (hB : Fresh w Bk #[.pointer (some ⟨r, 0, none⟩)] 121) :
    SeqPan (Exi Try.prog) n Try.prog 86 #[.pointer (some ⟨Bk, 0, none⟩)] (fun x : UInt8 => #[Value.int .u8 (x.toNat : Int)]) (KeepR r Bk) (Turned [r])
      (fun xs W' => ∃ l t, Got l0 xs l ∧ met l = .fin t ∧ Rest W' r (bz t)) (fun pre => ∃ l, Got l0 pre l) (fun pre => ∃ l, Got l0 pre l) (fun c pre => c = brk ∧ ∃ l, Got l0 pre l ∧ met l = .broken) w := fun l J Jx Jp W hb _ _ _ _ hO hY h0 =>
  key1_in n hn l r Bk hrb l0 hl0 J Jx Jp hO hY W h0 ((hb.block r hR.lt).trans hR) ((hb.block Bk hB.lt).trans hB)
end Go.Proofs.Ytfffifmpfkkgbaa.Cd

/- The walk of a reader's all. -/
namespace Go.Proofs.Ytfffifmpfkkgbaa.Cd
open Go.RowKit Go.Shelf
attribute [local go_sem] Oper.semAt_some exi_round
set_option maxRecDepth 100000
set_option maxHeartbeats 2000000

/-- What a text begins with: a key and what follows its code. -/
def parse (l : List UInt8) : Option (List UInt8 × List UInt8) := match h : met l with
  | .broken => none
  | .fin t => some ([], t)
  | .byte c t => (parse t).map fun p => (c :: p.1, p.2)
termination_by l.length
decreasing_by rcases met_byte h with ⟨_, rfl⟩ | ⟨_, rfl⟩ <;> simp <;> omega
theorem parse_broken {l : List UInt8} (h : met l = .broken) : parse l = none := by rw [parse]; split <;> simp_all
theorem parse_fin {l t : List UInt8} (h : met l = .fin t) : parse l = some ([], t) := by rw [parse]; split <;> simp_all
theorem parse_byte {l t : List UInt8} {c : UInt8} (h : met l = .byte c t) : parse l = (parse t).map fun p => (c :: p.1, p.2) := by rw [parse]; split <;> simp_all
theorem Got.parse {l0 xs l : List UInt8} (h : Got l0 xs l) : parse l0 = (Go.Proofs.Ytfffifmpfkkgbaa.Cd.parse l).map fun p => (xs ++ p.1, p.2) := by
  induction h with
  | start => simp
  | more _ hm ih =>
    rw [ih, parse_byte hm]
    cases Go.Proofs.Ytfffifmpfkkgbaa.Cd.parse _ <;> simp

/-- The key of a code. -/
def keyL (l : List UInt8) : Option (List UInt8) := match parse l with
  | some (xs, []) => if xs.length ≤ 16 then some xs else none
  | _ => none

theorem _root_.Go.Proofs.Ytfffifmpfkkgbaa.Turned.grownBy {r : Nat} {W W' : World} (h : Turned [r] W W') : W.grownBy W' (some r) :=
  ⟨h.os, h.tape, h.output, h.size, fun k hk hn => h.block k hk (by simpa using fun e => hn (by rw [e]))⟩

theorem own_grown {W W' : World} {row : Option Nat} {base : Nat} {e : TypeId} {size : Nat} {v : Value} {n : Nat} {xs : List Value} (h : W.ownsRow base e size v n xs) (hg : W.grownBy W' row)
    (hr : ∀ r, row = some r → ∃ o : Obj, W.heap[r]? = some o ∧ o.isCells = false) : W'.ownsRow base e size v n xs := by
  refine h.kept hg ?_
  rcases h.2 with ⟨h1, _⟩ | ⟨g', cap, cur, h1, _, hgb, _⟩
  · exact .inl (by rw [h1]; rfl)
  · refine .inr fun e => ?_
    rw [h1] at e
    obtain ⟨o, ho, hc⟩ := hr g' e.symm
    rw [hgb] at ho; cases ho; cases hc
theorem own_turned {W W' : World} {r : Nat} {base : Nat} {e : TypeId} {size : Nat} {v : Value} {n : Nat} {xs : List Value} (h : W.ownsRow base e size v n xs) (k : Turned [r] W W') (hr : r < base) : W'.ownsRow base e size v n xs := by
  refine h.kept k.grownBy ?_
  rcases h.2 with ⟨h1, _⟩ | ⟨g', cap, cur, h1, hb, hgb, _⟩
  · exact .inl (by rw [h1]; rfl)
  · refine .inr fun e => ?_
    rw [h1] at e
    have : g' = r := by simpa [Value.ownBlock] using e
    omega

theorem _root_.Go.Proofs.Ytfffifmpfkkgbaa.Turned.putHigh {S : List Nat} {w W : World} (h : Turned S w W) {D : Nat} (hD : w.heap.size ≤ D) (o : Obj) : Turned S w (W.putObj D o) :=
  ⟨h.os, h.tape, h.output, by simpa using h.size, fun k hk hn => (World.putObj_heap_other (by omega)).trans (h.block k hk hn)⟩

theorem own_slice {W : World} {base : Nat} {e : TypeId} {size : Nat} {v : Value} {n : Nat} {xs : List Value} (h : W.ownsRow base e size v n xs) : ∃ ad cp, v = .slice ad n cp := by
  rcases h.2 with ⟨e, k⟩ | ⟨g, cap, cur, e, _⟩
  · exact ⟨_, _, by rw [e, k]⟩
  · exact ⟨_, _, e⟩

structure Key (r B base : Nat) (w0 : World) (pre : List UInt8) (v : Value) (W : World) : Prop where
  box : Boxed W B 122 v
  own : W.ownsRow base 5 1 v pre.length (byteVals pre)
  turned : Turned [r] w0 W
  bk : Fresh W (B + 1) #[.pointer (some ⟨r, 0, none⟩)] 121

def outOf (l0 : List UInt8) : Ending := match keyL l0 with
  | some xs => .returned (.string (bz xs))
  | none => .panicked brk

theorem news_cells (W : World) (x : UInt8) : ∀ j u, (byteVals [x])[j]? = some u → (W.alloc (.cells #[.int .u8 (x.toNat : Int)] 5)).cell? ((⟨W.heap.size, 0, none⟩ : Addr).add j) = some u := by
  intro j u hu
  rw [Addr.add_lit, Nat.zero_add, World.cell?_alloc_new]
  cases j with
  | zero => simpa [byteVals] using hu
  | succ j => simp [byteVals] at hu

theorem bytes_string {base : Nat} {v : Value} {xs : List UInt8} {w : World} (h : w.ownsRow base 5 1 v xs.length (byteVals xs)) :
    (convert 122 9 v).run Try.prog w = .ok (.string (bz xs)) w := by
  rcases h.2 with ⟨h1, h2⟩ | ⟨g, cap, cur, h1, hb, hgb, _⟩
  · obtain rfl : xs = [] := by simpa using h2
    subst h1
    kernel_rfl
  · subst h1
    rw [run_convert_bytes_string _ 122 9 5 _ _ _ Try.underlying122 Try.underlying5 Try.underlying9]
    have hl := run_loadCells_list (P := Try.prog) (w := w) ⟨g, 0, none⟩ (byteVals xs) (fun j v hv => by
      rw [Addr.add_lit, Nat.zero_add, h.cellAt j (by have := (List.getElem?_eq_some_iff.1 hv).1; rw [byteVals_length] at this; omega)]
      exact hv)
    rw [byteVals_length] at hl
    rw [run_bytesToString _ _ _ _ (xs.map fun c => (c.toNat : Int)) (by rw [hl]; simp [byteVals, Function.comp_def])]
    rw [foldl_push]
    congr 2

theorem _root_.Go.Proofs.Ytfffifmpfkkgbaa.Fresh.not_row {W : World} {p r base : Nat} (h : Fresh W p #[.pointer (some ⟨r, 0, none⟩)] 121) {v : Value} {n : Nat} {xs : List Value} (k : W.ownsRow base 5 1 v n xs) : some p ≠ v.ownBlock :=
  Boxed.not_row (show Boxed W p 121 (.pointer (some ⟨r, 0, none⟩)) from h) (by decide) k
theorem _root_.Go.Proofs.Ytfffifmpfkkgbaa.Turned.step {S : List Nat} {w W W' : World} (h : Turned S w W) (hb : Below w.heap.size W W') : Turned S w W' :=
  ⟨hb.os.trans h.os, hb.tape.trans h.tape, hb.output.trans h.output, Nat.le_trans h.size hb.size, fun k hk hn => (hb.block k hk).trans (h.block k hk hn)⟩

theorem Key.ne' {r B base : Nat} {w0 : World} {pre : List UInt8} {v : Value} {W : World} (h : Key r B base w0 pre v W) : some B ≠ v.ownBlock := h.box.not_row (by decide) h.own

theorem all_in (n : Nat) (hn : 6 ≤ n) (r : Nat) (l0 : List UInt8) (hl0 : l0.length ≤ 1000000) (w : World) (hR : Rest w r (bz l0)) :
    CallsIn (Exi Try.prog) n Try.prog 83 #[.pointer (some ⟨r, 0, none⟩)] w fun e w' => e = outOf l0 ∧ Turned [r] w w' := by
  have h1 : 1 ≤ n := by omega
  obtain ⟨i0, hi, hz0, hz1, hz2⟩ := info_parts infoB
  refine callsIn_of_wp_marks Try.func83 rfl (exi_of rfl) ?_ rfl
  simp only [Try.ntmps83, List.size_toArray, List.length_cons, List.length_nil, Nat.reduceAdd, Nat.reduceSub, Array.replicate_succ, Array.replicate_zero, List.push_toArray, List.append_toArray, List.nil_append, List.cons_append]
  gi_wp2_with (refine ⟨exi_of rfl, ?_⟩; gi_at_call 85; with_reducible refine (key_any _ _ _).mono ?_; rintro e w2 ⟨rfl, hw2⟩)
  subst hw2
  obtain ⟨WL, hWL⟩ : ∃ WL, WL = (w.alloc (.cells #[.slice none 0 0] 122)).alloc (.cells #[.pointer (some ⟨r, 0, none⟩)] 121) := ⟨_, rfl⟩
  rw [← hWL]
  have sL : WL.heap.size = w.heap.size + 2 := by rw [hWL]; simp
  have hr := hR.lt
  have hTL : Turned [r] w WL := by rw [hWL]; exact ((Turned.refl _ _).alloc _).alloc _
  have hRL : Rest WL r (bz l0) := by rw [hWL]; exact (hR.alloc _).alloc _
  have hBL : Fresh WL (w.heap.size + 1) #[.pointer (some ⟨r, 0, none⟩)] 121 := by rw [hWL]; exact Fresh.new _ _ _ _ (by simp)
  have hXL : Boxed WL w.heap.size 122 (.slice none 0 0) := by rw [hWL]; exact (Boxed.new w _ _).alloc _
  clear hWL
  refine range_pan rfl h1 (fun f h => exi_fn h) (gf := 86) (lb := #[.pointer (some ⟨w.heap.size + 1, 0, none⟩)]) rfl (exi_of rfl) (enters_of Try.func86 (by kernel_rfl) rfl)
    (key_pan (n - 1) (by omega) r (w.heap.size + 1) (by omega) l0 hl0 WL hRL hBL) ?hO ?hS ?hKt ?hKb (Below.refl _ _) (fun _ => rfl)
    (fun pre W => ∃ v, Key r w.heap.size w.heap.size w pre v W ∧ pre.length ≤ 16) (fun _ _ _ => False)
    (fun c pre W => c = brk ∧ (∃ l, Got l0 pre l) ∧ 16 < pre.length ∧ Turned [r] w W) ?hI (fun _ _ _ _ _ h _ _ => h) ?hIp ?hIO ?h0
    (fun x => { tmps := #[.pointer (some ⟨r, 0, none⟩), undef, .string ⟨#[]⟩, .pointer (some ⟨w.heap.size, 0, none⟩), .int .u8 (x.toNat : Int), .pointer (some ⟨r, 0, none⟩), .func (.func 86) #[] #[.pointer (some ⟨w.heap.size + 1, 0, none⟩)], .int .u8 (x.toNat : Int), undef, undef, undef, undef, undef, undef, undef, undef, undef, undef, undef, undef, undef, undef, undef, undef, undef, undef, undef], defers := [] })
    ?assign ?body ?done ?stop ?ownp ?inner
  case hO =>
    rintro X Y h k hk hx
    exact h.block k hx (by simp; omega)
  case hS =>
    rintro xs W W' row ⟨l, t, h2, h3, h4⟩ hg hr'
    exact ⟨l, t, h2, h3, h4.kept hg (fun r e => (hr' r e).2)⟩
  case hKt => exact fun h k => ⟨k.1.trans h.1, k.2.trans h.2⟩
  case hKb => exact fun W o' hs => ⟨World.putObj_heap_other (by omega), World.putObj_heap_other (by omega)⟩
  case hI =>
    rintro pre W W' row ⟨v, h2, h3⟩ hg hr'
    exact ⟨v, ⟨boxed_grown h2.box hg (fun r e => (hr' r e).2), own_grown h2.own hg (fun r e => (hr' r e).2), h2.turned.kept hg (fun r e => by have := (hr' r e).1; omega), h2.bk.kept hg (fun r e => (hr' r e).2)⟩, h3⟩
  case hIp =>
    rintro c pre W W' row ⟨h2, h3, h4, h5⟩ hg hr'
    exact ⟨h2, h3, h4, h5.kept hg (fun r e => by have := (hr' r e).1; omega)⟩
  case hIO =>
    rintro pre X Y ⟨v, h2, h3⟩ h4
    exact ⟨v, ⟨(h4.block _ h2.box.lt (by simp; omega)).trans h2.box, own_turned h2.own h4 hr, h2.turned.trans h4, h4.other h2.bk (by simp; omega)⟩, h3⟩
  case h0 => exact ⟨_, ⟨hXL, ⟨rfl, .inl ⟨rfl, rfl⟩⟩, hTL, hBL⟩, by simp⟩
  case assign =>
    intro l x W K hK
    gi_wp2
    exact hK
  case body =>
    rintro l pre x W ⟨la, hG⟩ ⟨v, hK, hlen⟩ hsz
    obtain ⟨ad, cp, hv⟩ := own_slice hK.own
    subst hv
    have hbc := hK.box.cell
    have HK := Lib.hid hK
    clear hK hRL hBL hXL hTL hR
    by_cases hf : pre.length = 16
    · have q1 : ((pre.length : Int) == 16) = true := by rw [hf]; rfl
      gi_wp2
      exact ⟨.refl _ _, ⟨rfl, rfl⟩, rfl, rfl, ⟨la, hG⟩, by simp [hf], HK.out.turned⟩
    · have q1 : ((pre.length : Int) == 16) = false := by rw [beq_eq_false_iff_ne]; omega
      have HF := Lib.hid hf
      clear hf
      gi_wp2_with (gi_at_builtin; refine wpListIn_append_own _ rfl (.tmp 13) (.tmp 15) 122 rfl w.heap.size 5 i0 (.int .u8 0) 1 1 Try.underlying122 hi hz0 hz1 hz2 rfl (by omega) _ pre.length (byteVals pre) rfl (HK.out.own.alloc _) ⟨W.heap.size, 0, none⟩ 1 1 (byteVals [x]) rfl rfl (news_cells W x) (byteVals_one _) (by unfold maxLen; omega) (by omega) (by simp; omega) ?_; intro v' w' hown hg' _; obtain ⟨ad', cp', hv'⟩ := own_slice hown; subst hv'; have hb' := (HK.out.box.alloc (.cells #[.int .u8 (x.toNat : Int)] 5)).kept hg' (HK.out.ne'); have hbc' := hb'.cell; have hbf' := hb'.frozen; have HB' := Lib.hid hb'; have HO' := Lib.hid hown; have HG' := Lib.hid hg'; clear hb' hown hg')
      obtain ⟨p1, p2, p3, p4, p5⟩ := Boxed.appended HK.out.box (by decide) HK.out.own HK.out.turned.size (Nat.le_refl _) HO'.out HG'.out
      have pk : Fresh (w'.setCell ⟨w.heap.size, 0, none⟩ (.slice ad' (pre.length + 1) cp')) (w.heap.size + 1) #[.pointer (some ⟨r, 0, none⟩)] 121 := by
        refine Fresh.other ?_ (by omega) 0 _
        refine (HG'.out.block _ (HK.out.bk.alloc _).lt ?_).trans (HK.out.bk.alloc _)
        exact HK.out.bk.not_row HK.out.own
      refine ⟨p4.from _, ⟨p5.block r hr, pk.trans HK.out.bk.symm⟩, ?_⟩
      refine ⟨_, ⟨p2, ?_, HK.out.turned.step p5, pk⟩, by have := HF.out; simp; omega⟩
      rw [List.length_append, byteVals_append]
      exact p3
  case done =>
    rintro D xs W hD ⟨l, t, hG, hm, hRW⟩ ⟨v, hK, hlen⟩ hd
    have hbc := hK.box.cell
    have hrc : W.cell? ⟨r, 0, none⟩ = some (.string (bz t)) := (hRW.cell 0).trans rfl
    have HK := Lib.hid hK
    have HD := Lib.hid hd
    have HDD := Lib.hid hD
    have HS := Lib.hid sL
    clear hd hK hRL hBL hXL hTL hR hRW hD sL
    cases t with
    | nil =>
      have hcv : (convert 122 9 v).run Try.prog W = .ok (.string (bz xs)) W := bytes_string HK.out.own
      simp only [Exit.inBlock, Exit.then]
      go_at_K
      gi_wp2
      refine ⟨by simp, .inl ⟨D, _, rfl, run_takeDeferred HD.out, ?_⟩⟩
      refine ⟨.string (bz xs), ?_, ?_, HK.out.turned.putHigh (by have := HS.out; have := HDD.out; omega) _⟩
      · simp [results, Try.f83, go_sem]
      · rw [outOf, keyL, hG.parse, parse_fin hm]; simp [hlen]
    | cons c t =>
      have q1 : (bz (c :: t)).toList.isEmpty = false := by rw [ByteArray.toList_eq]; rfl
      simp only [Exit.inBlock, Exit.then]
      go_at_K
      gi_wp2
      refine ⟨by simp, .inl ⟨D, _, rfl, run_takeDeferred HD.out, ?_⟩⟩
      refine ⟨?_, HK.out.turned.putHigh (by have := HS.out; have := HDD.out; omega) _⟩
      rw [outOf, keyL, hG.parse, parse_fin hm]; rfl
  case stop => exact fun D c pre W _ _ h _ => h.elim
  case ownp =>
    rintro D c pre W hD ⟨hc, l, hG, hm⟩ ⟨v, hK, hlen⟩ hd
    refine (fun h => h : LeavesInM _ _ _ _ _ _ _ _ _ → _) ⟨by simp, .inl ⟨D, _, rfl, run_takeDeferred hd, ?_⟩⟩
    refine ⟨?_, hK.turned.putHigh (by omega) _⟩
    rw [hc, outOf, keyL, hG.parse, parse_broken hm]; rfl
  case inner =>
    rintro D c pre W hD ⟨hc, ⟨l, hG⟩, hlen, hK⟩ hd
    refine (fun h => h : LeavesInM _ _ _ _ _ _ _ _ _ → _) ⟨by simp, .inl ⟨D, _, rfl, run_takeDeferred hd, ?_⟩⟩
    refine ⟨?_, hK.putHigh (by omega) _⟩
    rw [hc, outOf, keyL, hG.parse]
    rcases parse l with _ | ⟨ys, _ | ⟨c, t⟩⟩ <;> simp
    rw [if_neg (by omega)]
end Go.Proofs.Ytfffifmpfkkgbaa.Cd

/- The walk of Decode. -/
namespace Go.Proofs.Ytfffifmpfkkgbaa.Cd
open Go.RowKit Go.Shelf
set_option maxRecDepth 100000
set_option maxHeartbeats 2000000

theorem catch_panicking (a b : Nat) (x y : Value) (s t : TypeId) (w : World) (ha : Fresh w a #[x] s) (hb : Fresh w b #[y] t) (hab : a ≠ b) :
    CallsD Try.prog 82 #[.pointer (some ⟨a, 0, none⟩), .pointer (some ⟨b, 0, none⟩)] (.panicking brk) w fun e u' w' =>
      e = .returned (.tuple #[]) ∧ (∃ pv, u' = .panicking [{ v := .iface 127 pv, recovered := true }]) ∧ w' = (w.setCell ⟨a, 0, none⟩ (.string ⟨#[]⟩)).setCell ⟨b, 0, none⟩ (.int .i64 4) := by
  have c1 : w.cell? ⟨a, 0, none⟩ = some x := (ha.cell 0).trans rfl
  have c2 := ha.thawed 0
  have hb' := hb.other (q := a) (Ne.symm hab) 0 (.string ⟨#[]⟩)
  have c3 : (w.setCell ⟨a, 0, none⟩ (.string ⟨#[]⟩)).cell? ⟨b, 0, none⟩ = some y := (hb'.cell 0).trans rfl
  have c4 := hb'.thawed 0
  refine callsD_of_wpS Try.func82 rfl fun c₀ cs hu => ?_
  apply wpS_seq
  apply wpS_region
  simp [wpOpsS, go_sem, recoverD, hu, Try.ntmps82, Exit.thenS, brk]
  refine wpS_cond (t := true) (by simp [Act.eval, Array.replicate]) ?_
  simp only [if_true]
  apply wpS_region
  simp [wpOpsS, go_sem, c1, c2, c3, c4, bodyPostS, results, Try.results82]

theorem catch_idle (a b : Nat) (w : World) :
    CallsD Try.prog 82 #[.pointer (some ⟨a, 0, none⟩), .pointer (some ⟨b, 0, none⟩)] .returning w fun e u' w' => e = .returned (.tuple #[]) ∧ u' = .returning ∧ w' = w := by
  refine callsD_of_wpS Try.func82 rfl fun c₀ cs hu => ?_
  apply wpS_seq
  apply wpS_region
  simp [wpOpsS, go_sem, recoverD, hu, Try.ntmps82, Exit.thenS]
  refine wpS_cond (t := false) (by simp [Act.eval, Array.replicate]) ?_
  simp only [Bool.false_eq_true, if_false]
  refine wpS_of_wp (wp_skip ?_)
  cases c₀
  simp_all [bodyPostS, results, Try.results82]

def decOf (l : List UInt8) : Value := match keyL l with
  | some xs => .tuple #[.string (bz xs), .int .i64 0]
  | none => .tuple #[.string ⟨#[]⟩, .int .i64 4]

theorem decode_in (l : List UInt8) (hl : l.length ≤ 1000000) (w : World) :
    Calls Try.prog 79 #[.string (bz l)] w fun e w' => e = .returned (decOf l) ∧ Below w.heap.size w w' := by
  have hmf := @makeFunc_run Try.prog
  go_enter_defers Try.func79, Try.ntmps79
  go_wp2_with fail
  obtain ⟨W3, hW3⟩ : ∃ W3, W3 = ((w.alloc (.cells #[.string ⟨#[]⟩] 9)).alloc (.cells #[.int .i64 0] 56)).alloc (.cells #[.string (bz l)] 118) := ⟨_, rfl⟩
  rw [← hW3]
  have hR : Rest W3 (w.heap.size + 1 + 1) (bz l) := by rw [hW3]; exact Fresh.new _ _ _ _ (by simp)
  have hA : Fresh W3 w.heap.size #[.string ⟨#[]⟩] 9 := by rw [hW3]; exact ((Fresh.new _ _ _ _ rfl).alloc _).alloc _
  have hB : Fresh W3 (w.heap.size + 1) #[.int .i64 0] 56 := by rw [hW3]; exact (Fresh.new _ _ _ _ (by simp)).alloc _
  have hL : Below w.heap.size w W3 := by rw [hW3]; exact (((Below.refl _ w).alloc (Nat.le_refl _) _).alloc (by simp) _).alloc (by simp; omega) _
  have hs : W3.heap.size = w.heap.size + 3 := by rw [hW3]; simp
  clear hW3
  refine (calls_of_exi (all_in 6 (by omega) _ l hl W3 hR)).mono ?_
  rintro e w4 ⟨he, ht⟩
  have hA4 := ht.other hA (by simp; omega)
  have hB4 := ht.other hB (by simp)
  have hL4 : Below w.heap.size w w4 := ht.below hL (by simp; omega) (by omega)
  clear ht hA hB hL hR hs
  cases hk : keyL l with
  | some xs =>
    obtain rfl : e = .returned (.string (bz xs)) := by rw [he, outOf, hk]
    have hd : decOf l = .tuple #[.string (bz xs), .int .i64 0] := by rw [decOf, hk]
    have HD := Lib.hid hd
    clear he hk hd
    have c1 : w4.cell? ⟨w.heap.size, 0, none⟩ = some (.string ⟨#[]⟩) := (hA4.cell 0).trans rfl
    have c2 := hA4.thawed 0
    have hb5 := hB4.other (q := w.heap.size) (by omega) 0 (.string (bz xs))
    have c3 : (w4.setCell ⟨w.heap.size, 0, none⟩ (.string (bz xs))).cell? ⟨w.heap.size + 1, 0, none⟩ = some (.int .i64 0) := (hb5.cell 0).trans rfl
    have c4 := hb5.thawed 0
    have HA := Lib.hid hA4
    have HB := Lib.hid hB4
    have HL := Lib.hid hL4
    clear hA4 hB4 hL4 hb5
    go_wp2
    refine leaves_cons (f := 82) (args := #[.pointer (some ⟨w.heap.size, 0, none⟩), .pointer (some ⟨w.heap.size + 1, 0, none⟩)]) (by simp) (by simp [go_sem]) ?_
    refine (catch_idle w.heap.size (w.heap.size + 1) _).mono ?_
    rintro e u' w'' ⟨rfl, rfl, rfl⟩
    have e1 : Fresh ((w4.setCell ⟨w.heap.size, 0, none⟩ (.string (bz xs))).setCell ⟨w.heap.size + 1, 0, none⟩ (.int .i64 0)) w.heap.size #[.string (bz xs)] 9 := (HA.out.set 0 _).other (by omega) 0 _
    have e2 : Fresh ((w4.setCell ⟨w.heap.size, 0, none⟩ (.string (bz xs))).setCell ⟨w.heap.size + 1, 0, none⟩ (.int .i64 0)) (w.heap.size + 1) #[.int .i64 0] 56 := (HB.out.other (by omega) 0 _).set 0 _
    have e3 : Below w.heap.size w ((w4.setCell ⟨w.heap.size, 0, none⟩ (.string (bz xs))).setCell ⟨w.heap.size + 1, 0, none⟩ (.int .i64 0)) := (HL.out.setCell (p := ⟨w.heap.size, 0, none⟩) (Nat.le_refl _) _).setCell (p := ⟨w.heap.size + 1, 0, none⟩) (by simp) _
    obtain ⟨W5, hW5⟩ : ∃ W5, (w4.setCell ⟨w.heap.size, 0, none⟩ (.string (bz xs))).setCell ⟨w.heap.size + 1, 0, none⟩ (.int .i64 0) = W5 := ⟨_, rfl⟩
    rw [hW5] at e1 e2 e3 ⊢
    have f1 : W5.cell? ⟨w.heap.size, 0, none⟩ = some (.string (bz xs)) := (e1.cell 0).trans rfl
    have f2 : W5.cell? ⟨w.heap.size + 1, 0, none⟩ = some (.int .i64 0) := (e2.cell 0).trans rfl
    refine ⟨.tuple #[.string (bz xs), .int .i64 0], ?_, ?_, e3⟩
    · simp [results, Try.results79, go_sem, f1, f2]
    · rw [HD.out]
  | none =>
    obtain rfl : e = .panicked brk := by rw [he, outOf, hk]
    have hd : decOf l = .tuple #[.string ⟨#[]⟩, .int .i64 4] := by rw [decOf, hk]
    have HD := Lib.hid hd
    clear he hk hd
    go_wp2
    refine leaves_cons (f := 82) (args := #[.pointer (some ⟨w.heap.size, 0, none⟩), .pointer (some ⟨w.heap.size + 1, 0, none⟩)]) (by simp) (by simp [go_sem]) ?_
    refine (catch_panicking w.heap.size (w.heap.size + 1) _ _ _ _ _ hA4 hB4 (by omega)).mono ?_
    rintro e u' w'' ⟨rfl, ⟨pv, rfl⟩, rfl⟩
    have e1 : Fresh ((w4.setCell ⟨w.heap.size, 0, none⟩ (.string ⟨#[]⟩)).setCell ⟨w.heap.size + 1, 0, none⟩ (.int .i64 4)) w.heap.size #[.string ⟨#[]⟩] 9 := (hA4.set 0 _).other (by omega) 0 _
    have e2 : Fresh ((w4.setCell ⟨w.heap.size, 0, none⟩ (.string ⟨#[]⟩)).setCell ⟨w.heap.size + 1, 0, none⟩ (.int .i64 4)) (w.heap.size + 1) #[.int .i64 4] 56 := (hB4.other (by omega) 0 _).set 0 _
    have e3 : Below w.heap.size w ((w4.setCell ⟨w.heap.size, 0, none⟩ (.string ⟨#[]⟩)).setCell ⟨w.heap.size + 1, 0, none⟩ (.int .i64 4)) := (hL4.setCell (p := ⟨w.heap.size, 0, none⟩) (Nat.le_refl _) _).setCell (p := ⟨w.heap.size + 1, 0, none⟩) (by simp) _
    obtain ⟨W5, hW5⟩ : ∃ W5, (w4.setCell ⟨w.heap.size, 0, none⟩ (.string ⟨#[]⟩)).setCell ⟨w.heap.size + 1, 0, none⟩ (.int .i64 4) = W5 := ⟨_, rfl⟩
    rw [hW5] at e1 e2 e3 ⊢
    have f1 : W5.cell? ⟨w.heap.size, 0, none⟩ = some (.string ⟨#[]⟩) := (e1.cell 0).trans rfl
    have f2 : W5.cell? ⟨w.heap.size + 1, 0, none⟩ = some (.int .i64 4) := (e2.cell 0).trans rfl
    refine ⟨.tuple #[.string ⟨#[]⟩, .int .i64 4], ?_, ?_, e3⟩
    · simp [results, Try.results79, go_sem, f1, f2]
    · rw [HD.out]
end Go.Proofs.Ytfffifmpfkkgbaa.Cd

/- Codes and keys. -/
namespace Go.Proofs.Ytfffifmpfkkgbaa.Cd
open Go.RowKit Go.Shelf

theorem parse_code : ∀ (k t : List UInt8), parse (encB k ++ 0 :: 0 :: t) = some (k, t)
  | [], t => parse_fin (l := 0 :: 0 :: t) rfl
  | c :: k, t => by
    by_cases hc : c = 0
    · subst hc
      have h : encB (0 :: k) ++ 0 :: 0 :: t = 0 :: 1 :: (encB k ++ 0 :: 0 :: t) := by simp [encB]
      rw [h, parse_byte (c := 0) (t := encB k ++ 0 :: 0 :: t) rfl, parse_code k t]
      rfl
    · have h : encB (c :: k) ++ 0 :: 0 :: t = c :: (encB k ++ 0 :: 0 :: t) := by simp [encB, hc]
      rw [h, parse_byte (c := c) (t := encB k ++ 0 :: 0 :: t) (by simp [met, hc]), parse_code k t]
      rfl
theorem code_parse (n : Nat) : ∀ (l k t : List UInt8), l.length ≤ n → parse l = some (k, t) → l = encB k ++ 0 :: 0 :: t := by
  induction n with
  | zero =>
    intro l k t h hp
    obtain rfl : l = [] := by cases l <;> simp_all
    rw [parse_broken rfl] at hp
    cases hp
  | succ n ih =>
    intro l k t h hp
    cases hm : met l with
    | broken => rw [parse_broken hm] at hp; cases hp
    | fin u =>
      rw [parse_fin hm] at hp
      cases hp
      exact met_fin hm
    | byte c u =>
      rw [parse_byte hm] at hp
      cases hq : parse u with
      | none => rw [hq] at hp; cases hp
      | some p =>
        obtain ⟨k', t'⟩ := p
        rw [hq] at hp
        cases hp
        have hu : u.length ≤ n := by rcases met_byte hm with ⟨_, rfl⟩ | ⟨_, rfl⟩ <;> simp at h <;> omega
        have := ih u k' t' hu hq
        rcases met_byte hm with ⟨rfl, rfl⟩ | ⟨hc, rfl⟩
        · rw [this]; simp [encB]
        · rw [this]; simp [encB, hc]
theorem keyL_code {k : List UInt8} (h : k.length ≤ 16) : keyL (encB k ++ [0, 0]) = some k := by
  rw [keyL, parse_code k []]
  simp [h]
theorem keyL_some {l k : List UInt8} (h : keyL l = some k) : l = encB k ++ [0, 0] ∧ k.length ≤ 16 := by
  unfold keyL at h
  split at h
  case h_1 k' hp =>
    split at h
    case isTrue h2 => cases h; exact ⟨code_parse _ _ _ _ (Nat.le_refl _) hp, h2⟩
    case isFalse => cases h
  case h_2 => cases h
theorem bz_list (s : ByteArray) : bz s.data.toList = s := bytes_ext rfl
theorem codeOf_bz (s : ByteArray) : codeOf s = bz (encB s.data.toList ++ [0, 0]) := rfl

theorem keyL_a : keyL [97] = none := by rw [keyL, parse_byte (c := 97) (t := []) rfl, parse_broken rfl]; rfl
theorem keyL_b : keyL [97, 0] = none := by rw [keyL, parse_byte (c := 97) (t := [0]) rfl, parse_broken rfl]; rfl
theorem keyL_c : keyL [97, 0, 2] = none := by rw [keyL, parse_byte (c := 97) (t := [0, 2]) rfl, parse_broken rfl]; rfl
theorem keyL_d : keyL [0, 0, 0] = none := by rw [keyL, parse_fin (t := [0]) rfl]

set_option maxRecDepth 100000
set_option maxHeartbeats 2000000
/-- Whether a text is a code. -/
def isCode (l : List UInt8) : Bool := (keyL l).isSome
theorem decodeD_any (s : ByteArray) (hs : s.size ≤ 1000000) (w : World) :
    Calls Try.prog 71 #[.string s] w fun e w' => e = .returned (.tuple #[.string (bz ((keyL s.data.toList).getD [])), .int .i64 (if isCode s.data.toList = true then 0 else 4)]) ∧ Below w.heap.size w w' := by
  have H := Lib.hid (decode_in s.data.toList (by rw [length_list]; exact hs))
  have H : Hid (∀ W : World, Calls Try.prog 79 #[.string s] W fun e w' => e = .returned (.tuple #[.string (bz ((keyL s.data.toList).getD [])), .int .i64 (if isCode s.data.toList = true then 0 else 4)]) ∧ Below W.heap.size W w') := Lib.hid fun W => by
    refine (bz_list s ▸ H.out W).mono ?_
    rintro e w' ⟨rfl, hb⟩
    refine ⟨?_, hb⟩
    rw [decOf, isCode]
    cases keyL s.data.toList <;> rfl
  obtain ⟨x, hx⟩ : ∃ x, bz ((keyL s.data.toList).getD []) = x := ⟨_, rfl⟩
  obtain ⟨y, hy⟩ : ∃ y : Int, (if isCode s.data.toList = true then 0 else 4) = y := ⟨_, rfl⟩
  rw [hx, hy] at H ⊢
  go_enter Try.func71, Try.ntmps71
  go_wp2_with (go_at_call 79; refine (H.out _).mono ?_; rintro e w1 ⟨rfl, hb1⟩)
  go_ret2
  exact ⟨rfl, hb1⟩
theorem is_any (s : ByteArray) (hs : s.size ≤ 1000000) (w : World) :
    Calls Try.prog 60 #[.string s] w fun e w' => e = .returned (.bool (isCode s.data.toList)) ∧ Below w.heap.size w w' := by
  have H := Lib.hid (decodeD_any s hs)
  cases hq : isCode s.data.toList
  · rw [hq] at H
    simp only [Bool.false_eq_true, if_false] at H
    go_enter Try.func60, Try.ntmps60
    go_wp2_with (go_at_call 71; refine (H.out _).mono ?_; rintro e w1 ⟨rfl, hb1⟩)
    go_ret
    exact ⟨rfl, hb1⟩
  · rw [hq] at H
    simp only [if_pos] at H
    go_enter Try.func60, Try.ntmps60
    go_wp2_with (go_at_call 71; refine (H.out _).mono ?_; rintro e w1 ⟨rfl, hb1⟩)
    go_ret
    exact ⟨rfl, hb1⟩
end Go.Proofs.Ytfffifmpfkkgbaa.Cd
