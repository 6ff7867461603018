/- The closure that writes bytes to the code. -/
import Derived.Test.YthkndfammlibpaaEach
import Derived.OwnWalk
import Derived.Maps.AppendAt
namespace Go.Proofs.Ythkndfammlibpaa
open Go.RowKit
set_option maxRecDepth 100000
set_option maxHeartbeats 1000000

theorem infoB : (Try.prog.info? 5).map (fun i => (i.zero, i.size, i.bytes)) = some (some (.int .u8 0), 1, 1) := by kernel_rfl

def byteVals (xs : List UInt8) : List Value := xs.map fun c => Value.int .u8 (c.toNat : Int)
theorem byteVals_one (xs : List UInt8) : ∀ u ∈ byteVals xs, u.oneCell' = true := by
  intro u hu
  obtain ⟨s, _, rfl⟩ := List.mem_map.1 hu
  rfl
theorem byteVals_length (xs : List UInt8) : (byteVals xs).length = xs.length := by simp [byteVals]
theorem byteVals_append (xs ys : List UInt8) : byteVals (xs ++ ys) = byteVals xs ++ byteVals ys := by simp [byteVals]

/-- The code under way: its variable's box, and the row that it owns. -/
structure Coding (base Bc g : Nat) (xs : List UInt8) (w : World) : Prop where
  box : Boxed w Bc 29 (.slice (some ⟨g, 0, none⟩) xs.length 34)
  own : w.ownsRow base 5 1 (.slice (some ⟨g, 0, none⟩) xs.length 34) xs.length (byteVals xs)

/-- All but two blocks are as they were. -/
structure Kept2 (g Bc : Nat) (w w' : World) : Prop where
  os : w'.os = w.os
  tape : w'.tape = w.tape
  output : w'.output = w.output
  size : w.heap.size ≤ w'.heap.size
  block : ∀ k, k < w.heap.size → k ≠ g → k ≠ Bc → w'.heap[k]? = w.heap[k]?
theorem Kept2.refl (g Bc : Nat) (w : World) : Kept2 g Bc w w := ⟨rfl, rfl, rfl, Nat.le_refl _, fun _ _ _ _ => rfl⟩
theorem Kept2.trans {g Bc : Nat} {a b c : World} (h : Kept2 g Bc a b) (k : Kept2 g Bc b c) : Kept2 g Bc a c :=
  ⟨k.os.trans h.os, k.tape.trans h.tape, k.output.trans h.output, Nat.le_trans h.size k.size, fun i hi h1 h2 => (k.block i (Nat.lt_of_lt_of_le hi h.size) h1 h2).trans (h.block i hi h1 h2)⟩
theorem Kept2.alloc (g Bc : Nat) (w : World) (o : Obj) : Kept2 g Bc w (w.alloc o) := ⟨rfl, rfl, rfl, by simp, fun k hk _ _ => Below.heap_alloc _ _ _ hk⟩
theorem Kept2.below {g Bc B : Nat} {w w' : World} (h : Kept2 g Bc w w') (hg : B ≤ g) (hc : B ≤ Bc) (hB : B ≤ w.heap.size) : Below B w w' :=
  ⟨h.os, h.tape, h.output, h.size, fun k hk => h.block k (by omega) (by omega) (by omega)⟩
theorem Kept2.boxed {g Bc : Nat} {w w' : World} {B : Nat} {t : TypeId} {v : Value} (h : Kept2 g Bc w w') (hb : Boxed w B t v) (h1 : B ≠ g) (h2 : B ≠ Bc) : Boxed w' B t v := (h.block B hb.lt h1 h2).trans hb

theorem Coding.ne {base Bc g : Nat} {xs : List UInt8} {w : World} (h : Coding base Bc g xs w) : Bc ≠ g := by
  have := h.box.not_row (by decide) h.own
  simpa [Value.ownBlock] using this
theorem Coding.alloc {base Bc g : Nat} {xs : List UInt8} {w : World} (h : Coding base Bc g xs w) (o : Obj) : Coding base Bc g xs (w.alloc o) := ⟨h.box.alloc o, h.own.alloc o⟩
/-- Blocks that are no cells are kept. -/
theorem Coding.others {base Bc g : Nat} {xs : List UInt8} {w w' : World} (h : Coding base Bc g xs w) (k : Kept2 g Bc w w') : KeepsOthers w w' := by
  refine ⟨k.size, fun i o hi ho => (k.block i (Array.getElem?_eq_some_iff.1 hi).1 ?_ ?_).trans hi⟩
  · rintro rfl
    rcases h.own.2 with ⟨h1, _⟩ | ⟨g', cap, cur, h1, _, hg, _⟩
    · cases h1
    · cases h1; rw [hg] at hi; cases hi; cases ho
  · rintro rfl
    have := h.box
    rw [show w.heap[i]? = _ from this] at hi; cases hi; cases ho

theorem write_any (base Bc g p m : Nat) (xs bs : List UInt8) (w : World) (h : Coding base Bc g xs w) (hm : bs.length = m) (hfit : xs.length + m ≤ 34)
    (hp : w.heap[p]? = some (.cells (byteVals bs).toArray 5 (0, 0))) :
    Calls Try.prog 41 #[.slice (some ⟨p, 0, none⟩) m m, .pointer (some ⟨Bc, 0, none⟩)] w fun e w' => e = .returned (.tuple #[]) ∧ Coding base Bc g (xs ++ bs) w' ∧ Kept2 g Bc w w' := by
  obtain ⟨i0, hi, hz0, hz1, hz2⟩ := info_parts infoB
  have c1 := h.box.cell
  have hne := h.ne
  have H := Lib.hid h
  have hnews : ∀ j u, (byteVals bs)[j]? = some u → w.cell? ((⟨p, 0, none⟩ : Addr).add j) = some u := by
    intro j u hu
    rw [Addr.add_lit, Nat.zero_add]
    simp [World.cell?, hp, hu]
  have HN := Lib.hid hnews
  have HL : Hid ((byteVals bs).length = m * 1) := by show _ = _; rw [byteVals_length, hm, Nat.mul_one]
  clear h hnews hp
  go_enter Try.func41, Try.ntmps41
  go_wp2_with (at_builtin; refine wpList_append_fits _ rfl (.tmp 3) (.tmp 4) 29 rfl base 5 i0 1 Try.underlying29 hi hz1 g xs.length 34 (byteVals xs) rfl H.out.own ⟨p, 0, none⟩ m m (byteVals bs) rfl HL.out HN.out (byteVals_one _) (by omega) ?_)
  intro w1 hown1 hg1
  have hb1 : Boxed w1 Bc 29 (.slice (some ⟨g, 0, none⟩) xs.length 34) := H.out.box.kept hg1 (by simpa using hne)
  have c2 := hb1.cell
  have f2 := hb1.frozen
  have HB := Lib.hid hb1
  have HO := Lib.hid hown1
  have HG := Lib.hid hg1
  clear c1 hb1 hown1 hg1
  go_wp2
  go_end0
  refine ⟨rfl, ⟨?_, ?_⟩, ?_⟩
  · rw [List.length_append, hm]; exact HB.out.set _
  · rw [List.length_append, hm, byteVals_append]
    exact HO.out.kept (grownBy_setCell' w1 Bc _) (.inr (by simp [Value.ownBlock]; exact fun e => hne e.symm))
  · refine ⟨HG.out.os, HG.out.tape, HG.out.output, by simpa using HG.out.size, fun k hk h1 h2 => ?_⟩
    rw [Below.heap_setCell _ _ _ _ (by simpa using h2)]
    exact HG.out.block k hk (by simpa using h1)

end Go.Proofs.Ythkndfammlibpaa
