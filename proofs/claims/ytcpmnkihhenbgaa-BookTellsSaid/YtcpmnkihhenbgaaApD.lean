/- Lists that lie apart: what is made for them; the rounds of appending. -/
import Derived.Test.YtcpmnkihhenbgaaApC
import Derived.Laws.MakeOwn
import Derived.Deep.OwnRows
namespace Go.Proofs.Ytcpmnkihhenbgaa
open Go.RowKit Go.Shelf
set_option maxRecDepth 1000000
set_option maxHeartbeats 4000000

def z64 : List Pr := List.replicate 64 (⟨#[]⟩, ⟨#[]⟩)
theorem z64_len : z64.length = 64 := by simp [z64]
theorem made_two (n : Nat) : madeCells #[.string ⟨#[]⟩, .string ⟨#[]⟩] (n * 2) = (flatP (List.replicate n (⟨#[]⟩, ⟨#[]⟩))).toArray := by
  have hf : flatP (List.replicate n ((⟨#[]⟩, ⟨#[]⟩) : Pr)) = List.replicate (n * 2) (.string ⟨#[]⟩) := by
    induction n with
    | zero => rfl
    | succ n ih =>
      rw [List.replicate_succ]
      show [Value.string ⟨#[]⟩, Value.string ⟨#[]⟩] ++ flatP (List.replicate n _) = _
      rw [ih, show (n + 1) * 2 = n * 2 + 2 from by omega]
      rfl
  rw [hf]
  refine Array.ext (by simp [madeCells]) fun i h1 h2 => ?_
  rcases (show i % 2 = 0 ∨ i % 2 = 1 from by omega) with h | h <;> simp [madeCells, h]
/-- 64 pairs. -/
theorem make_64 (W : World) : ∃ W', (∀ a b, (Instr.makeSlice 29 (.int a 64) (.int b 64)).run Try.prog W = .ok (.slice (some ⟨W.heap.size, 0, none⟩) 64 64) W') ∧ Own W' (.slice (some ⟨W.heap.size, 0, none⟩) 64 64) z64 ∧ Below W.heap.size W W' := by
  obtain ⟨i0, hi0, hz0, hzs, hzb⟩ := infoP
  obtain ⟨W', hW'⟩ : ∃ W', W' = W.alloc (.cells (flatP z64).toArray 49) := ⟨_, rfl⟩
  refine ⟨W', fun a b => ?_, ?_, ?_⟩
  · have h := run_make (P := Try.prog) (w := W) 29 49 i0 _ Try.underlying29 hi0 hz0 a b 64 64 (by omega) (by omega) (by rw [hzb]; omega) (by omega)
    rw [hzs] at h
    rw [hW', h]
    have e := made_two 64
    show Result.ok _ (W.alloc (.cells (madeCells #[.string ⟨#[]⟩, .string ⟨#[]⟩] (64 * 2)) _)) = _
    rw [e]
    rfl
  · have hl : (flatP z64).length = 128 := by rw [flatP_length, z64_len]
    have := Own.mk (W := W') (g := W.heap.size) (cap := 64) (cur := (flatP z64).toArray) (l := z64) (by rw [z64_len]; exact Nat.le_refl _) (by unfold maxLen; omega) (by simp [hl]) (by rw [hW']; exact Fresh.new _ _ _ _ rfl) (by rw [z64_len]; simp; exact List.take_of_length_le (by rw [hl]; exact Nat.le_refl _))
    rw [z64_len] at this
    exact this
  · rw [hW']; exact Below.new (Below.refl _ _) _
theorem infoPP : (Try.prog.info? 29).map (fun i => (i.zero, i.size, i.bytes)) = some (some (.slice none 0 0), 1, 24) := by kernel_rfl
/-- As many empty lists. -/
theorem make_pp (n : Nat) (hn : n ≤ 200) (W : World) : ∃ W', (∀ a b, (Instr.makeSlice 42 (.int a (n : Int)) (.int b (n : Int))).run Try.prog W = .ok (.slice (some ⟨W.heap.size, 0, none⟩) n n) W') ∧ Fresh W' W.heap.size (List.replicate n (Value.slice none 0 0)).toArray 29 ∧ Below W.heap.size W W' := by
  obtain ⟨W', hW'⟩ : ∃ W', W' = W.alloc (.cells (List.replicate n (Value.slice none 0 0)).toArray 29) := ⟨_, rfl⟩
  refine ⟨W', fun a b => ?_, ?_, ?_⟩
  · have h := run_make_row' (P := Try.prog) 42 29 (.slice none 0 0) 24 Try.underlying42 infoPP rfl a b n (by omega) (by omega) W
    rw [h, hW']
    congr 4
    refine Array.ext (by simp [madeCells]) fun i h1 h2 => ?_
    simp [madeCells, Nat.mod_one]
  · rw [hW']; exact Fresh.new _ _ _ _ rfl
  · rw [hW']; exact Below.new (Below.refl _ _) _
theorem one_seg (W : World) (a b : ByteArray) : Seg (W.alloc (.cells #[.string a, .string b] 49)) (.slice (some ⟨W.heap.size, 0, none⟩) 1 1) [(a, b)] :=
  .inr ⟨W.heap.size, 0, 1, _, rfl, by simp, by unfold maxLen; omega, Fresh.new _ _ _ _ rfl, fun j u hj => by rw [Nat.zero_add, List.getElem?_toArray]; exact hj⟩
/-- What the grown lists are, behind the second loops and behind the fourth. -/
def R2 (n : Nat → Nat) (j : Nat) (r : List Pr) : Prop := Mk j (n j) ++ r = Mk j (n j + 64)
def R4 (_ : Nat) (_ : List Pr) : Prop := True
def dM (c : Nat → List Pr) : Nat → List Pr := fun j => Mk j (c j).length
theorem Both.start {W0 W W' : World} {L : Nat} {cu : Array Value} {vs : List Value} {c : Nat → List Pr} {R : Nat → List Pr → Prop} (hL : Lay W L cu vs (cM c vs.length 0)) (hT : Turned (blks vs) W0 W) (hG : Fresh W' W.heap.size (List.replicate vs.length (Value.slice none 0 0)).toArray 29) (hb : Below W.heap.size W W') :
    Both W0 W' L W.heap.size W.heap.size cu vs (List.replicate vs.length (Value.slice none 0 0)) 0 (dM c) R :=
  ⟨hL.done.below hb, ⟨hG, by simp, fun j u hj => by omega, fun j u g hj => by omega⟩, hT.trans (Turned.of_below hb), hb.size, fun j v g hj hg => (hL.done.row j v hj).lt hg, ⟨hL.blk.lt, Nat.le_refl _⟩, hT.size⟩
/-- The loop that grows them anew begins. -/
theorem Both.again {W0 W : World} {L G N1 : Nat} {cu : Array Value} {vs ws : List Value} {k : Nat} {d : Nat → List Pr} {R R' : Nat → List Pr → Prop} (h : Both W0 W L G N1 cu vs ws k d R) : Both W0 W L G N1 cu vs ws 0 d R' :=
  ⟨h.lay, ⟨h.gs.blk, h.gs.len, fun j u hj => by omega, fun j u g hj => by omega⟩, h.trd, h.n1, h.lt, h.lg, h.n0⟩
theorem own_slice {W : World} {v : Value} {l : List Pr} (h : Own W v l) {n : Nat} (hn : l.length = n) : ∃ ao cap, v = .slice ao n cap := by
  subst hn
  rcases h.form with ⟨rfl, rfl⟩ | ⟨g, cap, cur, rfl, _⟩
  · exact ⟨none, 0, rfl⟩
  · exact ⟨_, cap, rfl⟩
/-- A place of a list, wherever it lies. -/
theorem own_at {W : World} {ao : Option Addr} {n cap : Nat} {l : List Pr} (h : Own W (.slice ao n cap) l) {i : Nat} {x : Pr} (hx : l[i]? = some x) : ∃ g, ao = some ⟨g, 0, none⟩ ∧ W.cell? ⟨g, i * 2, none⟩ = some (.string x.1) ∧ W.cell? ⟨g, i * 2 + 1, none⟩ = some (.string x.2) := by
  obtain ⟨g, cp, e, c0, c1, _⟩ := h.cells hx
  simp only [Value.slice.injEq] at e
  exact ⟨g, e.1, c0, c1⟩
end Go.Proofs.Ytcpmnkihhenbgaa
