/- The second row of bytes. -/
import Derived.Test.YtiifogbdoajnoaaRowMO
import Derived.Laws.IdiomStrings
namespace Go.Proofs.Ytiifogbdoajnoaa
open Go.RowKit

/-- What stands while the second row of bytes is built. -/
structure MidY (w W : World) (pa qa ea pb qb eb X C C2 : Nat) (L : List En) (vx vy : Value) (ky : Nat) : Prop where
  mid : MidO w W pa qa ea pb qb eb L L
  fx : Fresh W X #[vx] 57
  fy : Fresh W (X + 1) #[vy] 57
  ox : W.ownsRow C 5 1 vx L.length (bytesOf L)
  oy : W.ownsRow C2 5 1 vy ky (bytesOf (L.take ky))
  hC : X + 2 ≤ C ∧ C ≤ C2 ∧ pb < X ∧ qb < X ∧ eb < X
  lt : ∀ k, vx.ownBlock = some k → k < C2
theorem MidY.low {w W : World} {pa qa ea pb qb eb X C C2 : Nat} {L : List En} {vx vy : Value} {ky : Nat} (h : MidY w W pa qa ea pb qb eb X C C2 L vx vy ky) : w.heap.size < X ∧ pa < X ∧ qa < X ∧ ea < X := by
  have := h.mid.h1
  have := h.hC
  omega
theorem MidY.same {w W W' : World} {pa qa ea pb qb eb X C C2 : Nat} {L : List En} {vx vy : Value} {ky : Nat} (h : MidY w W pa qa ea pb qb eb X C C2 L vx vy ky) (hm : MidO w W' pa qa ea pb qb eb L L) (hb : ∀ k, k < W.heap.size → (∃ cs T, W.heap[k]? = some (.cells cs T (0, 0))) → W'.heap[k]? = W.heap[k]?) : MidY w W' pa qa ea pb qb eb X C C2 L vx vy ky := by
  have hr : ∀ {B : Nat} {v : Value} {n : Nat} {xs : List Value}, W.ownsRow B 5 1 v n xs → W'.ownsRow B 5 1 v n xs := fun h => row_keep h fun k hk => hb k (h.lt k hk).2 (by obtain ⟨cs, e⟩ := row_type h hk; exact ⟨cs, _, e⟩)
  exact ⟨hm, (hb X h.fx.lt ⟨_, _, h.fx⟩).trans h.fx, (hb (X + 1) h.fy.lt ⟨_, _, h.fy⟩).trans h.fy, hr h.ox, hr h.oy, h.hC, h.lt⟩
theorem MidY.below {w W W' : World} {pa qa ea pb qb eb X C C2 : Nat} {L : List En} {vx vy : Value} {ky : Nat} (h : MidY w W pa qa ea pb qb eb X C C2 L vx vy ky) (hb : Below W.heap.size W W') : MidY w W' pa qa ea pb qb eb X C C2 L vx vy ky :=
  h.same (h.mid.below hb) (fun k hk _ => hb.block k hk)
theorem MidY.kept {w W W' : World} {row : Option Nat} {pa qa ea pb qb eb X C C2 : Nat} {L : List En} {vx vy : Value} {ky : Nat} (h : MidY w W pa qa ea pb qb eb X C C2 L vx vy ky) (hg : W.grownBy W' row) (hr : ∀ r, row = some r → w.heap.size ≤ r ∧ ∃ o : Obj, W.heap[r]? = some o ∧ o.isCells = false) : MidY w W' pa qa ea pb qb eb X C C2 L vx vy ky :=
  h.same (h.mid.kept hg hr) (fun k hk ⟨cs, T, hcs⟩ => hg.block k hk (fun e => by
    obtain ⟨o, ho, hc⟩ := (hr k e.symm).2
    rw [hcs] at ho
    cases ho
    cases hc))
/-- One byte more in the second row. -/
theorem MidY.push {w W w7 : World} {pa qa ea pb qb eb X C C2 : Nat} {L : List En} {vx vy v7 : Value} {ky : Nat} {c : UInt8} (h : MidY w W pa qa ea pb qb eb X C C2 L vx vy ky)
    (hown : w7.ownsRow C2 5 1 v7 (ky + 1) (bytesOf (L.take ky) ++ [.int .u8 (c.toNat : Int)])) (hg : (W.alloc (.cells #[.int .u8 (c.toNat : Int)] 5)).grownBy w7 vy.ownBlock)
    (hbt : bytesOf (L.take (ky + 1)) = bytesOf (L.take ky) ++ [.int .u8 (c.toNat : Int)]) :
    w7.cell? ⟨X + 1, 0, none⟩ = some vy ∧ w7.frozen? ⟨X + 1, 0, none⟩ = false ∧ MidY w (w7.setCell ⟨X + 1, 0, none⟩ v7) pa qa ea pb qb eb X C C2 L vx v7 (ky + 1) ∧ KeepT [X + 1] W (w7.setCell ⟨X + 1, 0, none⟩ v7) := by
  have low : Below W.heap.size W (W.alloc (.cells #[.int .u8 (c.toNat : Int)] 5)) := Below.new (Below.refl _ _) _
  have h1 := h.below low
  have hlt : ∀ b, vy.ownBlock = some b → C2 ≤ b := fun b hb => (h.oy.lt b hb).1
  have hC := h.hC
  have hnX : some X ≠ vy.ownBlock := fun e => by have := hlt X e.symm; omega
  have hnY : some (X + 1) ≠ vy.ownBlock := fun e => by have := hlt (X + 1) e.symm; omega
  have fx7 := h1.fx.grown hg hnX
  have fy7 := h1.fy.grown hg hnY
  have T : Turned ((X + 1) :: vy.ownBlock.toList) W (w7.setCell ⟨X + 1, 0, none⟩ v7) := by
    have t1 : Turned ((X + 1) :: vy.ownBlock.toList) (W.alloc (.cells #[.int .u8 (c.toNat : Int)] 5)) w7 :=
      ⟨hg.os, hg.tape, hg.output, hg.size, fun b hb hn => hg.block b hb (fun e => hn (by rw [← e]; simp))⟩
    exact ((Turned.of_below low).trans t1).setCell (.inl (by simp)) _ _
  have hin : ∀ b ∈ ((X + 1) :: vy.ownBlock.toList), X < b ∧ (b = X + 1 ∨ C2 ≤ b) := fun b hb => by
    rcases List.mem_cons.1 hb with rfl | hb
    · omega
    · have := hlt b (by simpa using hb)
      omega
  have lo := h.low
  have hm := h.mid.h1
  have hmid := h.mid.turned T (fun b hb => by have := hin b hb; omega) (fun e => by have := hin _ e; omega) (fun e => by have := hin _ e; omega) (fun e => by have := hin _ e; omega) (fun e => by have := hin _ e; omega) (fun e => by have := hin _ e; omega) (fun e => by have := hin _ e; omega) (fun e => by have := hin _ e; omega)
  refine ⟨(fy7.cell 0).trans rfl, fy7.thawed 0, ⟨hmid, fx7.other (by omega) _ _, fy7.set 0 _, ?_, ?_, hC, h.lt⟩, ⟨T.os, T.tape, T.output, T.size, fun b hb hn => ?_⟩⟩
  · refine row_keep h.ox fun b hb => T.block b (h.ox.lt b hb).2 (fun e => ?_)
    have a1 := hin b e
    have a2 := h.lt b hb
    have a3 := (h.ox.lt b hb).1
    omega
  · rw [hbt]
    refine row_keep hown fun b hb => Below.heap_setCell _ _ _ _ ?_
    have := (hown.lt b hb).1
    show b ≠ X + 1
    omega
  · by_cases e : vy.ownBlock = some b
    · right
      obtain ⟨cs, hcs⟩ := row_type h.oy e
      exact ⟨cs, _, hcs⟩
    · left
      exact T.block b hb (fun e2 => by
        rcases List.mem_cons.1 e2 with rfl | e2
        · exact hn (by simp)
        · exact e (by simpa using e2))
theorem nextV_form (f : Int) (L : List En) : ∃ (c : UInt8) (s g : Int) (u : Bool), nextV f L = .tuple #[.int .u8 (c.toNat : Int), .agg #[.int .i64 s, .int .u32 g], .bool u] ∧ (u = true → f ≤ (c.toNat : Int)) := by
  rcases Nat.lt_or_ge (nextIx f L) L.length with h | h
  · refine ⟨L[nextIx f L].1, L[nextIx f L].2.1, L[nextIx f L].2.2, true, by rw [nextV, List.getElem?_eq_getElem h], fun _ => ?_⟩
    have := List.findIdx_getElem (p := fun x : En => decide (f ≤ (x.1.toNat : Int))) (xs := L) (w := h)
    exact of_decide_eq_true this
  · exact ⟨0, 0, 0, false, by rw [nextV, List.getElem?_eq_none h]; rfl, fun h => by cases h⟩
theorem bytes_at (L : List En) (j : Nat) (h : j < L.length) : (bytesOf L)[j]? = some (.int .u8 (L[j].1.toNat : Int)) := by
  simp [bytesOf, List.getElem?_map, List.getElem?_eq_getElem h]
theorem row_string {W : World} {C : Nat} {v : Value} {L : List En} (h : W.ownsRow C 5 1 v L.length (bytesOf L)) :
    (convert 57 9 v).run Try.prog W = .ok (.string ⟨(L.map (·.1)).toArray⟩) W := by
  obtain ⟨h1, h2⟩ := h
  rcases h2 with ⟨rfl, h3⟩ | ⟨g, cap, cur, rfl, h4, h5, h6, h7, h8, h9⟩
  · rw [List.length_eq_zero_iff] at h3
    subst h3
    rw [run_convert_bytes_string W 57 9 5 none 0 0 Try.underlying57 Try.underlying5 Try.underlying9]
    rfl
  · have hc := run_convert_bytes_back (P := Try.prog) W 57 9 5 ⟨g, 0, none⟩ cap (L.map (·.1)) Try.underlying57 Try.underlying5 Try.underlying9 (fun j hj => by
      rw [List.length_map] at hj
      rw [Addr.add_lit, Nat.zero_add]
      have e := bytes_at L j hj
      rw [← h9, Nat.mul_one, List.getElem?_take_of_lt hj] at e
      simp [World.cell?, h5]
      simpa using e)
    rw [List.length_map] at hc
    exact hc
end Go.Proofs.Ytiifogbdoajnoaa
