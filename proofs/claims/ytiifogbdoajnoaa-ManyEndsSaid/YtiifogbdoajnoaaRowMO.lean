/- Rows of bytes that the law on orders builds. -/
import Derived.Test.YtiifogbdoajnoaaOrderM
import Derived.Laws.AppendOwn
namespace Go.Proofs.Ytiifogbdoajnoaa
open Go.RowKit
set_option maxRecDepth 100000
set_option maxHeartbeats 2000000

def bytesOf (l : List En) : List Value := l.map fun x => .int .u8 (x.1.toNat : Int)
theorem bytesOf_length (l : List En) : (bytesOf l).length = l.length := by simp [bytesOf]
theorem row_keep {W W' : World} {B n z : Nat} {e : TypeId} {v : Value} {xs : List Value} (h : W.ownsRow B e z v n xs) (hb : ∀ k, v.ownBlock = some k → W'.heap[k]? = W.heap[k]?) : W'.ownsRow B e z v n xs := by
  obtain ⟨h1, h2⟩ := h
  refine ⟨h1, ?_⟩
  rcases h2 with h2 | ⟨g, cap, cur, rfl, h4, h5, h6⟩
  · exact .inl h2
  · exact .inr ⟨g, cap, cur, rfl, h4, (hb g rfl).trans h5, h6⟩
theorem row_type {W : World} {B n z : Nat} {e : TypeId} {v : Value} {xs : List Value} (h : W.ownsRow B e z v n xs) {k : Nat} (hk : v.ownBlock = some k) : ∃ cs, W.heap[k]? = some (.cells cs e (0, 0)) := by
  obtain ⟨_, h2⟩ := h
  rcases h2 with ⟨rfl, _⟩ | ⟨g, cap, cur, rfl, h4, h5, h6⟩
  · cases hk
  · cases hk
    exact ⟨cur, h5⟩
theorem row_apart {W : World} {B n z : Nat} {e : TypeId} {v : Value} {xs : List Value} (h : W.ownsRow B e z v n xs) {p : Nat} {cs : Array Value} {t : TypeId} (hf : Fresh W p cs t) (ht : t ≠ e) : v.ownBlock ≠ some p := by
  intro hk
  obtain ⟨cs', h1⟩ := row_type h hk
  unfold Fresh at hf
  rw [hf] at h1
  cases h1
  exact ht rfl
theorem row_two {W : World} {B n z n' z' : Nat} {e e' : TypeId} {v v' : Value} {xs xs' : List Value} (h : W.ownsRow B e z v n xs) (h' : W.ownsRow B e' z' v' n' xs') (he : e ≠ e') {k : Nat} (hk : v.ownBlock = some k) : some k ≠ v'.ownBlock := by
  intro e2
  obtain ⟨cs, h1⟩ := row_type h hk
  obtain ⟨cs', h2⟩ := row_type h' e2.symm
  rw [h1] at h2
  cases h2
  exact he rfl
theorem row_low {W : World} {B C n z : Nat} {e : TypeId} {v : Value} {xs : List Value} (h : W.ownsRow B e z v n xs) (hC : C ≤ B) : W.ownsRow C e z v n xs := by
  obtain ⟨h1, h2⟩ := h
  refine ⟨h1, ?_⟩
  rcases h2 with h2 | ⟨g, cap, cur, h3, h4, h5⟩
  · exact .inl h2
  · exact .inr ⟨g, cap, cur, h3, Nat.le_trans hC h4, h5⟩
theorem infoU : ∃ i0 : TypeInfo, Try.prog.info? 5 = some i0 ∧ i0.zero = some (.int .u8 0) ∧ i0.size = 1 ∧ i0.bytes = 1 := by
  have h : (Try.prog.info? 5).map (fun i => (i.zero, i.size, i.bytes)) = some (some (.int .u8 0), 1, 1) := by kernel_rfl
  cases hi : Try.prog.info? 5 with
  | none => rw [hi] at h; simp at h
  | some i0 =>
    rw [hi] at h
    simp only [Option.map_some, Option.some.injEq, Prod.mk.injEq] at h
    exact ⟨i0, rfl, h.1, h.2.1, h.2.2⟩
/-- What stands while the two rows of bytes are built. -/
structure MidX (w W : World) (pa qa ea pb qb eb X C : Nat) (L : List En) (vx vy : Value) (kx ky : Nat) : Prop where
  mid : MidO w W pa qa ea pb qb eb L L
  fx : Fresh W X #[vx] 57
  fy : Fresh W (X + 1) #[vy] 57
  ox : W.ownsRow C 5 1 vx kx (bytesOf (L.take kx))
  oy : W.ownsRow C 5 1 vy ky (bytesOf (L.take ky))
  hC : X + 2 ≤ C ∧ pb < X ∧ qb < X ∧ eb < X
  ne : ∀ k, vx.ownBlock = some k → vy.ownBlock ≠ some k
theorem MidX.low {w W : World} {pa qa ea pb qb eb X C : Nat} {L : List En} {vx vy : Value} {kx ky : Nat} (h : MidX w W pa qa ea pb qb eb X C L vx vy kx ky) : w.heap.size < X ∧ pa < X ∧ qa < X ∧ ea < X := by
  have := h.mid.h1
  have := h.hC
  omega
theorem MidX.same {w W W' : World} {pa qa ea pb qb eb X C : Nat} {L : List En} {vx vy : Value} {kx ky : Nat} (h : MidX w W pa qa ea pb qb eb X C L vx vy kx ky) (hm : MidO w W' pa qa ea pb qb eb L L) (hb : ∀ k, k < W.heap.size → (∃ cs T, W.heap[k]? = some (.cells cs T (0, 0))) → W'.heap[k]? = W.heap[k]?) : MidX w W' pa qa ea pb qb eb X C L vx vy kx ky := by
  have hr : ∀ {v : Value} {n : Nat} {xs : List Value}, W.ownsRow C 5 1 v n xs → W'.ownsRow C 5 1 v n xs := fun h => row_keep h fun k hk => hb k (h.lt k hk).2 (by obtain ⟨cs, e⟩ := row_type h hk; exact ⟨cs, _, e⟩)
  exact ⟨hm, (hb X h.fx.lt ⟨_, _, h.fx⟩).trans h.fx, (hb (X + 1) h.fy.lt ⟨_, _, h.fy⟩).trans h.fy, hr h.ox, hr h.oy, h.hC, h.ne⟩
theorem MidX.below {w W W' : World} {pa qa ea pb qb eb X C : Nat} {L : List En} {vx vy : Value} {kx ky : Nat} (h : MidX w W pa qa ea pb qb eb X C L vx vy kx ky) (hb : Below W.heap.size W W') : MidX w W' pa qa ea pb qb eb X C L vx vy kx ky :=
  h.same (h.mid.below hb) (fun k hk _ => hb.block k hk)
theorem MidX.kept {w W W' : World} {row : Option Nat} {pa qa ea pb qb eb X C : Nat} {L : List En} {vx vy : Value} {kx ky : Nat} (h : MidX w W pa qa ea pb qb eb X C L vx vy kx ky) (hg : W.grownBy W' row) (hr : ∀ r, row = some r → w.heap.size ≤ r ∧ ∃ o : Obj, W.heap[r]? = some o ∧ o.isCells = false) : MidX w W' pa qa ea pb qb eb X C L vx vy kx ky :=
  h.same (h.mid.kept hg hr) (fun k hk ⟨cs, T, hcs⟩ => hg.block k hk (fun e => by
    obtain ⟨o, ho, hc⟩ := (hr k e.symm).2
    rw [hcs] at ho
    cases ho
    cases hc))
/-- One byte more in the first row. -/
theorem MidX.push {w W w7 : World} {pa qa ea pb qb eb X C : Nat} {L : List En} {vx vy v7 : Value} {k ky : Nat} {c : UInt8} (h : MidX w W pa qa ea pb qb eb X C L vx vy k ky)
    (hown : w7.ownsRow C 5 1 v7 (k + 1) (bytesOf (L.take k) ++ [.int .u8 (c.toNat : Int)])) (hg : (W.alloc (.cells #[.int .u8 (c.toNat : Int)] 5)).grownBy w7 vx.ownBlock)
    (hbt : bytesOf (L.take (k + 1)) = bytesOf (L.take k) ++ [.int .u8 (c.toNat : Int)]) (hCW : C ≤ W.heap.size) (hy : vy.ownBlock = none) :
    w7.cell? ⟨X, 0, none⟩ = some vx ∧ w7.frozen? ⟨X, 0, none⟩ = false ∧ MidX w (w7.setCell ⟨X, 0, none⟩ v7) pa qa ea pb qb eb X C L v7 vy (k + 1) ky ∧ True ∧ KeepT [X] W (w7.setCell ⟨X, 0, none⟩ v7) := by
  have low : Below W.heap.size W (W.alloc (.cells #[.int .u8 (c.toNat : Int)] 5)) := Below.new (Below.refl _ _) _
  have h1 := h.below low
  have hlt : ∀ b, vx.ownBlock = some b → C ≤ b := fun b hb => (h.ox.lt b hb).1
  have hC := h.hC
  have hnX : some X ≠ vx.ownBlock := fun e => by have := hlt X e.symm; omega
  have hnY : some (X + 1) ≠ vx.ownBlock := fun e => by have := hlt (X + 1) e.symm; omega
  have fx7 := h1.fx.grown hg hnX
  have fy7 := h1.fy.grown hg hnY
  have T : Turned (X :: vx.ownBlock.toList) W (w7.setCell ⟨X, 0, none⟩ v7) := by
    have t1 : Turned (X :: vx.ownBlock.toList) (W.alloc (.cells #[.int .u8 (c.toNat : Int)] 5)) w7 :=
      ⟨hg.os, hg.tape, hg.output, hg.size, fun b hb hn => hg.block b hb (fun e => hn (by rw [← e]; simp))⟩
    exact ((Turned.of_below low).trans t1).setCell (.inl (by simp)) _ _
  have hin : ∀ b ∈ (X :: vx.ownBlock.toList), X ≤ b ∧ b ≠ X + 1 := fun b hb => by
    rcases List.mem_cons.1 hb with rfl | hb
    · omega
    · have := hlt b (by simpa using hb)
      omega
  have lo := h.low
  have hm := h.mid.h1
  have hmid := h.mid.turned T (fun b hb => by have := hin b hb; omega) (fun e => by have := hin _ e; omega) (fun e => by have := hin _ e; omega) (fun e => by have := hin _ e; omega) (fun e => by have := hin _ e; omega) (fun e => by have := hin _ e; omega) (fun e => by have := hin _ e; omega) (fun e => by have := hin _ e; omega)
  refine ⟨(fx7.cell 0).trans rfl, fx7.thawed 0, ⟨hmid, fx7.set 0 _, fy7.other (by omega) _ _, ?_, ?_, hC, fun b _ => by rw [hy]; simp⟩, trivial, ⟨T.os, T.tape, T.output, T.size, fun b hb hn => ?_⟩⟩
  · rw [hbt]
    refine row_keep hown fun b hb => Below.heap_setCell _ _ _ _ ?_
    have := (hown.lt b hb).1
    show b ≠ X
    omega
  · refine row_keep h.oy fun b hb => ?_
    rw [hy] at hb
    cases hb
  · by_cases e : vx.ownBlock = some b
    · right
      obtain ⟨cs, hcs⟩ := row_type h.ox e
      exact ⟨cs, _, hcs⟩
    · left
      exact T.block b hb (fun e2 => by
        rcases List.mem_cons.1 e2 with rfl | e2
        · exact hn (by simp)
        · exact e (by simpa using e2))
end Go.Proofs.Ytiifogbdoajnoaa
