/- A book beside its reference in a box. -/
import Derived.Test.YtcpmnkihhenbgaaLooksB
import Derived.Lib.QuietBelow
namespace Go.Proofs.Ytcpmnkihhenbgaa
open Go.RowKit Go.Shelf
set_option maxRecDepth 1000000
set_option maxHeartbeats 4000000

/-- A book, its reference in a box. -/
structure Pairt (w W : World) (p q e m z : Nat) (l : List Pr) (v : Value) (K B : Nat) : Prop where
  bk : Here w W p q e m l K B
  seg : Seg W v l
  box : Fresh W z #[v, .int .u64 (K : Int), .int .u64 (B : Int)] 31
theorem Pairt.below {w W W' : World} {p q e m z : Nat} {l : List Pr} {v : Value} {K B : Nat} (h : Pairt w W p q e m z l v K B) (hb : Below W.heap.size W W') : Pairt w W' p q e m z l v K B := ⟨h.bk.below hb, h.seg.below hb, h.box.below hb⟩
/-- A box of references stored. -/
theorem Pairt.stored {w W : World} {p q e m z : Nat} {l : List Pr} {v : Value} {K B : Nat} {cs : Array Value} (h : Here w W p q e m l K B) (hS : Seg W v l) (hf : Fresh W z cs 31) (hc : cs.size = 3) (hz : w.heap.size ≤ z) : Pairt w (stored W z v K B) p q e m z l v K B := by
  have hT := stored_turned W z v K B
  have hnot := h.bk.out hf (by decide) (by decide)
  have hpz : p ≠ z := by
    rintro rfl
    exact absurd (fresh_ty hf h.bk.ptr) (by decide)
  simp at hnot
  refine ⟨⟨h.bk.turned hT (by simpa using hpz) (by simp; exact fun x => hnot.1 x.symm) (by simp; exact fun x => hnot.2.1 x.symm) (by simp; exact fun x => hnot.2.2 x.symm), Turned.below (S := [z]) h.low hT (by simpa using hz) h.low.size, h.hp, h.hq, h.he, h.hm⟩, ?_, stored_box hf hc v K B⟩
  refine hS.same fun k hk => hT.block k (hS.lt hk).1 (fun x => ?_)
  simp at x
  subst x
  obtain ⟨cur, hc⟩ := (hS.lt hk).2
  exact absurd (fresh_ty hc hf) (by decide)
theorem stored_other {W : World} {n k : Nat} {v : Value} {K B : Nat} {cs : Array Value} {t : TypeId} (h : Fresh W k cs t) (hn : k ≠ n) : Fresh (stored W n v K B) k cs t := ((h.other hn 0 _).other hn 1 _).other hn 2 _
end Go.Proofs.Ytcpmnkihhenbgaa
