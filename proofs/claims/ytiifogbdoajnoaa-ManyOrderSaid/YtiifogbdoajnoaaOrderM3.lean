/- The walk of the law ManyOrder, as the frame asks it. -/
import Derived.Test.YtiifogbdoajnoaaOrderM2
namespace Go.Proofs.Ytiifogbdoajnoaa
open Go.RowKit
theorem manyOrder_walk {p p' : Prop} (ao : Option Addr) (len cap : Nat) (zs : List Int) (turn : Int) (am : Option Addr) (len2 cap2 : Nat) (zs2 : List Int) (fr : Int) (w : World) (h : IsRow .u8 w ao len cap zs) (hs : len ≤ 140737488351232) (_ : p) (h2 : IsRow .u8 w am len2 cap2 zs2) (hs2 : len2 ≤ 140737488351232) (_ : p') :
    Calls Try.prog 5 #[.slice ao len cap, .int .i64 turn, .slice am len2 cap2, .int .i64 fr] w fun e w' => e = .returned (.bool true) ∧ Below w.heap.size w w' := by
  obtain ⟨_, l, hl, hB⟩ := bytes_open h
  obtain ⟨_, l2, hl2, hB2⟩ := bytes_open h2
  exact manyOrder_any w hB hl hs hB2 hl2 hs2 turn fr
end Go.Proofs.Ytiifogbdoajnoaa
