/-
  No cell of these rows narrows 'for every input' (looked for: loops, veiled, ifaces, maps, wideKeys, modest, calm, conditions, laid).
  DERIVED. THE GIVEN ROWS OF THIS SEAT. 4 by the template 'for every input the law returns true; each argument reads behind the call as it read before'; 0 by the template 'total and deterministic' (their statements: YtiifogbdoajnoaaTotals.lean).
  GIVEN WITH THE SEED: the statements are not yours to turn. If you find one false, say at which input.
  Laid BY PROGRAM, IN A SANDBOX (cutbox-rows.mjs): the forced cells as the released guide's own fill.sh prints them over the translation 42f5b866fc420881… (all of the seat's roots in one cut). By AI agents, Wed Nov 11 2026. No macro, syntax, notation, axiom, sorry.
-/
import Derived.Test.YtiifogbdoajnoaaChecked
import GoSem.Claim
import GoSem.ClaimJoined
import GoSem.ClaimMapViews
import Derived.JoinedTies
import Derived.KernelRfl
namespace Go.Proofs.Ytiifogbdoajnoaa
/- THE CELL 'sum', in the pinned program and in every row, IS THE sha256 OF THE DUMP (.gsa) THAT YtiifogbdoajnoaaProg.lean LOADS. Nothing in Lean hashes anything: it is a label: what it is worth is what the hold of that sum in a sandbox is worth. -/
noncomputable def Try.pinned : Pinned := { name := "ytiifogbdoajnoaa", sum := "42f5b866fc420881fdf7adf7134b91230a03fc2f1bbb04cbdf390e9f0745967e", checked := Try.checked }
namespace Rows
def none {H : Type} : Left H := { results := [], args := [] }

/-- 'burgagelaw08.ManyDoes': WHATEVER THE INPUT: true; the input reads as it did. -/
def manyDoesSpec : ChangeSpec := { name := "manyDoes", fn := fun _ => fun
  | [d1, d2] => { results := [.lit (.bool true)], args := [d1, d2] }
  | _ => none }
def manyDoesRow : OpenClaim := { program := "ytiifogbdoajnoaa", sum := "42f5b866fc420881fdf7adf7134b91230a03fc2f1bbb04cbdf390e9f0745967e", func := "burgage/burgagelaw08.ManyDoes", spec := "manyDoes", unfollowed := true, recurses := true, apart := false }
def ManyDoesSaid : Prop := manyDoesRow.holds Try.pinned (OpenSpec.ofChange manyDoesSpec)

/-- ITS FALSE NEIGHBOUR: 'it returns false'. Refute it at one input. -/
def manyDoesWrong : ChangeSpec := { name := "manyDoes", fn := fun _ => fun
  | [d1, d2] => { results := [.lit (.bool false)], args := [d1, d2] }
  | _ => none }
def ManyDoesWrongFalsely : Prop := manyDoesRow.holds Try.pinned (OpenSpec.ofChange manyDoesWrong)

/-- 'burgagelaw08.ManyEnds': WHATEVER THE INPUT: true; the input reads as it did. -/
def manyEndsSpec : ChangeSpec := { name := "manyEnds", fn := fun _ => fun
  | [] => { results := [.lit (.bool true)], args := [] }
  | _ => none }
def manyEndsRow : OpenClaim := { program := "ytiifogbdoajnoaa", sum := "42f5b866fc420881fdf7adf7134b91230a03fc2f1bbb04cbdf390e9f0745967e", func := "burgage/burgagelaw08.ManyEnds", spec := "manyEnds", unfollowed := true, recurses := true, apart := false }
def ManyEndsSaid : Prop := manyEndsRow.holds Try.pinned (OpenSpec.ofChange manyEndsSpec)

/-- ITS FALSE NEIGHBOUR: 'it returns false'. Refute it at one input. -/
def manyEndsWrong : ChangeSpec := { name := "manyEnds", fn := fun _ => fun
  | [] => { results := [.lit (.bool false)], args := [] }
  | _ => none }
def ManyEndsWrongFalsely : Prop := manyEndsRow.holds Try.pinned (OpenSpec.ofChange manyEndsWrong)

/-- 'burgagelaw08.ManyOrder': WHATEVER THE INPUT: true; the input reads as it did. -/
def manyOrderSpec : ChangeSpec := { name := "manyOrder", fn := fun _ => fun
  | [d1, d2, d3, d4] => { results := [.lit (.bool true)], args := [d1, d2, d3, d4] }
  | _ => none }
def manyOrderRow : OpenClaim := { program := "ytiifogbdoajnoaa", sum := "42f5b866fc420881fdf7adf7134b91230a03fc2f1bbb04cbdf390e9f0745967e", func := "burgage/burgagelaw08.ManyOrder", spec := "manyOrder", unfollowed := true, recurses := true, apart := false }
def ManyOrderSaid : Prop := manyOrderRow.holds Try.pinned (OpenSpec.ofChange manyOrderSpec)

/-- ITS FALSE NEIGHBOUR: 'it returns false'. Refute it at one input. -/
def manyOrderWrong : ChangeSpec := { name := "manyOrder", fn := fun _ => fun
  | [d1, d2, d3, d4] => { results := [.lit (.bool false)], args := [d1, d2, d3, d4] }
  | _ => none }
def ManyOrderWrongFalsely : Prop := manyOrderRow.holds Try.pinned (OpenSpec.ofChange manyOrderWrong)

/-- 'burgagelaw08.ManyNext': WHATEVER THE INPUT: true; the input reads as it did. -/
def manyNextSpec : ChangeSpec := { name := "manyNext", fn := fun _ => fun
  | [d1, d2] => { results := [.lit (.bool true)], args := [d1, d2] }
  | _ => none }
def manyNextRow : OpenClaim := { program := "ytiifogbdoajnoaa", sum := "42f5b866fc420881fdf7adf7134b91230a03fc2f1bbb04cbdf390e9f0745967e", func := "burgage/burgagelaw08.ManyNext", spec := "manyNext", unfollowed := true, recurses := true, apart := false }
def ManyNextSaid : Prop := manyNextRow.holds Try.pinned (OpenSpec.ofChange manyNextSpec)

/-- ITS FALSE NEIGHBOUR: 'it returns false'. Refute it at one input. -/
def manyNextWrong : ChangeSpec := { name := "manyNext", fn := fun _ => fun
  | [d1, d2] => { results := [.lit (.bool false)], args := [d1, d2] }
  | _ => none }
def ManyNextWrongFalsely : Prop := manyNextRow.holds Try.pinned (OpenSpec.ofChange manyNextWrong)

/- THE SECOND FORM. 'bulk': how many values and letters a reading holds, each counted each time it is reached (what is shared counts as often as it is met; a slice's spare places count too). A statement '..UptoSaid' is the law's where the arguments, and the package variables that the reading takes, are together of bulk at most 1048576: NARROWER than '..Said'. Prove '..Said' where nothing that the law and all that it calls make is longer than what came in: it says more and counts as full. Else prove '..UptoSaid'. A law counts once. -/
mutual
def uptoBulk {H : Type} : DataW H → Nat
  | .lit (.string bytes) => bytes.length + 1
  | .lit _ => 1
  | .nil => 1
  | .ptr d => uptoBulk d + 1
  | .slice elems spare => uptoBulkAll elems + uptoBulkAll spare + 1
  | .agg parts => uptoBulkAll parts + 1
  | .iface _ d => uptoBulk d + 1
  | .map entries => uptoBulkEntries entries + 1
  | .held _ => 1
def uptoBulkAll {H : Type} : List (DataW H) → Nat
  | [] => 0
  | d :: r => uptoBulk d + uptoBulkAll r
def uptoBulkEntries {H : Type} : List (Lit × DataW H) → Nat
  | [] => 0
  | x :: r => uptoBulkEntry x + uptoBulkEntries r
def uptoBulkEntry {H : Type} : Lit × DataW H → Nat
  | (.string bytes, d) => bytes.length + uptoBulk d + 1
  | (_, d) => uptoBulk d + 1
 end
def uptoSmall : (H : Type) → List (DataW H) → Bool := fun _ ds => decide (uptoBulkAll ds ≤ 1048576)
def OpenSpec.upto (s : _root_.Go.ChangeSpec) : _root_.Go.OpenSpec := { _root_.Go.OpenSpec.ofChange s with cond := some uptoSmall }

/-- 'burgagelaw08.ManyDoes', WHERE WHAT IT READS IS OF BULK AT MOST 1048576: true; the input reads as it did. -/
def manyDoesUptoRow : OpenClaim := { program := "ytiifogbdoajnoaa", sum := "42f5b866fc420881fdf7adf7134b91230a03fc2f1bbb04cbdf390e9f0745967e", func := "burgage/burgagelaw08.ManyDoes", spec := "manyDoes", unfollowed := true, recurses := true, apart := false, narrowed := true }
def ManyDoesUptoSaid : Prop := manyDoesUptoRow.holds Try.pinned (OpenSpec.upto manyDoesSpec)

/-- 'burgagelaw08.ManyEnds', WHERE WHAT IT READS IS OF BULK AT MOST 1048576: true; the input reads as it did. -/
def manyEndsUptoRow : OpenClaim := { program := "ytiifogbdoajnoaa", sum := "42f5b866fc420881fdf7adf7134b91230a03fc2f1bbb04cbdf390e9f0745967e", func := "burgage/burgagelaw08.ManyEnds", spec := "manyEnds", unfollowed := true, recurses := true, apart := false, narrowed := true }
def ManyEndsUptoSaid : Prop := manyEndsUptoRow.holds Try.pinned (OpenSpec.upto manyEndsSpec)

/-- 'burgagelaw08.ManyOrder', WHERE WHAT IT READS IS OF BULK AT MOST 1048576: true; the input reads as it did. -/
def manyOrderUptoRow : OpenClaim := { program := "ytiifogbdoajnoaa", sum := "42f5b866fc420881fdf7adf7134b91230a03fc2f1bbb04cbdf390e9f0745967e", func := "burgage/burgagelaw08.ManyOrder", spec := "manyOrder", unfollowed := true, recurses := true, apart := false, narrowed := true }
def ManyOrderUptoSaid : Prop := manyOrderUptoRow.holds Try.pinned (OpenSpec.upto manyOrderSpec)

/-- 'burgagelaw08.ManyNext', WHERE WHAT IT READS IS OF BULK AT MOST 1048576: true; the input reads as it did. -/
def manyNextUptoRow : OpenClaim := { program := "ytiifogbdoajnoaa", sum := "42f5b866fc420881fdf7adf7134b91230a03fc2f1bbb04cbdf390e9f0745967e", func := "burgage/burgagelaw08.ManyNext", spec := "manyNext", unfollowed := true, recurses := true, apart := false, narrowed := true }
def ManyNextUptoSaid : Prop := manyNextUptoRow.holds Try.pinned (OpenSpec.upto manyNextSpec)

end Rows
end Go.Proofs.Ytiifogbdoajnoaa
