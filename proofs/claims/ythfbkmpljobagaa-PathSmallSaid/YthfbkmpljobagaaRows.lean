/-
  No cell of these rows narrows 'for every input' (looked for: loops, veiled, ifaces, maps, wideKeys, modest, calm, conditions, laid).
  DERIVED. THE GIVEN ROWS OF THIS SEAT. 6 by the template 'for every input the law returns true; each argument reads behind the call as it read before'; 0 by the template 'total and deterministic' (their statements: YthfbkmpljobagaaTotals.lean).
  GIVEN WITH THE SEED: the statements are not yours to turn. If you find one false, say at which input.
  Laid BY PROGRAM, IN A SANDBOX (cutbox-rows.mjs): the forced cells as the released guide's own fill.sh prints them over the translation 73b9a6f834fbbe82… (all of the seat's roots in one cut). By AI agents, Wed Nov 11 2026. No macro, syntax, notation, axiom, sorry.
-/
import Derived.Test.YthfbkmpljobagaaChecked
import GoSem.Claim
import GoSem.ClaimJoined
import GoSem.ClaimMapViews
import Derived.JoinedTies
import Derived.KernelRfl
namespace Go.Proofs.Ythfbkmpljobagaa
/- THE CELL 'sum', in the pinned program and in every row, IS THE sha256 OF THE DUMP (.gsa) THAT YthfbkmpljobagaaProg.lean LOADS. Nothing in Lean hashes anything: it is a label: what it is worth is what the hold of that sum in a sandbox is worth. -/
noncomputable def Try.pinned : Pinned := { name := "ythfbkmpljobagaa", sum := "73b9a6f834fbbe82d0a63a0102136b95d467ab7102f474023aa106bd01d4729b", checked := Try.checked }
namespace Rows
def none {H : Type} : Left H := { results := [], args := [] }

/-- 'burgagelaw10.PathTells': WHATEVER THE INPUT: true; the input reads as it did. -/
def pathTellsSpec : ChangeSpec := { name := "pathTells", fn := fun _ => fun
  | [d1, d2, d3] => { results := [.lit (.bool true)], args := [d1, d2, d3] }
  | _ => none }
def pathTellsRow : OpenClaim := { program := "ythfbkmpljobagaa", sum := "73b9a6f834fbbe82d0a63a0102136b95d467ab7102f474023aa106bd01d4729b", func := "burgage/burgagelaw10.PathTells", spec := "pathTells", unfollowed := true, recurses := true, apart := false }
def PathTellsSaid : Prop := pathTellsRow.holds Try.pinned (OpenSpec.ofChange pathTellsSpec)

/-- ITS FALSE NEIGHBOUR: 'it returns false'. Refute it at one input. -/
def pathTellsWrong : ChangeSpec := { name := "pathTells", fn := fun _ => fun
  | [d1, d2, d3] => { results := [.lit (.bool false)], args := [d1, d2, d3] }
  | _ => none }
def PathTellsWrongFalsely : Prop := pathTellsRow.holds Try.pinned (OpenSpec.ofChange pathTellsWrong)

/-- 'burgagelaw10.PathAll': WHATEVER THE INPUT: true; the input reads as it did. -/
def pathAllSpec : ChangeSpec := { name := "pathAll", fn := fun _ => fun
  | [d] => { results := [.lit (.bool true)], args := [d] }
  | _ => none }
def pathAllRow : OpenClaim := { program := "ythfbkmpljobagaa", sum := "73b9a6f834fbbe82d0a63a0102136b95d467ab7102f474023aa106bd01d4729b", func := "burgage/burgagelaw10.PathAll", spec := "pathAll", unfollowed := true, recurses := true, apart := false }
def PathAllSaid : Prop := pathAllRow.holds Try.pinned (OpenSpec.ofChange pathAllSpec)

/-- ITS FALSE NEIGHBOUR: 'it returns false'. Refute it at one input. -/
def pathAllWrong : ChangeSpec := { name := "pathAll", fn := fun _ => fun
  | [d] => { results := [.lit (.bool false)], args := [d] }
  | _ => none }
def PathAllWrongFalsely : Prop := pathAllRow.holds Try.pinned (OpenSpec.ofChange pathAllWrong)

/-- 'burgagelaw10.PathSmall': WHATEVER THE INPUT: true; the input reads as it did. -/
def pathSmallSpec : ChangeSpec := { name := "pathSmall", fn := fun _ => fun
  | [] => { results := [.lit (.bool true)], args := [] }
  | _ => none }
def pathSmallRow : OpenClaim := { program := "ythfbkmpljobagaa", sum := "73b9a6f834fbbe82d0a63a0102136b95d467ab7102f474023aa106bd01d4729b", func := "burgage/burgagelaw10.PathSmall", spec := "pathSmall", unfollowed := true, recurses := true, apart := false }
def PathSmallSaid : Prop := pathSmallRow.holds Try.pinned (OpenSpec.ofChange pathSmallSpec)

/-- ITS FALSE NEIGHBOUR: 'it returns false'. Refute it at one input. -/
def pathSmallWrong : ChangeSpec := { name := "pathSmall", fn := fun _ => fun
  | [] => { results := [.lit (.bool false)], args := [] }
  | _ => none }
def PathSmallWrongFalsely : Prop := pathSmallRow.holds Try.pinned (OpenSpec.ofChange pathSmallWrong)

/-- 'burgagelaw10.PathSplits': WHATEVER THE INPUT: true; the input reads as it did. -/
def pathSplitsSpec : ChangeSpec := { name := "pathSplits", fn := fun _ => fun
  | [d1, d2] => { results := [.lit (.bool true)], args := [d1, d2] }
  | _ => none }
def pathSplitsRow : OpenClaim := { program := "ythfbkmpljobagaa", sum := "73b9a6f834fbbe82d0a63a0102136b95d467ab7102f474023aa106bd01d4729b", func := "burgage/burgagelaw10.PathSplits", spec := "pathSplits", unfollowed := true, recurses := true, apart := false }
def PathSplitsSaid : Prop := pathSplitsRow.holds Try.pinned (OpenSpec.ofChange pathSplitsSpec)

/-- ITS FALSE NEIGHBOUR: 'it returns false'. Refute it at one input. -/
def pathSplitsWrong : ChangeSpec := { name := "pathSplits", fn := fun _ => fun
  | [d1, d2] => { results := [.lit (.bool false)], args := [d1, d2] }
  | _ => none }
def PathSplitsWrongFalsely : Prop := pathSplitsRow.holds Try.pinned (OpenSpec.ofChange pathSplitsWrong)

/-- 'burgagelaw10.PathShares': WHATEVER THE INPUT: true; the input reads as it did. -/
def pathSharesSpec : ChangeSpec := { name := "pathShares", fn := fun _ => fun
  | [d1, d2] => { results := [.lit (.bool true)], args := [d1, d2] }
  | _ => none }
def pathSharesRow : OpenClaim := { program := "ythfbkmpljobagaa", sum := "73b9a6f834fbbe82d0a63a0102136b95d467ab7102f474023aa106bd01d4729b", func := "burgage/burgagelaw10.PathShares", spec := "pathShares", unfollowed := true, recurses := true, apart := false }
def PathSharesSaid : Prop := pathSharesRow.holds Try.pinned (OpenSpec.ofChange pathSharesSpec)

/-- ITS FALSE NEIGHBOUR: 'it returns false'. Refute it at one input. -/
def pathSharesWrong : ChangeSpec := { name := "pathShares", fn := fun _ => fun
  | [d1, d2] => { results := [.lit (.bool false)], args := [d1, d2] }
  | _ => none }
def PathSharesWrongFalsely : Prop := pathSharesRow.holds Try.pinned (OpenSpec.ofChange pathSharesWrong)

/-- 'burgagelaw10.PathJoins': WHATEVER THE INPUT: true; the input reads as it did. -/
def pathJoinsSpec : ChangeSpec := { name := "pathJoins", fn := fun _ => fun
  | [d1, d2, d3, d4] => { results := [.lit (.bool true)], args := [d1, d2, d3, d4] }
  | _ => none }
def pathJoinsRow : OpenClaim := { program := "ythfbkmpljobagaa", sum := "73b9a6f834fbbe82d0a63a0102136b95d467ab7102f474023aa106bd01d4729b", func := "burgage/burgagelaw10.PathJoins", spec := "pathJoins", unfollowed := true, recurses := true, apart := false }
def PathJoinsSaid : Prop := pathJoinsRow.holds Try.pinned (OpenSpec.ofChange pathJoinsSpec)

/-- ITS FALSE NEIGHBOUR: 'it returns false'. Refute it at one input. -/
def pathJoinsWrong : ChangeSpec := { name := "pathJoins", fn := fun _ => fun
  | [d1, d2, d3, d4] => { results := [.lit (.bool false)], args := [d1, d2, d3, d4] }
  | _ => none }
def PathJoinsWrongFalsely : Prop := pathJoinsRow.holds Try.pinned (OpenSpec.ofChange pathJoinsWrong)

/- THE SECOND FORM. 'bulk': how many values and letters a reading holds, each counted each time it is reached (what is shared counts as often as it is met; a slice's spare places count too). A statement '..UptoSaid' is the law's where the arguments, and the package variables that the reading takes, are together of bulk at most 1048576: NARROWER than '..Said'. Prove '..Said' where nothing that the law and all that it calls make is longer than what came in: it says more and counts as full. Else prove '..UptoSaid'. A law counts once. -/
mutual
def uptoBulk {H : Type} : DataW H → Nat
  | .lit (.string bytes) => bytes.length + 1
  | .lit _ => 1
  | .nil => 1
  | .ptr d => uptoBulk d + 1
  | .slice elems spare => uptoBulkAll elems + uptoBulkAll spare + 1
  | .agg parts => uptoBulkAll parts + 1
  | .iface _ d => uptoBulk d + 1
  | .map entries => uptoBulkEntries entries + 1
  | .held _ => 1
def uptoBulkAll {H : Type} : List (DataW H) → Nat
  | [] => 0
  | d :: r => uptoBulk d + uptoBulkAll r
def uptoBulkEntries {H : Type} : List (Lit × DataW H) → Nat
  | [] => 0
  | x :: r => uptoBulkEntry x + uptoBulkEntries r
def uptoBulkEntry {H : Type} : Lit × DataW H → Nat
  | (.string bytes, d) => bytes.length + uptoBulk d + 1
  | (_, d) => uptoBulk d + 1
 end
def uptoSmall : (H : Type) → List (DataW H) → Bool := fun _ ds => decide (uptoBulkAll ds ≤ 1048576)
def OpenSpec.upto (s : _root_.Go.ChangeSpec) : _root_.Go.OpenSpec := { _root_.Go.OpenSpec.ofChange s with cond := some uptoSmall }

/-- 'burgagelaw10.PathTells', WHERE WHAT IT READS IS OF BULK AT MOST 1048576: true; the input reads as it did. -/
def pathTellsUptoRow : OpenClaim := { program := "ythfbkmpljobagaa", sum := "73b9a6f834fbbe82d0a63a0102136b95d467ab7102f474023aa106bd01d4729b", func := "burgage/burgagelaw10.PathTells", spec := "pathTells", unfollowed := true, recurses := true, apart := false, narrowed := true }
def PathTellsUptoSaid : Prop := pathTellsUptoRow.holds Try.pinned (OpenSpec.upto pathTellsSpec)

/-- 'burgagelaw10.PathAll', WHERE WHAT IT READS IS OF BULK AT MOST 1048576: true; the input reads as it did. -/
def pathAllUptoRow : OpenClaim := { program := "ythfbkmpljobagaa", sum := "73b9a6f834fbbe82d0a63a0102136b95d467ab7102f474023aa106bd01d4729b", func := "burgage/burgagelaw10.PathAll", spec := "pathAll", unfollowed := true, recurses := true, apart := false, narrowed := true }
def PathAllUptoSaid : Prop := pathAllUptoRow.holds Try.pinned (OpenSpec.upto pathAllSpec)

/-- 'burgagelaw10.PathSmall', WHERE WHAT IT READS IS OF BULK AT MOST 1048576: true; the input reads as it did. -/
def pathSmallUptoRow : OpenClaim := { program := "ythfbkmpljobagaa", sum := "73b9a6f834fbbe82d0a63a0102136b95d467ab7102f474023aa106bd01d4729b", func := "burgage/burgagelaw10.PathSmall", spec := "pathSmall", unfollowed := true, recurses := true, apart := false, narrowed := true }
def PathSmallUptoSaid : Prop := pathSmallUptoRow.holds Try.pinned (OpenSpec.upto pathSmallSpec)

/-- 'burgagelaw10.PathSplits', WHERE WHAT IT READS IS OF BULK AT MOST 1048576: true; the input reads as it did. -/
def pathSplitsUptoRow : OpenClaim := { program := "ythfbkmpljobagaa", sum := "73b9a6f834fbbe82d0a63a0102136b95d467ab7102f474023aa106bd01d4729b", func := "burgage/burgagelaw10.PathSplits", spec := "pathSplits", unfollowed := true, recurses := true, apart := false, narrowed := true }
def PathSplitsUptoSaid : Prop := pathSplitsUptoRow.holds Try.pinned (OpenSpec.upto pathSplitsSpec)

/-- 'burgagelaw10.PathShares', WHERE WHAT IT READS IS OF BULK AT MOST 1048576: true; the input reads as it did. -/
def pathSharesUptoRow : OpenClaim := { program := "ythfbkmpljobagaa", sum := "73b9a6f834fbbe82d0a63a0102136b95d467ab7102f474023aa106bd01d4729b", func := "burgage/burgagelaw10.PathShares", spec := "pathShares", unfollowed := true, recurses := true, apart := false, narrowed := true }
def PathSharesUptoSaid : Prop := pathSharesUptoRow.holds Try.pinned (OpenSpec.upto pathSharesSpec)

/-- 'burgagelaw10.PathJoins', WHERE WHAT IT READS IS OF BULK AT MOST 1048576: true; the input reads as it did. -/
def pathJoinsUptoRow : OpenClaim := { program := "ythfbkmpljobagaa", sum := "73b9a6f834fbbe82d0a63a0102136b95d467ab7102f474023aa106bd01d4729b", func := "burgage/burgagelaw10.PathJoins", spec := "pathJoins", unfollowed := true, recurses := true, apart := false, narrowed := true }
def PathJoinsUptoSaid : Prop := pathJoinsUptoRow.holds Try.pinned (OpenSpec.upto pathJoinsSpec)

end Rows
end Go.Proofs.Ythfbkmpljobagaa
