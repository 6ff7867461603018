/-
  No cell of these rows narrows 'for every input' (looked for: loops, veiled, ifaces, maps, wideKeys, modest, calm, conditions, laid).
  DERIVED. THE GIVEN ROWS OF THIS SEAT. 4 by the template 'for every input the law returns true; each argument reads behind the call as it read before'; 0 by the template 'total and deterministic' (their statements: YtpklolidgegloaaTotals.lean).
  GIVEN WITH THE SEED: the statements are not yours to turn. If you find one false, say at which input.
  Laid BY PROGRAM, IN A SANDBOX (cutbox-rows.mjs): the forced cells as the released guide's own fill.sh prints them over the translation 6db8c2dbe7d02425… (all of the seat's roots in one cut). By AI agents, Wed Nov 11 2026. No macro, syntax, notation, axiom, sorry.
-/
import Derived.Test.YtpklolidgegloaaChecked
import GoSem.Claim
import GoSem.ClaimJoined
import GoSem.ClaimMapViews
import Derived.JoinedTies
import Derived.KernelRfl
namespace Go.Proofs.Ytpklolidgegloaa
/- THE CELL 'sum', in the pinned program and in every row, IS THE sha256 OF THE DUMP (.gsa) THAT YtpklolidgegloaaProg.lean LOADS. Nothing in Lean hashes anything: it is a label: what it is worth is what the hold of that sum in a sandbox is worth. -/
noncomputable def Try.pinned : Pinned := { name := "ytpklolidgegloaa", sum := "6db8c2dbe7d0242547ac908420b4f09449d458fdaaaea18b3566a7b0eb0ed887", checked := Try.checked }
namespace Rows
def none {H : Type} : Left H := { results := [], args := [] }

/-- 'burgagelaw05.BoundTells': WHATEVER THE INPUT: true; the input reads as it did. -/
def boundTellsSpec : ChangeSpec := { name := "boundTells", fn := fun _ => fun
  | [d1, d2, d3, d4] => { results := [.lit (.bool true)], args := [d1, d2, d3, d4] }
  | _ => none }
def boundTellsRow : OpenClaim := { program := "ytpklolidgegloaa", sum := "6db8c2dbe7d0242547ac908420b4f09449d458fdaaaea18b3566a7b0eb0ed887", func := "burgage/burgagelaw05.BoundTells", spec := "boundTells", unfollowed := true, recurses := true, apart := false }
def BoundTellsSaid : Prop := boundTellsRow.holds Try.pinned (OpenSpec.ofChange boundTellsSpec)

/-- ITS FALSE NEIGHBOUR: 'it returns false'. Refute it at one input. -/
def boundTellsWrong : ChangeSpec := { name := "boundTells", fn := fun _ => fun
  | [d1, d2, d3, d4] => { results := [.lit (.bool false)], args := [d1, d2, d3, d4] }
  | _ => none }
def BoundTellsWrongFalsely : Prop := boundTellsRow.holds Try.pinned (OpenSpec.ofChange boundTellsWrong)

/-- 'burgagelaw05.BoundSmall': WHATEVER THE INPUT: true; the input reads as it did. -/
def boundSmallSpec : ChangeSpec := { name := "boundSmall", fn := fun _ => fun
  | [] => { results := [.lit (.bool true)], args := [] }
  | _ => none }
def boundSmallRow : OpenClaim := { program := "ytpklolidgegloaa", sum := "6db8c2dbe7d0242547ac908420b4f09449d458fdaaaea18b3566a7b0eb0ed887", func := "burgage/burgagelaw05.BoundSmall", spec := "boundSmall", unfollowed := true, recurses := true, apart := false }
def BoundSmallSaid : Prop := boundSmallRow.holds Try.pinned (OpenSpec.ofChange boundSmallSpec)

/-- ITS FALSE NEIGHBOUR: 'it returns false'. Refute it at one input. -/
def boundSmallWrong : ChangeSpec := { name := "boundSmall", fn := fun _ => fun
  | [] => { results := [.lit (.bool false)], args := [] }
  | _ => none }
def BoundSmallWrongFalsely : Prop := boundSmallRow.holds Try.pinned (OpenSpec.ofChange boundSmallWrong)

/-- 'burgagelaw05.BoundNext': WHATEVER THE INPUT: true; the input reads as it did. -/
def boundNextSpec : ChangeSpec := { name := "boundNext", fn := fun _ => fun
  | [d1, d2] => { results := [.lit (.bool true)], args := [d1, d2] }
  | _ => none }
def boundNextRow : OpenClaim := { program := "ytpklolidgegloaa", sum := "6db8c2dbe7d0242547ac908420b4f09449d458fdaaaea18b3566a7b0eb0ed887", func := "burgage/burgagelaw05.BoundNext", spec := "boundNext", unfollowed := true, recurses := true, apart := false }
def BoundNextSaid : Prop := boundNextRow.holds Try.pinned (OpenSpec.ofChange boundNextSpec)

/-- ITS FALSE NEIGHBOUR: 'it returns false'. Refute it at one input. -/
def boundNextWrong : ChangeSpec := { name := "boundNext", fn := fun _ => fun
  | [d1, d2] => { results := [.lit (.bool false)], args := [d1, d2] }
  | _ => none }
def BoundNextWrongFalsely : Prop := boundNextRow.holds Try.pinned (OpenSpec.ofChange boundNextWrong)

/-- 'burgagelaw05.BoundReaches': WHATEVER THE INPUT: true; the input reads as it did. -/
def boundReachesSpec : ChangeSpec := { name := "boundReaches", fn := fun _ => fun
  | [d1, d2, d3] => { results := [.lit (.bool true)], args := [d1, d2, d3] }
  | _ => none }
def boundReachesRow : OpenClaim := { program := "ytpklolidgegloaa", sum := "6db8c2dbe7d0242547ac908420b4f09449d458fdaaaea18b3566a7b0eb0ed887", func := "burgage/burgagelaw05.BoundReaches", spec := "boundReaches", unfollowed := true, recurses := true, apart := false }
def BoundReachesSaid : Prop := boundReachesRow.holds Try.pinned (OpenSpec.ofChange boundReachesSpec)

/-- ITS FALSE NEIGHBOUR: 'it returns false'. Refute it at one input. -/
def boundReachesWrong : ChangeSpec := { name := "boundReaches", fn := fun _ => fun
  | [d1, d2, d3] => { results := [.lit (.bool false)], args := [d1, d2, d3] }
  | _ => none }
def BoundReachesWrongFalsely : Prop := boundReachesRow.holds Try.pinned (OpenSpec.ofChange boundReachesWrong)

/- THE SECOND FORM. 'bulk': how many values and letters a reading holds, each counted each time it is reached (what is shared counts as often as it is met; a slice's spare places count too). A statement '..UptoSaid' is the law's where the arguments, and the package variables that the reading takes, are together of bulk at most 1048576: NARROWER than '..Said'. Prove '..Said' where nothing that the law and all that it calls make is longer than what came in: it says more and counts as full. Else prove '..UptoSaid'. A law counts once. -/
mutual
def uptoBulk {H : Type} : DataW H → Nat
  | .lit (.string bytes) => bytes.length + 1
  | .lit _ => 1
  | .nil => 1
  | .ptr d => uptoBulk d + 1
  | .slice elems spare => uptoBulkAll elems + uptoBulkAll spare + 1
  | .agg parts => uptoBulkAll parts + 1
  | .iface _ d => uptoBulk d + 1
  | .map entries => uptoBulkEntries entries + 1
  | .held _ => 1
def uptoBulkAll {H : Type} : List (DataW H) → Nat
  | [] => 0
  | d :: r => uptoBulk d + uptoBulkAll r
def uptoBulkEntries {H : Type} : List (Lit × DataW H) → Nat
  | [] => 0
  | x :: r => uptoBulkEntry x + uptoBulkEntries r
def uptoBulkEntry {H : Type} : Lit × DataW H → Nat
  | (.string bytes, d) => bytes.length + uptoBulk d + 1
  | (_, d) => uptoBulk d + 1
 end
def uptoSmall : (H : Type) → List (DataW H) → Bool := fun _ ds => decide (uptoBulkAll ds ≤ 1048576)
def OpenSpec.upto (s : _root_.Go.ChangeSpec) : _root_.Go.OpenSpec := { _root_.Go.OpenSpec.ofChange s with cond := some uptoSmall }

/-- 'burgagelaw05.BoundTells', WHERE WHAT IT READS IS OF BULK AT MOST 1048576: true; the input reads as it did. -/
def boundTellsUptoRow : OpenClaim := { program := "ytpklolidgegloaa", sum := "6db8c2dbe7d0242547ac908420b4f09449d458fdaaaea18b3566a7b0eb0ed887", func := "burgage/burgagelaw05.BoundTells", spec := "boundTells", unfollowed := true, recurses := true, apart := false, narrowed := true }
def BoundTellsUptoSaid : Prop := boundTellsUptoRow.holds Try.pinned (OpenSpec.upto boundTellsSpec)

/-- 'burgagelaw05.BoundSmall', WHERE WHAT IT READS IS OF BULK AT MOST 1048576: true; the input reads as it did. -/
def boundSmallUptoRow : OpenClaim := { program := "ytpklolidgegloaa", sum := "6db8c2dbe7d0242547ac908420b4f09449d458fdaaaea18b3566a7b0eb0ed887", func := "burgage/burgagelaw05.BoundSmall", spec := "boundSmall", unfollowed := true, recurses := true, apart := false, narrowed := true }
def BoundSmallUptoSaid : Prop := boundSmallUptoRow.holds Try.pinned (OpenSpec.upto boundSmallSpec)

/-- 'burgagelaw05.BoundNext', WHERE WHAT IT READS IS OF BULK AT MOST 1048576: true; the input reads as it did. -/
def boundNextUptoRow : OpenClaim := { program := "ytpklolidgegloaa", sum := "6db8c2dbe7d0242547ac908420b4f09449d458fdaaaea18b3566a7b0eb0ed887", func := "burgage/burgagelaw05.BoundNext", spec := "boundNext", unfollowed := true, recurses := true, apart := false, narrowed := true }
def BoundNextUptoSaid : Prop := boundNextUptoRow.holds Try.pinned (OpenSpec.upto boundNextSpec)

/-- 'burgagelaw05.BoundReaches', WHERE WHAT IT READS IS OF BULK AT MOST 1048576: true; the input reads as it did. -/
def boundReachesUptoRow : OpenClaim := { program := "ytpklolidgegloaa", sum := "6db8c2dbe7d0242547ac908420b4f09449d458fdaaaea18b3566a7b0eb0ed887", func := "burgage/burgagelaw05.BoundReaches", spec := "boundReaches", unfollowed := true, recurses := true, apart := false, narrowed := true }
def BoundReachesUptoSaid : Prop := boundReachesUptoRow.holds Try.pinned (OpenSpec.upto boundReachesSpec)

end Rows
end Go.Proofs.Ytpklolidgegloaa
