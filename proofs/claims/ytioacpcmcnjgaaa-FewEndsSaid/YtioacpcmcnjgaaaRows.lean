/-
  No cell of these rows narrows 'for every input' (looked for: loops, veiled, ifaces, maps, wideKeys, modest, calm, conditions, laid).
  DERIVED. THE GIVEN ROWS OF THIS SEAT. 4 by the template 'for every input the law returns true; each argument reads behind the call as it read before'; 0 by the template 'total and deterministic' (their statements: YtioacpcmcnjgaaaTotals.lean).
  GIVEN WITH THE SEED: the statements are not yours to turn. If you find one false, say at which input.
  Laid BY PROGRAM, IN A SANDBOX (cutbox-rows.mjs): the forced cells as the released guide's own fill.sh prints them over the translation f2fa6a2dd3994d69… (all of the seat's roots in one cut). By AI agents, Wed Nov 11 2026. No macro, syntax, notation, axiom, sorry.
-/
import Derived.Test.YtioacpcmcnjgaaaChecked
import GoSem.Claim
import GoSem.ClaimJoined
import GoSem.ClaimMapViews
import Derived.JoinedTies
import Derived.KernelRfl
namespace Go.Proofs.Ytioacpcmcnjgaaa
/- THE CELL 'sum', in the pinned program and in every row, IS THE sha256 OF THE DUMP (.gsa) THAT YtioacpcmcnjgaaaProg.lean LOADS. Nothing in Lean hashes anything: it is a label: what it is worth is what the hold of that sum in a sandbox is worth. -/
noncomputable def Try.pinned : Pinned := { name := "ytioacpcmcnjgaaa", sum := "f2fa6a2dd3994d69a4cca577dcd74c45c2e6d63bda5a0adc229ef67b458ffb6f", checked := Try.checked }
namespace Rows
def none {H : Type} : Left H := { results := [], args := [] }

/-- 'burgagelaw07.FewDoes': WHATEVER THE INPUT: true; the input reads as it did. -/
def fewDoesSpec : ChangeSpec := { name := "fewDoes", fn := fun _ => fun
  | [d1, d2] => { results := [.lit (.bool true)], args := [d1, d2] }
  | _ => none }
def fewDoesRow : OpenClaim := { program := "ytioacpcmcnjgaaa", sum := "f2fa6a2dd3994d69a4cca577dcd74c45c2e6d63bda5a0adc229ef67b458ffb6f", func := "burgage/burgagelaw07.FewDoes", spec := "fewDoes", unfollowed := true, recurses := true, apart := false }
def FewDoesSaid : Prop := fewDoesRow.holds Try.pinned (OpenSpec.ofChange fewDoesSpec)

/-- ITS FALSE NEIGHBOUR: 'it returns false'. Refute it at one input. -/
def fewDoesWrong : ChangeSpec := { name := "fewDoes", fn := fun _ => fun
  | [d1, d2] => { results := [.lit (.bool false)], args := [d1, d2] }
  | _ => none }
def FewDoesWrongFalsely : Prop := fewDoesRow.holds Try.pinned (OpenSpec.ofChange fewDoesWrong)

/-- 'burgagelaw07.FewEnds': WHATEVER THE INPUT: true; the input reads as it did. -/
def fewEndsSpec : ChangeSpec := { name := "fewEnds", fn := fun _ => fun
  | [] => { results := [.lit (.bool true)], args := [] }
  | _ => none }
def fewEndsRow : OpenClaim := { program := "ytioacpcmcnjgaaa", sum := "f2fa6a2dd3994d69a4cca577dcd74c45c2e6d63bda5a0adc229ef67b458ffb6f", func := "burgage/burgagelaw07.FewEnds", spec := "fewEnds", unfollowed := true, recurses := true, apart := false }
def FewEndsSaid : Prop := fewEndsRow.holds Try.pinned (OpenSpec.ofChange fewEndsSpec)

/-- ITS FALSE NEIGHBOUR: 'it returns false'. Refute it at one input. -/
def fewEndsWrong : ChangeSpec := { name := "fewEnds", fn := fun _ => fun
  | [] => { results := [.lit (.bool false)], args := [] }
  | _ => none }
def FewEndsWrongFalsely : Prop := fewEndsRow.holds Try.pinned (OpenSpec.ofChange fewEndsWrong)

/-- 'burgagelaw07.FewOrder': WHATEVER THE INPUT: true; the input reads as it did. -/
def fewOrderSpec : ChangeSpec := { name := "fewOrder", fn := fun _ => fun
  | [d1, d2, d3, d4] => { results := [.lit (.bool true)], args := [d1, d2, d3, d4] }
  | _ => none }
def fewOrderRow : OpenClaim := { program := "ytioacpcmcnjgaaa", sum := "f2fa6a2dd3994d69a4cca577dcd74c45c2e6d63bda5a0adc229ef67b458ffb6f", func := "burgage/burgagelaw07.FewOrder", spec := "fewOrder", unfollowed := true, recurses := true, apart := false }
def FewOrderSaid : Prop := fewOrderRow.holds Try.pinned (OpenSpec.ofChange fewOrderSpec)

/-- ITS FALSE NEIGHBOUR: 'it returns false'. Refute it at one input. -/
def fewOrderWrong : ChangeSpec := { name := "fewOrder", fn := fun _ => fun
  | [d1, d2, d3, d4] => { results := [.lit (.bool false)], args := [d1, d2, d3, d4] }
  | _ => none }
def FewOrderWrongFalsely : Prop := fewOrderRow.holds Try.pinned (OpenSpec.ofChange fewOrderWrong)

/-- 'burgagelaw07.FewNext': WHATEVER THE INPUT: true; the input reads as it did. -/
def fewNextSpec : ChangeSpec := { name := "fewNext", fn := fun _ => fun
  | [d1, d2] => { results := [.lit (.bool true)], args := [d1, d2] }
  | _ => none }
def fewNextRow : OpenClaim := { program := "ytioacpcmcnjgaaa", sum := "f2fa6a2dd3994d69a4cca577dcd74c45c2e6d63bda5a0adc229ef67b458ffb6f", func := "burgage/burgagelaw07.FewNext", spec := "fewNext", unfollowed := true, recurses := true, apart := false }
def FewNextSaid : Prop := fewNextRow.holds Try.pinned (OpenSpec.ofChange fewNextSpec)

/-- ITS FALSE NEIGHBOUR: 'it returns false'. Refute it at one input. -/
def fewNextWrong : ChangeSpec := { name := "fewNext", fn := fun _ => fun
  | [d1, d2] => { results := [.lit (.bool false)], args := [d1, d2] }
  | _ => none }
def FewNextWrongFalsely : Prop := fewNextRow.holds Try.pinned (OpenSpec.ofChange fewNextWrong)

/- THE SECOND FORM. 'bulk': how many values and letters a reading holds, each counted each time it is reached (what is shared counts as often as it is met; a slice's spare places count too). A statement '..UptoSaid' is the law's where the arguments, and the package variables that the reading takes, are together of bulk at most 1048576: NARROWER than '..Said'. Prove '..Said' where nothing that the law and all that it calls make is longer than what came in: it says more and counts as full. Else prove '..UptoSaid'. A law counts once. -/
mutual
def uptoBulk {H : Type} : DataW H → Nat
  | .lit (.string bytes) => bytes.length + 1
  | .lit _ => 1
  | .nil => 1
  | .ptr d => uptoBulk d + 1
  | .slice elems spare => uptoBulkAll elems + uptoBulkAll spare + 1
  | .agg parts => uptoBulkAll parts + 1
  | .iface _ d => uptoBulk d + 1
  | .map entries => uptoBulkEntries entries + 1
  | .held _ => 1
def uptoBulkAll {H : Type} : List (DataW H) → Nat
  | [] => 0
  | d :: r => uptoBulk d + uptoBulkAll r
def uptoBulkEntries {H : Type} : List (Lit × DataW H) → Nat
  | [] => 0
  | x :: r => uptoBulkEntry x + uptoBulkEntries r
def uptoBulkEntry {H : Type} : Lit × DataW H → Nat
  | (.string bytes, d) => bytes.length + uptoBulk d + 1
  | (_, d) => uptoBulk d + 1
 end
def uptoSmall : (H : Type) → List (DataW H) → Bool := fun _ ds => decide (uptoBulkAll ds ≤ 1048576)
def OpenSpec.upto (s : _root_.Go.ChangeSpec) : _root_.Go.OpenSpec := { _root_.Go.OpenSpec.ofChange s with cond := some uptoSmall }

/-- 'burgagelaw07.FewDoes', WHERE WHAT IT READS IS OF BULK AT MOST 1048576: true; the input reads as it did. -/
def fewDoesUptoRow : OpenClaim := { program := "ytioacpcmcnjgaaa", sum := "f2fa6a2dd3994d69a4cca577dcd74c45c2e6d63bda5a0adc229ef67b458ffb6f", func := "burgage/burgagelaw07.FewDoes", spec := "fewDoes", unfollowed := true, recurses := true, apart := false, narrowed := true }
def FewDoesUptoSaid : Prop := fewDoesUptoRow.holds Try.pinned (OpenSpec.upto fewDoesSpec)

/-- 'burgagelaw07.FewEnds', WHERE WHAT IT READS IS OF BULK AT MOST 1048576: true; the input reads as it did. -/
def fewEndsUptoRow : OpenClaim := { program := "ytioacpcmcnjgaaa", sum := "f2fa6a2dd3994d69a4cca577dcd74c45c2e6d63bda5a0adc229ef67b458ffb6f", func := "burgage/burgagelaw07.FewEnds", spec := "fewEnds", unfollowed := true, recurses := true, apart := false, narrowed := true }
def FewEndsUptoSaid : Prop := fewEndsUptoRow.holds Try.pinned (OpenSpec.upto fewEndsSpec)

/-- 'burgagelaw07.FewOrder', WHERE WHAT IT READS IS OF BULK AT MOST 1048576: true; the input reads as it did. -/
def fewOrderUptoRow : OpenClaim := { program := "ytioacpcmcnjgaaa", sum := "f2fa6a2dd3994d69a4cca577dcd74c45c2e6d63bda5a0adc229ef67b458ffb6f", func := "burgage/burgagelaw07.FewOrder", spec := "fewOrder", unfollowed := true, recurses := true, apart := false, narrowed := true }
def FewOrderUptoSaid : Prop := fewOrderUptoRow.holds Try.pinned (OpenSpec.upto fewOrderSpec)

/-- 'burgagelaw07.FewNext', WHERE WHAT IT READS IS OF BULK AT MOST 1048576: true; the input reads as it did. -/
def fewNextUptoRow : OpenClaim := { program := "ytioacpcmcnjgaaa", sum := "f2fa6a2dd3994d69a4cca577dcd74c45c2e6d63bda5a0adc229ef67b458ffb6f", func := "burgage/burgagelaw07.FewNext", spec := "fewNext", unfollowed := true, recurses := true, apart := false, narrowed := true }
def FewNextUptoSaid : Prop := fewNextUptoRow.holds Try.pinned (OpenSpec.upto fewNextSpec)

end Rows
end Go.Proofs.Ytioacpcmcnjgaaa
