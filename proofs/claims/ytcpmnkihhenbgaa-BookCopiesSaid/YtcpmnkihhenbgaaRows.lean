/-
  No cell of these rows narrows 'for every input' (looked for: loops, veiled, ifaces, maps, wideKeys, modest, calm, conditions, laid).
  DERIVED. THE GIVEN ROWS OF THIS SEAT. 6 by the template 'for every input the law returns true; each argument reads behind the call as it read before'; 0 by the template 'total and deterministic' (their statements: YtcpmnkihhenbgaaTotals.lean).
  GIVEN WITH THE SEED: the statements are not yours to turn. If you find one false, say at which input.
  Laid BY PROGRAM, IN A SANDBOX (cutbox-rows.mjs): the forced cells as the released guide's own fill.sh prints them over the translation e9ede3a27f6352ee… (all of the seat's roots in one cut). By AI agents, Wed Nov 11 2026. No macro, syntax, notation, axiom, sorry.
-/
import Derived.Test.YtcpmnkihhenbgaaChecked
import GoSem.Claim
import GoSem.ClaimJoined
import GoSem.ClaimMapViews
import Derived.JoinedTies
import Derived.KernelRfl
namespace Go.Proofs.Ytcpmnkihhenbgaa
/- THE CELL 'sum', in the pinned program and in every row, IS THE sha256 OF THE DUMP (.gsa) THAT YtcpmnkihhenbgaaProg.lean LOADS. Nothing in Lean hashes anything: it is a label: what it is worth is what the hold of that sum in a sandbox is worth. -/
noncomputable def Try.pinned : Pinned := { name := "ytcpmnkihhenbgaa", sum := "e9ede3a27f6352eede176ddf7fec651102bd859418fcce87c26e3a48e50e7d0d", checked := Try.checked }
namespace Rows
def none {H : Type} : Left H := { results := [], args := [] }

/-- 'burgagelaw13.BookTells': WHATEVER THE INPUT: true; the input reads as it did. -/
def bookTellsSpec : ChangeSpec := { name := "bookTells", fn := fun _ => fun
  | [d1, d2, d3, d4] => { results := [.lit (.bool true)], args := [d1, d2, d3, d4] }
  | _ => none }
def bookTellsRow : OpenClaim := { program := "ytcpmnkihhenbgaa", sum := "e9ede3a27f6352eede176ddf7fec651102bd859418fcce87c26e3a48e50e7d0d", func := "burgage/burgagelaw13.BookTells", spec := "bookTells", inPlace := ["slices.overlaps[string]", "maps.clone"], unfollowed := true, recurses := true, apart := false }
def BookTellsSaid : Prop := bookTellsRow.holds Try.pinned (OpenSpec.ofChange bookTellsSpec)

/-- ITS FALSE NEIGHBOUR: 'it returns false'. Refute it at one input. -/
def bookTellsWrong : ChangeSpec := { name := "bookTells", fn := fun _ => fun
  | [d1, d2, d3, d4] => { results := [.lit (.bool false)], args := [d1, d2, d3, d4] }
  | _ => none }
def BookTellsWrongFalsely : Prop := bookTellsRow.holds Try.pinned (OpenSpec.ofChange bookTellsWrong)

/-- 'burgagelaw13.BookCopies': WHATEVER THE INPUT: true; the input reads as it did. -/
def bookCopiesSpec : ChangeSpec := { name := "bookCopies", fn := fun _ => fun
  | [d1, d2, d3] => { results := [.lit (.bool true)], args := [d1, d2, d3] }
  | _ => none }
def bookCopiesRow : OpenClaim := { program := "ytcpmnkihhenbgaa", sum := "e9ede3a27f6352eede176ddf7fec651102bd859418fcce87c26e3a48e50e7d0d", func := "burgage/burgagelaw13.BookCopies", spec := "bookCopies", inPlace := ["slices.overlaps[string]", "maps.clone"], unfollowed := true, recurses := true, apart := false }
def BookCopiesSaid : Prop := bookCopiesRow.holds Try.pinned (OpenSpec.ofChange bookCopiesSpec)

/-- ITS FALSE NEIGHBOUR: 'it returns false'. Refute it at one input. -/
def bookCopiesWrong : ChangeSpec := { name := "bookCopies", fn := fun _ => fun
  | [d1, d2, d3] => { results := [.lit (.bool false)], args := [d1, d2, d3] }
  | _ => none }
def BookCopiesWrongFalsely : Prop := bookCopiesRow.holds Try.pinned (OpenSpec.ofChange bookCopiesWrong)

/-- 'burgagelaw13.BookSmall': WHATEVER THE INPUT: true; the input reads as it did. -/
def bookSmallSpec : ChangeSpec := { name := "bookSmall", fn := fun _ => fun
  | [] => { results := [.lit (.bool true)], args := [] }
  | _ => none }
def bookSmallRow : OpenClaim := { program := "ytcpmnkihhenbgaa", sum := "e9ede3a27f6352eede176ddf7fec651102bd859418fcce87c26e3a48e50e7d0d", func := "burgage/burgagelaw13.BookSmall", spec := "bookSmall", inPlace := ["slices.overlaps[string]", "maps.clone"], unfollowed := true, recurses := true, apart := false }
def BookSmallSaid : Prop := bookSmallRow.holds Try.pinned (OpenSpec.ofChange bookSmallSpec)

/-- ITS FALSE NEIGHBOUR: 'it returns false'. Refute it at one input. -/
def bookSmallWrong : ChangeSpec := { name := "bookSmall", fn := fun _ => fun
  | [] => { results := [.lit (.bool false)], args := [] }
  | _ => none }
def BookSmallWrongFalsely : Prop := bookSmallRow.holds Try.pinned (OpenSpec.ofChange bookSmallWrong)

/-- 'burgagelaw13.BookQuota': WHATEVER THE INPUT: true; the input reads as it did. -/
def bookQuotaSpec : ChangeSpec := { name := "bookQuota", fn := fun _ => fun
  | [d1, d2] => { results := [.lit (.bool true)], args := [d1, d2] }
  | _ => none }
def bookQuotaRow : OpenClaim := { program := "ytcpmnkihhenbgaa", sum := "e9ede3a27f6352eede176ddf7fec651102bd859418fcce87c26e3a48e50e7d0d", func := "burgage/burgagelaw13.BookQuota", spec := "bookQuota", inPlace := ["slices.overlaps[string]", "maps.clone"], unfollowed := true, recurses := true, apart := false }
def BookQuotaSaid : Prop := bookQuotaRow.holds Try.pinned (OpenSpec.ofChange bookQuotaSpec)

/-- ITS FALSE NEIGHBOUR: 'it returns false'. Refute it at one input. -/
def bookQuotaWrong : ChangeSpec := { name := "bookQuota", fn := fun _ => fun
  | [d1, d2] => { results := [.lit (.bool false)], args := [d1, d2] }
  | _ => none }
def BookQuotaWrongFalsely : Prop := bookQuotaRow.holds Try.pinned (OpenSpec.ofChange bookQuotaWrong)

/-- 'burgagelaw13.BookKeeps': WHATEVER THE INPUT: true; the input reads as it did. -/
def bookKeepsSpec : ChangeSpec := { name := "bookKeeps", fn := fun _ => fun
  | [d1, d2, d3] => { results := [.lit (.bool true)], args := [d1, d2, d3] }
  | _ => none }
def bookKeepsRow : OpenClaim := { program := "ytcpmnkihhenbgaa", sum := "e9ede3a27f6352eede176ddf7fec651102bd859418fcce87c26e3a48e50e7d0d", func := "burgage/burgagelaw13.BookKeeps", spec := "bookKeeps", inPlace := ["slices.overlaps[string]", "maps.clone"], unfollowed := true, recurses := true, apart := false }
def BookKeepsSaid : Prop := bookKeepsRow.holds Try.pinned (OpenSpec.ofChange bookKeepsSpec)

/-- ITS FALSE NEIGHBOUR: 'it returns false'. Refute it at one input. -/
def bookKeepsWrong : ChangeSpec := { name := "bookKeeps", fn := fun _ => fun
  | [d1, d2, d3] => { results := [.lit (.bool false)], args := [d1, d2, d3] }
  | _ => none }
def BookKeepsWrongFalsely : Prop := bookKeepsRow.holds Try.pinned (OpenSpec.ofChange bookKeepsWrong)

/-- 'burgagelaw13.BookScans': WHATEVER THE INPUT: true; the input reads as it did. -/
def bookScansSpec : ChangeSpec := { name := "bookScans", fn := fun _ => fun
  | [d1, d2, d3, d4, d5] => { results := [.lit (.bool true)], args := [d1, d2, d3, d4, d5] }
  | _ => none }
def bookScansRow : OpenClaim := { program := "ytcpmnkihhenbgaa", sum := "e9ede3a27f6352eede176ddf7fec651102bd859418fcce87c26e3a48e50e7d0d", func := "burgage/burgagelaw13.BookScans", spec := "bookScans", inPlace := ["slices.overlaps[string]", "maps.clone"], unfollowed := true, recurses := true, apart := false }
def BookScansSaid : Prop := bookScansRow.holds Try.pinned (OpenSpec.ofChange bookScansSpec)

/-- ITS FALSE NEIGHBOUR: 'it returns false'. Refute it at one input. -/
def bookScansWrong : ChangeSpec := { name := "bookScans", fn := fun _ => fun
  | [d1, d2, d3, d4, d5] => { results := [.lit (.bool false)], args := [d1, d2, d3, d4, d5] }
  | _ => none }
def BookScansWrongFalsely : Prop := bookScansRow.holds Try.pinned (OpenSpec.ofChange bookScansWrong)

/- THE SECOND FORM. 'bulk': how many values and letters a reading holds, each counted each time it is reached (what is shared counts as often as it is met; a slice's spare places count too). A statement '..UptoSaid' is the law's where the arguments, and the package variables that the reading takes, are together of bulk at most 1048576: NARROWER than '..Said'. Prove '..Said' where nothing that the law and all that it calls make is longer than what came in: it says more and counts as full. Else prove '..UptoSaid'. A law counts once. -/
mutual
def uptoBulk {H : Type} : DataW H → Nat
  | .lit (.string bytes) => bytes.length + 1
  | .lit _ => 1
  | .nil => 1
  | .ptr d => uptoBulk d + 1
  | .slice elems spare => uptoBulkAll elems + uptoBulkAll spare + 1
  | .agg parts => uptoBulkAll parts + 1
  | .iface _ d => uptoBulk d + 1
  | .map entries => uptoBulkEntries entries + 1
  | .held _ => 1
def uptoBulkAll {H : Type} : List (DataW H) → Nat
  | [] => 0
  | d :: r => uptoBulk d + uptoBulkAll r
def uptoBulkEntries {H : Type} : List (Lit × DataW H) → Nat
  | [] => 0
  | x :: r => uptoBulkEntry x + uptoBulkEntries r
def uptoBulkEntry {H : Type} : Lit × DataW H → Nat
  | (.string bytes, d) => bytes.length + uptoBulk d + 1
  | (_, d) => uptoBulk d + 1
 end
def uptoSmall : (H : Type) → List (DataW H) → Bool := fun _ ds => decide (uptoBulkAll ds ≤ 1048576)
def OpenSpec.upto (s : _root_.Go.ChangeSpec) : _root_.Go.OpenSpec := { _root_.Go.OpenSpec.ofChange s with cond := some uptoSmall }

/-- 'burgagelaw13.BookTells', WHERE WHAT IT READS IS OF BULK AT MOST 1048576: true; the input reads as it did. -/
def bookTellsUptoRow : OpenClaim := { program := "ytcpmnkihhenbgaa", sum := "e9ede3a27f6352eede176ddf7fec651102bd859418fcce87c26e3a48e50e7d0d", func := "burgage/burgagelaw13.BookTells", spec := "bookTells", inPlace := ["slices.overlaps[string]", "maps.clone"], unfollowed := true, recurses := true, apart := false, narrowed := true }
def BookTellsUptoSaid : Prop := bookTellsUptoRow.holds Try.pinned (OpenSpec.upto bookTellsSpec)

/-- 'burgagelaw13.BookCopies', WHERE WHAT IT READS IS OF BULK AT MOST 1048576: true; the input reads as it did. -/
def bookCopiesUptoRow : OpenClaim := { program := "ytcpmnkihhenbgaa", sum := "e9ede3a27f6352eede176ddf7fec651102bd859418fcce87c26e3a48e50e7d0d", func := "burgage/burgagelaw13.BookCopies", spec := "bookCopies", inPlace := ["slices.overlaps[string]", "maps.clone"], unfollowed := true, recurses := true, apart := false, narrowed := true }
def BookCopiesUptoSaid : Prop := bookCopiesUptoRow.holds Try.pinned (OpenSpec.upto bookCopiesSpec)

/-- 'burgagelaw13.BookSmall', WHERE WHAT IT READS IS OF BULK AT MOST 1048576: true; the input reads as it did. -/
def bookSmallUptoRow : OpenClaim := { program := "ytcpmnkihhenbgaa", sum := "e9ede3a27f6352eede176ddf7fec651102bd859418fcce87c26e3a48e50e7d0d", func := "burgage/burgagelaw13.BookSmall", spec := "bookSmall", inPlace := ["slices.overlaps[string]", "maps.clone"], unfollowed := true, recurses := true, apart := false, narrowed := true }
def BookSmallUptoSaid : Prop := bookSmallUptoRow.holds Try.pinned (OpenSpec.upto bookSmallSpec)

/-- 'burgagelaw13.BookQuota', WHERE WHAT IT READS IS OF BULK AT MOST 1048576: true; the input reads as it did. -/
def bookQuotaUptoRow : OpenClaim := { program := "ytcpmnkihhenbgaa", sum := "e9ede3a27f6352eede176ddf7fec651102bd859418fcce87c26e3a48e50e7d0d", func := "burgage/burgagelaw13.BookQuota", spec := "bookQuota", inPlace := ["slices.overlaps[string]", "maps.clone"], unfollowed := true, recurses := true, apart := false, narrowed := true }
def BookQuotaUptoSaid : Prop := bookQuotaUptoRow.holds Try.pinned (OpenSpec.upto bookQuotaSpec)

/-- 'burgagelaw13.BookKeeps', WHERE WHAT IT READS IS OF BULK AT MOST 1048576: true; the input reads as it did. -/
def bookKeepsUptoRow : OpenClaim := { program := "ytcpmnkihhenbgaa", sum := "e9ede3a27f6352eede176ddf7fec651102bd859418fcce87c26e3a48e50e7d0d", func := "burgage/burgagelaw13.BookKeeps", spec := "bookKeeps", inPlace := ["slices.overlaps[string]", "maps.clone"], unfollowed := true, recurses := true, apart := false, narrowed := true }
def BookKeepsUptoSaid : Prop := bookKeepsUptoRow.holds Try.pinned (OpenSpec.upto bookKeepsSpec)

/-- 'burgagelaw13.BookScans', WHERE WHAT IT READS IS OF BULK AT MOST 1048576: true; the input reads as it did. -/
def bookScansUptoRow : OpenClaim := { program := "ytcpmnkihhenbgaa", sum := "e9ede3a27f6352eede176ddf7fec651102bd859418fcce87c26e3a48e50e7d0d", func := "burgage/burgagelaw13.BookScans", spec := "bookScans", inPlace := ["slices.overlaps[string]", "maps.clone"], unfollowed := true, recurses := true, apart := false, narrowed := true }
def BookScansUptoSaid : Prop := bookScansUptoRow.holds Try.pinned (OpenSpec.upto bookScansSpec)

end Rows
end Go.Proofs.Ytcpmnkihhenbgaa
