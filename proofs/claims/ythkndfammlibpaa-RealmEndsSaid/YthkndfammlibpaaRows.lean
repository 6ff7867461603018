/-
  No cell of these rows narrows 'for every input' (looked for: loops, veiled, ifaces, maps, wideKeys, modest, calm, conditions, laid).
  DERIVED. THE GIVEN ROWS OF THIS SEAT. 4 by the template 'for every input the law returns true; each argument reads behind the call as it read before'; 0 by the template 'total and deterministic' (their statements: YthkndfammlibpaaTotals.lean).
  GIVEN WITH THE SEED: the statements are not yours to turn. If you find one false, say at which input.
  Laid BY PROGRAM, IN A SANDBOX (cutbox-rows.mjs): the forced cells as the released guide's own fill.sh prints them over the translation 3fd6feca2c6dd4ed… (all of the seat's roots in one cut). By AI agents, Wed Nov 11 2026. No macro, syntax, notation, axiom, sorry.
-/
import Derived.Test.YthkndfammlibpaaChecked
import GoSem.Claim
import GoSem.ClaimJoined
import GoSem.ClaimMapViews
import Derived.JoinedTies
import Derived.KernelRfl
namespace Go.Proofs.Ythkndfammlibpaa
/- THE CELL 'sum', in the pinned program and in every row, IS THE sha256 OF THE DUMP (.gsa) THAT YthkndfammlibpaaProg.lean LOADS. Nothing in Lean hashes anything: it is a label: what it is worth is what the hold of that sum in a sandbox is worth. -/
noncomputable def Try.pinned : Pinned := { name := "ythkndfammlibpaa", sum := "3fd6feca2c6dd4ed0c98a412c8d4a582847772866f7ca412bea1d390af7facb5", checked := Try.checked }
namespace Rows
def none {H : Type} : Left H := { results := [], args := [] }

/-- 'burgagelaw06.RealmTells': WHATEVER THE INPUT: true; the input reads as it did. -/
def realmTellsSpec : ChangeSpec := { name := "realmTells", fn := fun _ => fun
  | [d1, d2, d3] => { results := [.lit (.bool true)], args := [d1, d2, d3] }
  | _ => none }
def realmTellsRow : OpenClaim := { program := "ythkndfammlibpaa", sum := "3fd6feca2c6dd4ed0c98a412c8d4a582847772866f7ca412bea1d390af7facb5", func := "burgage/burgagelaw06.RealmTells", spec := "realmTells", unfollowed := true, recurses := true, apart := false }
def RealmTellsSaid : Prop := realmTellsRow.holds Try.pinned (OpenSpec.ofChange realmTellsSpec)

/-- ITS FALSE NEIGHBOUR: 'it returns false'. Refute it at one input. -/
def realmTellsWrong : ChangeSpec := { name := "realmTells", fn := fun _ => fun
  | [d1, d2, d3] => { results := [.lit (.bool false)], args := [d1, d2, d3] }
  | _ => none }
def RealmTellsWrongFalsely : Prop := realmTellsRow.holds Try.pinned (OpenSpec.ofChange realmTellsWrong)

/-- 'burgagelaw06.RealmEnds': WHATEVER THE INPUT: true; the input reads as it did. -/
def realmEndsSpec : ChangeSpec := { name := "realmEnds", fn := fun _ => fun
  | [] => { results := [.lit (.bool true)], args := [] }
  | _ => none }
def realmEndsRow : OpenClaim := { program := "ythkndfammlibpaa", sum := "3fd6feca2c6dd4ed0c98a412c8d4a582847772866f7ca412bea1d390af7facb5", func := "burgage/burgagelaw06.RealmEnds", spec := "realmEnds", unfollowed := true, recurses := true, apart := false }
def RealmEndsSaid : Prop := realmEndsRow.holds Try.pinned (OpenSpec.ofChange realmEndsSpec)

/-- ITS FALSE NEIGHBOUR: 'it returns false'. Refute it at one input. -/
def realmEndsWrong : ChangeSpec := { name := "realmEnds", fn := fun _ => fun
  | [] => { results := [.lit (.bool false)], args := [] }
  | _ => none }
def RealmEndsWrongFalsely : Prop := realmEndsRow.holds Try.pinned (OpenSpec.ofChange realmEndsWrong)

/-- 'burgagelaw06.RealmApart': WHATEVER THE INPUT: true; the input reads as it did. -/
def realmApartSpec : ChangeSpec := { name := "realmApart", fn := fun _ => fun
  | [d1, d2, d3, d4, d5] => { results := [.lit (.bool true)], args := [d1, d2, d3, d4, d5] }
  | _ => none }
def realmApartRow : OpenClaim := { program := "ythkndfammlibpaa", sum := "3fd6feca2c6dd4ed0c98a412c8d4a582847772866f7ca412bea1d390af7facb5", func := "burgage/burgagelaw06.RealmApart", spec := "realmApart", unfollowed := true, recurses := true, apart := false }
def RealmApartSaid : Prop := realmApartRow.holds Try.pinned (OpenSpec.ofChange realmApartSpec)

/-- ITS FALSE NEIGHBOUR: 'it returns false'. Refute it at one input. -/
def realmApartWrong : ChangeSpec := { name := "realmApart", fn := fun _ => fun
  | [d1, d2, d3, d4, d5] => { results := [.lit (.bool false)], args := [d1, d2, d3, d4, d5] }
  | _ => none }
def RealmApartWrongFalsely : Prop := realmApartRow.holds Try.pinned (OpenSpec.ofChange realmApartWrong)

/-- 'burgagelaw06.RealmBack': WHATEVER THE INPUT: true; the input reads as it did. -/
def realmBackSpec : ChangeSpec := { name := "realmBack", fn := fun _ => fun
  | [d1, d2, d3] => { results := [.lit (.bool true)], args := [d1, d2, d3] }
  | _ => none }
def realmBackRow : OpenClaim := { program := "ythkndfammlibpaa", sum := "3fd6feca2c6dd4ed0c98a412c8d4a582847772866f7ca412bea1d390af7facb5", func := "burgage/burgagelaw06.RealmBack", spec := "realmBack", unfollowed := true, recurses := true, apart := false }
def RealmBackSaid : Prop := realmBackRow.holds Try.pinned (OpenSpec.ofChange realmBackSpec)

/-- ITS FALSE NEIGHBOUR: 'it returns false'. Refute it at one input. -/
def realmBackWrong : ChangeSpec := { name := "realmBack", fn := fun _ => fun
  | [d1, d2, d3] => { results := [.lit (.bool false)], args := [d1, d2, d3] }
  | _ => none }
def RealmBackWrongFalsely : Prop := realmBackRow.holds Try.pinned (OpenSpec.ofChange realmBackWrong)

/- THE SECOND FORM. 'bulk': how many values and letters a reading holds, each counted each time it is reached (what is shared counts as often as it is met; a slice's spare places count too). A statement '..UptoSaid' is the law's where the arguments, and the package variables that the reading takes, are together of bulk at most 1048576: NARROWER than '..Said'. Prove '..Said' where nothing that the law and all that it calls make is longer than what came in: it says more and counts as full. Else prove '..UptoSaid'. A law counts once. -/
mutual
def uptoBulk {H : Type} : DataW H → Nat
  | .lit (.string bytes) => bytes.length + 1
  | .lit _ => 1
  | .nil => 1
  | .ptr d => uptoBulk d + 1
  | .slice elems spare => uptoBulkAll elems + uptoBulkAll spare + 1
  | .agg parts => uptoBulkAll parts + 1
  | .iface _ d => uptoBulk d + 1
  | .map entries => uptoBulkEntries entries + 1
  | .held _ => 1
def uptoBulkAll {H : Type} : List (DataW H) → Nat
  | [] => 0
  | d :: r => uptoBulk d + uptoBulkAll r
def uptoBulkEntries {H : Type} : List (Lit × DataW H) → Nat
  | [] => 0
  | x :: r => uptoBulkEntry x + uptoBulkEntries r
def uptoBulkEntry {H : Type} : Lit × DataW H → Nat
  | (.string bytes, d) => bytes.length + uptoBulk d + 1
  | (_, d) => uptoBulk d + 1
 end
def uptoSmall : (H : Type) → List (DataW H) → Bool := fun _ ds => decide (uptoBulkAll ds ≤ 1048576)
def OpenSpec.upto (s : _root_.Go.ChangeSpec) : _root_.Go.OpenSpec := { _root_.Go.OpenSpec.ofChange s with cond := some uptoSmall }

/-- 'burgagelaw06.RealmTells', WHERE WHAT IT READS IS OF BULK AT MOST 1048576: true; the input reads as it did. -/
def realmTellsUptoRow : OpenClaim := { program := "ythkndfammlibpaa", sum := "3fd6feca2c6dd4ed0c98a412c8d4a582847772866f7ca412bea1d390af7facb5", func := "burgage/burgagelaw06.RealmTells", spec := "realmTells", unfollowed := true, recurses := true, apart := false, narrowed := true }
def RealmTellsUptoSaid : Prop := realmTellsUptoRow.holds Try.pinned (OpenSpec.upto realmTellsSpec)

/-- 'burgagelaw06.RealmEnds', WHERE WHAT IT READS IS OF BULK AT MOST 1048576: true; the input reads as it did. -/
def realmEndsUptoRow : OpenClaim := { program := "ythkndfammlibpaa", sum := "3fd6feca2c6dd4ed0c98a412c8d4a582847772866f7ca412bea1d390af7facb5", func := "burgage/burgagelaw06.RealmEnds", spec := "realmEnds", unfollowed := true, recurses := true, apart := false, narrowed := true }
def RealmEndsUptoSaid : Prop := realmEndsUptoRow.holds Try.pinned (OpenSpec.upto realmEndsSpec)

/-- 'burgagelaw06.RealmApart', WHERE WHAT IT READS IS OF BULK AT MOST 1048576: true; the input reads as it did. -/
def realmApartUptoRow : OpenClaim := { program := "ythkndfammlibpaa", sum := "3fd6feca2c6dd4ed0c98a412c8d4a582847772866f7ca412bea1d390af7facb5", func := "burgage/burgagelaw06.RealmApart", spec := "realmApart", unfollowed := true, recurses := true, apart := false, narrowed := true }
def RealmApartUptoSaid : Prop := realmApartUptoRow.holds Try.pinned (OpenSpec.upto realmApartSpec)

/-- 'burgagelaw06.RealmBack', WHERE WHAT IT READS IS OF BULK AT MOST 1048576: true; the input reads as it did. -/
def realmBackUptoRow : OpenClaim := { program := "ythkndfammlibpaa", sum := "3fd6feca2c6dd4ed0c98a412c8d4a582847772866f7ca412bea1d390af7facb5", func := "burgage/burgagelaw06.RealmBack", spec := "realmBack", unfollowed := true, recurses := true, apart := false, narrowed := true }
def RealmBackUptoSaid : Prop := realmBackUptoRow.holds Try.pinned (OpenSpec.upto realmBackSpec)

end Rows
end Go.Proofs.Ythkndfammlibpaa
