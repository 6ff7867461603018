/-
  No cell of these rows narrows 'for every input' (looked for: loops, veiled, ifaces, maps, wideKeys, modest, calm, conditions, laid).
  DERIVED. THE GIVEN ROWS OF THIS SEAT. 4 by the template 'for every input the law returns true; each argument reads behind the call as it read before'; 0 by the template 'total and deterministic' (their statements: YtjlfgmjcmicoaaaTotals.lean).
  GIVEN WITH THE SEED: the statements are not yours to turn. If you find one false, say at which input.
  Laid BY PROGRAM, IN A SANDBOX (cutbox-rows.mjs): the forced cells as the released guide's own fill.sh prints them over the translation e70d4884eccc6c37… (all of the seat's roots in one cut). By AI agents, Wed Nov 11 2026. No macro, syntax, notation, axiom, sorry.
-/
import Derived.Test.YtjlfgmjcmicoaaaChecked
import GoSem.Claim
import GoSem.ClaimJoined
import GoSem.ClaimMapViews
import Derived.JoinedTies
import Derived.KernelRfl
namespace Go.Proofs.Ytjlfgmjcmicoaaa
/- THE CELL 'sum', in the pinned program and in every row, IS THE sha256 OF THE DUMP (.gsa) THAT YtjlfgmjcmicoaaaProg.lean LOADS. Nothing in Lean hashes anything: it is a label: what it is worth is what the hold of that sum in a sandbox is worth. -/
noncomputable def Try.pinned : Pinned := { name := "ytjlfgmjcmicoaaa", sum := "e70d4884eccc6c371fc2f74fa32a41c5f7ad23af602d58968f7298b0dc5efb64", checked := Try.checked }
namespace Rows
def none {H : Type} : Left H := { results := [], args := [] }

/-- 'burgagelaw29.LiveBounds': WHATEVER THE INPUT: true; the input reads as it did. -/
def liveBoundsSpec : ChangeSpec := { name := "liveBounds", fn := fun _ => fun
  | [d1, d2, d3] => { results := [.lit (.bool true)], args := [d1, d2, d3] }
  | _ => none }
def liveBoundsRow : OpenClaim := { program := "ytjlfgmjcmicoaaa", sum := "e70d4884eccc6c371fc2f74fa32a41c5f7ad23af602d58968f7298b0dc5efb64", func := "burgage/burgagelaw29.LiveBounds", spec := "liveBounds", unfollowed := true, recurses := true, apart := false }
def LiveBoundsSaid : Prop := liveBoundsRow.holds Try.pinned (OpenSpec.ofChange liveBoundsSpec)

/-- ITS FALSE NEIGHBOUR: 'it returns false'. Refute it at one input. -/
def liveBoundsWrong : ChangeSpec := { name := "liveBounds", fn := fun _ => fun
  | [d1, d2, d3] => { results := [.lit (.bool false)], args := [d1, d2, d3] }
  | _ => none }
def LiveBoundsWrongFalsely : Prop := liveBoundsRow.holds Try.pinned (OpenSpec.ofChange liveBoundsWrong)

/-- 'burgagelaw29.LiveFairs': WHATEVER THE INPUT: true; the input reads as it did. -/
def liveFairsSpec : ChangeSpec := { name := "liveFairs", fn := fun _ => fun
  | [d1, d2] => { results := [.lit (.bool true)], args := [d1, d2] }
  | _ => none }
def liveFairsRow : OpenClaim := { program := "ytjlfgmjcmicoaaa", sum := "e70d4884eccc6c371fc2f74fa32a41c5f7ad23af602d58968f7298b0dc5efb64", func := "burgage/burgagelaw29.LiveFairs", spec := "liveFairs", unfollowed := true, recurses := true, apart := false }
def LiveFairsSaid : Prop := liveFairsRow.holds Try.pinned (OpenSpec.ofChange liveFairsSpec)

/-- ITS FALSE NEIGHBOUR: 'it returns false'. Refute it at one input. -/
def liveFairsWrong : ChangeSpec := { name := "liveFairs", fn := fun _ => fun
  | [d1, d2] => { results := [.lit (.bool false)], args := [d1, d2] }
  | _ => none }
def LiveFairsWrongFalsely : Prop := liveFairsRow.holds Try.pinned (OpenSpec.ofChange liveFairsWrong)

/-- 'burgagelaw29.LiveSmall': WHATEVER THE INPUT: true; the input reads as it did. -/
def liveSmallSpec : ChangeSpec := { name := "liveSmall", fn := fun _ => fun
  | [] => { results := [.lit (.bool true)], args := [] }
  | _ => none }
def liveSmallRow : OpenClaim := { program := "ytjlfgmjcmicoaaa", sum := "e70d4884eccc6c371fc2f74fa32a41c5f7ad23af602d58968f7298b0dc5efb64", func := "burgage/burgagelaw29.LiveSmall", spec := "liveSmall", unfollowed := true, recurses := true, apart := false }
def LiveSmallSaid : Prop := liveSmallRow.holds Try.pinned (OpenSpec.ofChange liveSmallSpec)

/-- ITS FALSE NEIGHBOUR: 'it returns false'. Refute it at one input. -/
def liveSmallWrong : ChangeSpec := { name := "liveSmall", fn := fun _ => fun
  | [] => { results := [.lit (.bool false)], args := [] }
  | _ => none }
def LiveSmallWrongFalsely : Prop := liveSmallRow.holds Try.pinned (OpenSpec.ofChange liveSmallWrong)

/-- 'burgagelaw29.LiveGrows': WHATEVER THE INPUT: true; the input reads as it did. -/
def liveGrowsSpec : ChangeSpec := { name := "liveGrows", fn := fun _ => fun
  | [d1, d2, d3, d4] => { results := [.lit (.bool true)], args := [d1, d2, d3, d4] }
  | _ => none }
def liveGrowsRow : OpenClaim := { program := "ytjlfgmjcmicoaaa", sum := "e70d4884eccc6c371fc2f74fa32a41c5f7ad23af602d58968f7298b0dc5efb64", func := "burgage/burgagelaw29.LiveGrows", spec := "liveGrows", unfollowed := true, recurses := true, apart := false }
def LiveGrowsSaid : Prop := liveGrowsRow.holds Try.pinned (OpenSpec.ofChange liveGrowsSpec)

/-- ITS FALSE NEIGHBOUR: 'it returns false'. Refute it at one input. -/
def liveGrowsWrong : ChangeSpec := { name := "liveGrows", fn := fun _ => fun
  | [d1, d2, d3, d4] => { results := [.lit (.bool false)], args := [d1, d2, d3, d4] }
  | _ => none }
def LiveGrowsWrongFalsely : Prop := liveGrowsRow.holds Try.pinned (OpenSpec.ofChange liveGrowsWrong)

/- THE SECOND FORM. 'bulk': how many values and letters a reading holds, each counted each time it is reached (what is shared counts as often as it is met; a slice's spare places count too). A statement '..UptoSaid' is the law's where the arguments, and the package variables that the reading takes, are together of bulk at most 1048576: NARROWER than '..Said'. Prove '..Said' where nothing that the law and all that it calls make is longer than what came in: it says more and counts as full. Else prove '..UptoSaid'. A law counts once. -/
mutual
def uptoBulk {H : Type} : DataW H → Nat
  | .lit (.string bytes) => bytes.length + 1
  | .lit _ => 1
  | .nil => 1
  | .ptr d => uptoBulk d + 1
  | .slice elems spare => uptoBulkAll elems + uptoBulkAll spare + 1
  | .agg parts => uptoBulkAll parts + 1
  | .iface _ d => uptoBulk d + 1
  | .map entries => uptoBulkEntries entries + 1
  | .held _ => 1
def uptoBulkAll {H : Type} : List (DataW H) → Nat
  | [] => 0
  | d :: r => uptoBulk d + uptoBulkAll r
def uptoBulkEntries {H : Type} : List (Lit × DataW H) → Nat
  | [] => 0
  | x :: r => uptoBulkEntry x + uptoBulkEntries r
def uptoBulkEntry {H : Type} : Lit × DataW H → Nat
  | (.string bytes, d) => bytes.length + uptoBulk d + 1
  | (_, d) => uptoBulk d + 1
 end
def uptoSmall : (H : Type) → List (DataW H) → Bool := fun _ ds => decide (uptoBulkAll ds ≤ 1048576)
def OpenSpec.upto (s : _root_.Go.ChangeSpec) : _root_.Go.OpenSpec := { _root_.Go.OpenSpec.ofChange s with cond := some uptoSmall }

/-- 'burgagelaw29.LiveBounds', WHERE WHAT IT READS IS OF BULK AT MOST 1048576: true; the input reads as it did. -/
def liveBoundsUptoRow : OpenClaim := { program := "ytjlfgmjcmicoaaa", sum := "e70d4884eccc6c371fc2f74fa32a41c5f7ad23af602d58968f7298b0dc5efb64", func := "burgage/burgagelaw29.LiveBounds", spec := "liveBounds", unfollowed := true, recurses := true, apart := false, narrowed := true }
def LiveBoundsUptoSaid : Prop := liveBoundsUptoRow.holds Try.pinned (OpenSpec.upto liveBoundsSpec)

/-- 'burgagelaw29.LiveFairs', WHERE WHAT IT READS IS OF BULK AT MOST 1048576: true; the input reads as it did. -/
def liveFairsUptoRow : OpenClaim := { program := "ytjlfgmjcmicoaaa", sum := "e70d4884eccc6c371fc2f74fa32a41c5f7ad23af602d58968f7298b0dc5efb64", func := "burgage/burgagelaw29.LiveFairs", spec := "liveFairs", unfollowed := true, recurses := true, apart := false, narrowed := true }
def LiveFairsUptoSaid : Prop := liveFairsUptoRow.holds Try.pinned (OpenSpec.upto liveFairsSpec)

/-- 'burgagelaw29.LiveSmall', WHERE WHAT IT READS IS OF BULK AT MOST 1048576: true; the input reads as it did. -/
def liveSmallUptoRow : OpenClaim := { program := "ytjlfgmjcmicoaaa", sum := "e70d4884eccc6c371fc2f74fa32a41c5f7ad23af602d58968f7298b0dc5efb64", func := "burgage/burgagelaw29.LiveSmall", spec := "liveSmall", unfollowed := true, recurses := true, apart := false, narrowed := true }
def LiveSmallUptoSaid : Prop := liveSmallUptoRow.holds Try.pinned (OpenSpec.upto liveSmallSpec)

/-- 'burgagelaw29.LiveGrows', WHERE WHAT IT READS IS OF BULK AT MOST 1048576: true; the input reads as it did. -/
def liveGrowsUptoRow : OpenClaim := { program := "ytjlfgmjcmicoaaa", sum := "e70d4884eccc6c371fc2f74fa32a41c5f7ad23af602d58968f7298b0dc5efb64", func := "burgage/burgagelaw29.LiveGrows", spec := "liveGrows", unfollowed := true, recurses := true, apart := false, narrowed := true }
def LiveGrowsUptoSaid : Prop := liveGrowsUptoRow.holds Try.pinned (OpenSpec.upto liveGrowsSpec)

end Rows
end Go.Proofs.Ytjlfgmjcmicoaaa
