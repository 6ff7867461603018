/-
  DERIVED. GIVEN WITH THE SEED: THE CARDS: each row of YtjaijomkdgoenaaDoorRows.lean that lists a variable, with what it lists TIED to the program's text (the seventh form; the later family's looks); each row that meets fmt, with fmt's text TOLD by the authors' own Lean function (tested against real Go, not proved from fmt's source: count such statements apart). THE CARD IS WHAT COUNTS. Prove the row's statement (the work); the ties are given (YtjaijomkdgoenaaDoorTie.lean); close each card by the builder's one call (the guide's Derived/Test/ToyasCard.lean, 'card_holds'). Laid BY PROGRAM, IN A SANDBOX (cutbox-door.mjs). By AI agents, Wed Nov 11 2026. No macro, syntax, notation, axiom, sorry.
-/
import Derived.Test.YtjaijomkdgoenaaDoorRows
import GoSem.ClaimSeven
namespace Go.Proofs.YtjaijomkdgoenaaDoor
namespace Rows

/-- THE TIED CARD OF 'burgagelaw09.NodeBack'. -/
def nodeBackCard : Claim7 := { stood := { row := nodeBackRow, standIns := [], harness := (true, "cbe619a368729c4ce3288e7ab646d2144ff7aeba0be6020a2e497be9b08bce5a"), looks := false }, kinds := [], alts := [], laidByText := true, laidKinds := [.data], laidTests := true, laidLooks := .later }
def NodeBackCardSaid : Prop := Claim7.holds Tryd.pinned (.plain (OpenSpec.ofChange nodeBackSpec)) nodeBackCard

/-- THE TIED CARD OF 'burgagelaw09.NodeGrows'. -/
def nodeGrowsCard : Claim7 := { stood := { row := nodeGrowsRow, standIns := [], harness := (true, "cbe619a368729c4ce3288e7ab646d2144ff7aeba0be6020a2e497be9b08bce5a"), looks := false }, kinds := [], alts := [], laidByText := true, laidKinds := [.data], laidTests := true, laidLooks := .later }
def NodeGrowsCardSaid : Prop := Claim7.holds Tryd.pinned (.plain (OpenSpec.ofChange nodeGrowsSpec)) nodeGrowsCard

/-- THE SECOND FORM's CARD OF 'burgagelaw09.NodeBack'. -/
def nodeBackUptoCard : Claim7 := { stood := { row := nodeBackUptoRow, standIns := [], harness := (true, "cbe619a368729c4ce3288e7ab646d2144ff7aeba0be6020a2e497be9b08bce5a"), looks := false }, kinds := [], alts := [], laidByText := true, laidKinds := [.data], laidTests := true, laidLooks := .later }
def NodeBackUptoCardSaid : Prop := Claim7.holds Tryd.pinned (.plain (OpenSpec.upto nodeBackSpec)) nodeBackUptoCard

/-- THE SECOND FORM's CARD OF 'burgagelaw09.NodeGrows'. -/
def nodeGrowsUptoCard : Claim7 := { stood := { row := nodeGrowsUptoRow, standIns := [], harness := (true, "cbe619a368729c4ce3288e7ab646d2144ff7aeba0be6020a2e497be9b08bce5a"), looks := false }, kinds := [], alts := [], laidByText := true, laidKinds := [.data], laidTests := true, laidLooks := .later }
def NodeGrowsUptoCardSaid : Prop := Claim7.holds Tryd.pinned (.plain (OpenSpec.upto nodeGrowsSpec)) nodeGrowsUptoCard
end Rows
end Go.Proofs.YtjaijomkdgoenaaDoor
