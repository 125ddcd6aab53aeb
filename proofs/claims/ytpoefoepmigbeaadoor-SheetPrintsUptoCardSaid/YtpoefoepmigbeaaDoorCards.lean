/-
  DERIVED. GIVEN WITH THE SEED: THE CARDS: each row of YtpoefoepmigbeaaDoorRows.lean that lists a variable, with what it lists TIED to the program's text (the seventh form; the later family's looks); each row that meets fmt, with fmt's text TOLD by the authors' own Lean function (tested against real Go, not proved from fmt's source: count such statements apart). THE CARD IS WHAT COUNTS. Prove the row's statement (the work); the ties are given (YtpoefoepmigbeaaDoorTie.lean); close each card by the builder's one call (the guide's Derived/Test/ToyasCard.lean, 'card_holds'). Laid BY PROGRAM, IN A SANDBOX (cutbox-door.mjs). By AI agents, Wed Nov 11 2026. No macro, syntax, notation, axiom, sorry.
-/
import Derived.Test.YtpoefoepmigbeaaDoorRows
import GoSem.ClaimSeven
namespace Go.Proofs.YtpoefoepmigbeaaDoor
namespace Rows

/-- THE TIED CARD OF 'turnpikelaw15.SheetPairs'. -/
def sheetPairsCard : Claim7 := { stood := { row := sheetPairsRow, standIns := [], harness := (true, "de7d0826acc06fd2d4f0d3b89f4eedd1c684017515e6ce90d659aba820a6dced"), looks := false }, kinds := [], alts := [], laidByText := true, laidKinds := [.data, .pinned], laidTests := true, laidLooks := .later }
def SheetPairsCardSaid : Prop := Claim7.holds Tryd.pinned (.plain (OpenSpec.ofChange sheetPairsSpec)) sheetPairsCard

/-- THE TIED CARD OF 'turnpikelaw15.SheetPrints'. -/
def sheetPrintsCard : Claim7 := { stood := { row := sheetPrintsRow, standIns := [], harness := (true, "de7d0826acc06fd2d4f0d3b89f4eedd1c684017515e6ce90d659aba820a6dced"), looks := false }, kinds := [], alts := [], laidByText := true, laidKinds := [.data, .pinned], laidTests := true, laidLooks := .later }
def SheetPrintsCardSaid : Prop := Claim7.holds Tryd.pinned (.plain (OpenSpec.ofChange sheetPrintsSpec)) sheetPrintsCard

/-- THE SECOND FORM's CARD OF 'turnpikelaw15.SheetPairs'. -/
def sheetPairsUptoCard : Claim7 := { stood := { row := sheetPairsUptoRow, standIns := [], harness := (true, "de7d0826acc06fd2d4f0d3b89f4eedd1c684017515e6ce90d659aba820a6dced"), looks := false }, kinds := [], alts := [], laidByText := true, laidKinds := [.data, .pinned], laidTests := true, laidLooks := .later }
def SheetPairsUptoCardSaid : Prop := Claim7.holds Tryd.pinned (.plain (OpenSpec.upto sheetPairsSpec)) sheetPairsUptoCard

/-- THE SECOND FORM's CARD OF 'turnpikelaw15.SheetPrints'. -/
def sheetPrintsUptoCard : Claim7 := { stood := { row := sheetPrintsUptoRow, standIns := [], harness := (true, "de7d0826acc06fd2d4f0d3b89f4eedd1c684017515e6ce90d659aba820a6dced"), looks := false }, kinds := [], alts := [], laidByText := true, laidKinds := [.data, .pinned], laidTests := true, laidLooks := .later }
def SheetPrintsUptoCardSaid : Prop := Claim7.holds Tryd.pinned (.plain (OpenSpec.upto sheetPrintsSpec)) sheetPrintsUptoCard
end Rows
end Go.Proofs.YtpoefoepmigbeaaDoor
