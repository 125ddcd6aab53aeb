/-
  DERIVED. GIVEN WITH THE SEED: THE CARDS: each row of YtlnlhhobmgiceaaGreatDoorRows.lean that lists a variable, with what it lists TIED to the program's text (the seventh form; the later family's looks); each row that meets fmt, with fmt's text TOLD by the authors' own Lean function (tested against real Go, not proved from fmt's source: count such statements apart). THE CARD IS WHAT COUNTS. Prove the row's statement (the work); the ties are given (YtlnlhhobmgiceaaGreatDoorTie.lean); close each card by the builder's one call (the guide's Derived/Test/ToyasCard.lean, 'card_holds'). Laid BY PROGRAM, IN A SANDBOX (cutbox-door.mjs). By AI agents, Wed Nov 11 2026. No macro, syntax, notation, axiom, sorry.
-/
import Derived.Test.YtlnlhhobmgiceaaGreatDoorRows
import GoSem.ClaimSeven
namespace Go.Proofs.YtlnlhhobmgiceaaGreatDoor
namespace Rows

/-- THE TIED CARD OF 'turnpikelaw15.SheetMemory'. -/
def sheetMemoryCard : Claim7 := { stood := { row := sheetMemoryRow, standIns := [], harness := (true, "811d199d0afc5eb3c6ec984b68bacb40f95f7eba39ba7a36cf72c03fe963b530"), looks := true }, kinds := [], alts := [], laidByText := true, laidKinds := [.data, .handle, .data, .pinned], laidTests := true, laidLooks := .later }
def SheetMemoryCardSaid : Prop := Claim7.holds Tryz.pinned (.plain (OpenSpec.ofChange sheetMemorySpec)) sheetMemoryCard

/-- THE SECOND FORM's CARD OF 'turnpikelaw15.SheetMemory'. -/
def sheetMemoryUptoCard : Claim7 := { stood := { row := sheetMemoryUptoRow, standIns := [], harness := (true, "811d199d0afc5eb3c6ec984b68bacb40f95f7eba39ba7a36cf72c03fe963b530"), looks := true }, kinds := [], alts := [], laidByText := true, laidKinds := [.data, .handle, .data, .pinned], laidTests := true, laidLooks := .later }
def SheetMemoryUptoCardSaid : Prop := Claim7.holds Tryz.pinned (.plain (OpenSpec.upto sheetMemorySpec)) sheetMemoryUptoCard
end Rows
end Go.Proofs.YtlnlhhobmgiceaaGreatDoor
