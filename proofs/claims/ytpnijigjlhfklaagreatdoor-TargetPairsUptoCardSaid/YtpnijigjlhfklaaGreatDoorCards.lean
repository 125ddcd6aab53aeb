/-
  DERIVED. GIVEN WITH THE SEED: THE CARDS: each row of YtpnijigjlhfklaaGreatDoorRows.lean that lists a variable, with what it lists TIED to the program's text (the seventh form; the later family's looks); each row that meets fmt, with fmt's text TOLD by the authors' own Lean function (tested against real Go, not proved from fmt's source: count such statements apart). THE CARD IS WHAT COUNTS. Prove the row's statement (the work); the ties are given (YtpnijigjlhfklaaGreatDoorTie.lean); close each card by the builder's one call (the guide's Derived/Test/ToyasCard.lean, 'card_holds'). Laid BY PROGRAM, IN A SANDBOX (cutbox-door.mjs). By AI agents, Wed Nov 11 2026. No macro, syntax, notation, axiom, sorry.
-/
import Derived.Test.YtpnijigjlhfklaaGreatDoorRows
import GoSem.ClaimSeven
namespace Go.Proofs.YtpnijigjlhfklaaGreatDoor
namespace Rows

/-- THE TIED CARD OF 'turnpikelaw05.TargetBack'. -/
def targetBackCard : Claim7 := { stood := { row := targetBackRow, standIns := [], harness := (true, "b44a8619c1b1002ebe3e7b490b8c8c23342c9eded82441ef514303dfbae5b326"), looks := false }, kinds := [], alts := [], laidByText := true, laidKinds := [.data, .data, .data, .data, .pinned], laidTests := true, laidLooks := .later }
def TargetBackCardSaid : Prop := Claim7.holds Tryz.pinned (.plain (OpenSpec.ofChange targetBackSpec)) targetBackCard

/-- THE TIED CARD OF 'turnpikelaw05.TargetPairs'. -/
def targetPairsCard : Claim7 := { stood := { row := targetPairsRow, standIns := [], harness := (true, "b44a8619c1b1002ebe3e7b490b8c8c23342c9eded82441ef514303dfbae5b326"), looks := false }, kinds := [], alts := [], laidByText := true, laidKinds := [.data, .data, .data, .data, .pinned], laidTests := true, laidLooks := .later }
def TargetPairsCardSaid : Prop := Claim7.holds Tryz.pinned (.plain (OpenSpec.ofChange targetPairsSpec)) targetPairsCard

/-- THE TIED CARD OF 'turnpikelaw05.TargetMemory'. -/
def targetMemoryCard : Claim7 := { stood := { row := targetMemoryRow, standIns := [], harness := (true, "b44a8619c1b1002ebe3e7b490b8c8c23342c9eded82441ef514303dfbae5b326"), looks := false }, kinds := [], alts := [], laidByText := true, laidKinds := [.data, .data, .data, .data, .pinned], laidTests := true, laidLooks := .later }
def TargetMemoryCardSaid : Prop := Claim7.holds Tryz.pinned (.plain (OpenSpec.ofChange targetMemorySpec)) targetMemoryCard

/-- THE SECOND FORM's CARD OF 'turnpikelaw05.TargetBack'. -/
def targetBackUptoCard : Claim7 := { stood := { row := targetBackUptoRow, standIns := [], harness := (true, "b44a8619c1b1002ebe3e7b490b8c8c23342c9eded82441ef514303dfbae5b326"), looks := false }, kinds := [], alts := [], laidByText := true, laidKinds := [.data, .data, .data, .data, .pinned], laidTests := true, laidLooks := .later }
def TargetBackUptoCardSaid : Prop := Claim7.holds Tryz.pinned (.plain (OpenSpec.upto targetBackSpec)) targetBackUptoCard

/-- THE SECOND FORM's CARD OF 'turnpikelaw05.TargetPairs'. -/
def targetPairsUptoCard : Claim7 := { stood := { row := targetPairsUptoRow, standIns := [], harness := (true, "b44a8619c1b1002ebe3e7b490b8c8c23342c9eded82441ef514303dfbae5b326"), looks := false }, kinds := [], alts := [], laidByText := true, laidKinds := [.data, .data, .data, .data, .pinned], laidTests := true, laidLooks := .later }
def TargetPairsUptoCardSaid : Prop := Claim7.holds Tryz.pinned (.plain (OpenSpec.upto targetPairsSpec)) targetPairsUptoCard

/-- THE SECOND FORM's CARD OF 'turnpikelaw05.TargetMemory'. -/
def targetMemoryUptoCard : Claim7 := { stood := { row := targetMemoryUptoRow, standIns := [], harness := (true, "b44a8619c1b1002ebe3e7b490b8c8c23342c9eded82441ef514303dfbae5b326"), looks := false }, kinds := [], alts := [], laidByText := true, laidKinds := [.data, .data, .data, .data, .pinned], laidTests := true, laidLooks := .later }
def TargetMemoryUptoCardSaid : Prop := Claim7.holds Tryz.pinned (.plain (OpenSpec.upto targetMemorySpec)) targetMemoryUptoCard
end Rows
end Go.Proofs.YtpnijigjlhfklaaGreatDoor
