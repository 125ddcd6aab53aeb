/-
  DERIVED. GIVEN WITH THE SEED: THE CARDS: each row of YtfpodnaaappocaaGreatDoorRows.lean that lists a variable, with what it lists TIED to the program's text (the seventh form; the later family's looks); each row that meets fmt, with fmt's text TOLD by the authors' own Lean function (tested against real Go, not proved from fmt's source: count such statements apart). THE CARD IS WHAT COUNTS. Prove the row's statement (the work); the ties are given (YtfpodnaaappocaaGreatDoorTie.lean); close each card by the builder's one call (the guide's Derived/Test/ToyasCard.lean, 'card_holds'). Laid BY PROGRAM, IN A SANDBOX (cutbox-door.mjs). By AI agents, Wed Nov 11 2026. No macro, syntax, notation, axiom, sorry.
-/
import Derived.Test.YtfpodnaaappocaaGreatDoorRows
import GoSem.ClaimSeven
namespace Go.Proofs.YtfpodnaaappocaaGreatDoor
namespace Rows

/-- THE TIED CARD OF 'turnpikelaw05.TargetMemory'. -/
def targetMemoryCard : Claim7 := { stood := { row := targetMemoryRow, standIns := [], harness := (true, "3992a35265ef3b8a187db4e4adadc07eeaa8e734e32d4080382502cae1dfe818"), looks := false }, kinds := [], alts := [], laidByText := true, laidKinds := [.data, .data, .data, .data, .pinned], laidTests := true, laidLooks := .later }
def TargetMemoryCardSaid : Prop := Claim7.holds Tryz.pinned (.plain (OpenSpec.ofChange targetMemorySpec)) targetMemoryCard

/-- THE SECOND FORM's CARD OF 'turnpikelaw05.TargetMemory'. -/
def targetMemoryUptoCard : Claim7 := { stood := { row := targetMemoryUptoRow, standIns := [], harness := (true, "3992a35265ef3b8a187db4e4adadc07eeaa8e734e32d4080382502cae1dfe818"), looks := false }, kinds := [], alts := [], laidByText := true, laidKinds := [.data, .data, .data, .data, .pinned], laidTests := true, laidLooks := .later }
def TargetMemoryUptoCardSaid : Prop := Claim7.holds Tryz.pinned (.plain (OpenSpec.upto targetMemorySpec)) targetMemoryUptoCard
end Rows
end Go.Proofs.YtfpodnaaappocaaGreatDoor
