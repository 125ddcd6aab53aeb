/-
  DERIVED. GIVEN WITH THE SEED: THE CARDS: each row of YtdcfhnbagldilaaGreatDoorRows.lean that lists a variable, with what it lists TIED to the program's text (the seventh form; the later family's looks); each row that meets fmt, with fmt's text TOLD by the authors' own Lean function (tested against real Go, not proved from fmt's source: count such statements apart). THE CARD IS WHAT COUNTS. Prove the row's statement (the work); the ties are given (YtdcfhnbagldilaaGreatDoorTie.lean); close each card by the builder's one call (the guide's Derived/Test/ToyasCard.lean, 'card_holds'). Laid BY PROGRAM, IN A SANDBOX (cutbox-door.mjs). By AI agents, Wed Nov 11 2026. No macro, syntax, notation, axiom, sorry.
-/
import Derived.Test.YtdcfhnbagldilaaGreatDoorRows
import GoSem.ClaimSeven
namespace Go.Proofs.YtdcfhnbagldilaaGreatDoor
namespace Rows

/-- THE TIED CARD OF 'turnpikelaw12.MessageParses'. -/
def messageParsesCard : Claim7 := { stood := { row := messageParsesRow, standIns := [], harness := (true, "7c86448a7e4f1b674cbd7516dd76b8365d79f315e84eaa03d3e969e804ecc970"), looks := false }, kinds := [], alts := [], laidByText := true, laidKinds := [.data, .data, .data, .data, .data, .pinned], laidTests := true, laidLooks := .later }
def MessageParsesCardSaid : Prop := Claim7.holds Tryz.pinned (.plain (OpenSpec.ofChange messageParsesSpec)) messageParsesCard

/-- THE TIED CARD OF 'turnpikelaw12.MessageMemory'. -/
def messageMemoryCard : Claim7 := { stood := { row := messageMemoryRow, standIns := [], harness := (true, "7c86448a7e4f1b674cbd7516dd76b8365d79f315e84eaa03d3e969e804ecc970"), looks := false }, kinds := [], alts := [], laidByText := true, laidKinds := [.data, .data, .data, .data, .data, .pinned], laidTests := true, laidLooks := .later }
def MessageMemoryCardSaid : Prop := Claim7.holds Tryz.pinned (.plain (OpenSpec.ofChange messageMemorySpec)) messageMemoryCard

/-- THE SECOND FORM's CARD OF 'turnpikelaw12.MessageParses'. -/
def messageParsesUptoCard : Claim7 := { stood := { row := messageParsesUptoRow, standIns := [], harness := (true, "7c86448a7e4f1b674cbd7516dd76b8365d79f315e84eaa03d3e969e804ecc970"), looks := false }, kinds := [], alts := [], laidByText := true, laidKinds := [.data, .data, .data, .data, .data, .pinned], laidTests := true, laidLooks := .later }
def MessageParsesUptoCardSaid : Prop := Claim7.holds Tryz.pinned (.plain (OpenSpec.upto messageParsesSpec)) messageParsesUptoCard

/-- THE SECOND FORM's CARD OF 'turnpikelaw12.MessageMemory'. -/
def messageMemoryUptoCard : Claim7 := { stood := { row := messageMemoryUptoRow, standIns := [], harness := (true, "7c86448a7e4f1b674cbd7516dd76b8365d79f315e84eaa03d3e969e804ecc970"), looks := false }, kinds := [], alts := [], laidByText := true, laidKinds := [.data, .data, .data, .data, .data, .pinned], laidTests := true, laidLooks := .later }
def MessageMemoryUptoCardSaid : Prop := Claim7.holds Tryz.pinned (.plain (OpenSpec.upto messageMemorySpec)) messageMemoryUptoCard
end Rows
end Go.Proofs.YtdcfhnbagldilaaGreatDoor
