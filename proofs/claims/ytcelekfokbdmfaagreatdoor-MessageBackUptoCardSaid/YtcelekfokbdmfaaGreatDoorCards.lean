/-
  DERIVED. GIVEN WITH THE SEED: THE CARDS: each row of YtcelekfokbdmfaaGreatDoorRows.lean that lists a variable, with what it lists TIED to the program's text (the seventh form; the later family's looks); each row that meets fmt, with fmt's text TOLD by the authors' own Lean function (tested against real Go, not proved from fmt's source: count such statements apart). THE CARD IS WHAT COUNTS. Prove the row's statement (the work); the ties are given (YtcelekfokbdmfaaGreatDoorTie.lean); close each card by the builder's one call (the guide's Derived/Test/ToyasCard.lean, 'card_holds'). Laid BY PROGRAM, IN A SANDBOX (cutbox-door.mjs). By AI agents, Wed Nov 11 2026. No macro, syntax, notation, axiom, sorry.
-/
import Derived.Test.YtcelekfokbdmfaaGreatDoorRows
import GoSem.ClaimSeven
namespace Go.Proofs.YtcelekfokbdmfaaGreatDoor
namespace Rows

/-- THE TIED CARD OF 'turnpikelaw12.MessagePrints'. -/
def messagePrintsCard : Claim7 := { stood := { row := messagePrintsRow, standIns := [], harness := (true, "2e36dc3231e5298da2fb4206231feb3feeb8865de8597aa4812e943bd0cb7041"), looks := false }, kinds := [], alts := [], laidByText := true, laidKinds := [.data, .data, .data, .data, .data, .pinned], laidTests := true, laidLooks := .later }
def MessagePrintsCardSaid : Prop := Claim7.holds Tryz.pinned (.plain (OpenSpec.ofChange messagePrintsSpec)) messagePrintsCard

/-- THE TIED CARD OF 'turnpikelaw12.MessageParses'. -/
def messageParsesCard : Claim7 := { stood := { row := messageParsesRow, standIns := [], harness := (true, "2e36dc3231e5298da2fb4206231feb3feeb8865de8597aa4812e943bd0cb7041"), looks := false }, kinds := [], alts := [], laidByText := true, laidKinds := [.data, .data, .data, .data, .data, .pinned], laidTests := true, laidLooks := .later }
def MessageParsesCardSaid : Prop := Claim7.holds Tryz.pinned (.plain (OpenSpec.ofChange messageParsesSpec)) messageParsesCard

/-- THE TIED CARD OF 'turnpikelaw12.MessageBack'. -/
def messageBackCard : Claim7 := { stood := { row := messageBackRow, standIns := [], harness := (true, "2e36dc3231e5298da2fb4206231feb3feeb8865de8597aa4812e943bd0cb7041"), looks := false }, kinds := [], alts := [], laidByText := true, laidKinds := [.data, .data, .data, .data, .data, .pinned], laidTests := true, laidLooks := .later }
def MessageBackCardSaid : Prop := Claim7.holds Tryz.pinned (.plain (OpenSpec.ofChange messageBackSpec)) messageBackCard

/-- THE TIED CARD OF 'turnpikelaw12.MessageHead'. -/
def messageHeadCard : Claim7 := { stood := { row := messageHeadRow, standIns := [], harness := (true, "2e36dc3231e5298da2fb4206231feb3feeb8865de8597aa4812e943bd0cb7041"), looks := false }, kinds := [], alts := [], laidByText := true, laidKinds := [.data, .data, .data, .data, .data, .pinned], laidTests := true, laidLooks := .later }
def MessageHeadCardSaid : Prop := Claim7.holds Tryz.pinned (.plain (OpenSpec.ofChange messageHeadSpec)) messageHeadCard

/-- THE TIED CARD OF 'turnpikelaw12.MessageMemory'. -/
def messageMemoryCard : Claim7 := { stood := { row := messageMemoryRow, standIns := [], harness := (true, "2e36dc3231e5298da2fb4206231feb3feeb8865de8597aa4812e943bd0cb7041"), looks := false }, kinds := [], alts := [], laidByText := true, laidKinds := [.data, .data, .data, .data, .data, .pinned], laidTests := true, laidLooks := .later }
def MessageMemoryCardSaid : Prop := Claim7.holds Tryz.pinned (.plain (OpenSpec.ofChange messageMemorySpec)) messageMemoryCard

/-- THE SECOND FORM's CARD OF 'turnpikelaw12.MessagePrints'. -/
def messagePrintsUptoCard : Claim7 := { stood := { row := messagePrintsUptoRow, standIns := [], harness := (true, "2e36dc3231e5298da2fb4206231feb3feeb8865de8597aa4812e943bd0cb7041"), looks := false }, kinds := [], alts := [], laidByText := true, laidKinds := [.data, .data, .data, .data, .data, .pinned], laidTests := true, laidLooks := .later }
def MessagePrintsUptoCardSaid : Prop := Claim7.holds Tryz.pinned (.plain (OpenSpec.upto messagePrintsSpec)) messagePrintsUptoCard

/-- THE SECOND FORM's CARD OF 'turnpikelaw12.MessageParses'. -/
def messageParsesUptoCard : Claim7 := { stood := { row := messageParsesUptoRow, standIns := [], harness := (true, "2e36dc3231e5298da2fb4206231feb3feeb8865de8597aa4812e943bd0cb7041"), looks := false }, kinds := [], alts := [], laidByText := true, laidKinds := [.data, .data, .data, .data, .data, .pinned], laidTests := true, laidLooks := .later }
def MessageParsesUptoCardSaid : Prop := Claim7.holds Tryz.pinned (.plain (OpenSpec.upto messageParsesSpec)) messageParsesUptoCard

/-- THE SECOND FORM's CARD OF 'turnpikelaw12.MessageBack'. -/
def messageBackUptoCard : Claim7 := { stood := { row := messageBackUptoRow, standIns := [], harness := (true, "2e36dc3231e5298da2fb4206231feb3feeb8865de8597aa4812e943bd0cb7041"), looks := false }, kinds := [], alts := [], laidByText := true, laidKinds := [.data, .data, .data, .data, .data, .pinned], laidTests := true, laidLooks := .later }
def MessageBackUptoCardSaid : Prop := Claim7.holds Tryz.pinned (.plain (OpenSpec.upto messageBackSpec)) messageBackUptoCard

/-- THE SECOND FORM's CARD OF 'turnpikelaw12.MessageHead'. -/
def messageHeadUptoCard : Claim7 := { stood := { row := messageHeadUptoRow, standIns := [], harness := (true, "2e36dc3231e5298da2fb4206231feb3feeb8865de8597aa4812e943bd0cb7041"), looks := false }, kinds := [], alts := [], laidByText := true, laidKinds := [.data, .data, .data, .data, .data, .pinned], laidTests := true, laidLooks := .later }
def MessageHeadUptoCardSaid : Prop := Claim7.holds Tryz.pinned (.plain (OpenSpec.upto messageHeadSpec)) messageHeadUptoCard

/-- THE SECOND FORM's CARD OF 'turnpikelaw12.MessageMemory'. -/
def messageMemoryUptoCard : Claim7 := { stood := { row := messageMemoryUptoRow, standIns := [], harness := (true, "2e36dc3231e5298da2fb4206231feb3feeb8865de8597aa4812e943bd0cb7041"), looks := false }, kinds := [], alts := [], laidByText := true, laidKinds := [.data, .data, .data, .data, .data, .pinned], laidTests := true, laidLooks := .later }
def MessageMemoryUptoCardSaid : Prop := Claim7.holds Tryz.pinned (.plain (OpenSpec.upto messageMemorySpec)) messageMemoryUptoCard
end Rows
end Go.Proofs.YtcelekfokbdmfaaGreatDoor
