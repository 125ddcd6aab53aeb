/-
  DERIVED. GIVEN WITH THE SEED: THE CARDS: each row of YtlfobdjbnpgchaaGreatDoorRows.lean that lists a variable, with what it lists TIED to the program's text (the seventh form; the later family's looks); each row that meets fmt, with fmt's text TOLD by the authors' own Lean function (tested against real Go, not proved from fmt's source: count such statements apart). THE CARD IS WHAT COUNTS. Prove the row's statement (the work); the ties are given (YtlfobdjbnpgchaaGreatDoorTie.lean); close each card by the builder's one call (the guide's Derived/Test/ToyasCard.lean, 'card_holds'). Laid BY PROGRAM, IN A SANDBOX (cutbox-door.mjs). By AI agents, Wed Nov 11 2026. No macro, syntax, notation, axiom, sorry.
-/
import Derived.Test.YtlfobdjbnpgchaaGreatDoorRows
import GoSem.ClaimSeven
namespace Go.Proofs.YtlfobdjbnpgchaaGreatDoor
namespace Rows

/-- THE TIED CARD OF 'turnpikelaw18.HandleRefers'. -/
def handleRefersCard : Claim7 := { stood := { row := handleRefersRow, standIns := [], harness := (true, "3ca0123acb085cb7acab48d269d5a313aa4b33cac46ff580273c01c9f3343a1c"), looks := true }, kinds := [], alts := [], laidByText := true, laidKinds := [.data, .data, .data, .data, .handle, .data, .data, .data, .data, .data, .data, .pinned], laidTests := true, laidLooks := .later }
def HandleRefersCardSaid : Prop := Claim7.holds Tryz.pinned (.plain (OpenSpec.ofChange handleRefersSpec)) handleRefersCard

/-- THE TIED CARD OF 'turnpikelaw18.HandlePlains'. -/
def handlePlainsCard : Claim7 := { stood := { row := handlePlainsRow, standIns := [], harness := (true, "3ca0123acb085cb7acab48d269d5a313aa4b33cac46ff580273c01c9f3343a1c"), looks := true }, kinds := [], alts := [], laidByText := true, laidKinds := [.data, .data, .data, .data, .handle, .data, .data, .data, .data, .data, .data, .pinned], laidTests := true, laidLooks := .later }
def HandlePlainsCardSaid : Prop := Claim7.holds Tryz.pinned (.plain (OpenSpec.ofChange handlePlainsSpec)) handlePlainsCard

/-- THE TIED CARD OF 'turnpikelaw18.HandleUpgrades'. -/
def handleUpgradesCard : Claim7 := { stood := { row := handleUpgradesRow, standIns := [], harness := (true, "3ca0123acb085cb7acab48d269d5a313aa4b33cac46ff580273c01c9f3343a1c"), looks := true }, kinds := [], alts := [], laidByText := true, laidKinds := [.data, .data, .data, .data, .handle, .data, .data, .data, .data, .data, .data, .pinned], laidTests := true, laidLooks := .later }
def HandleUpgradesCardSaid : Prop := Claim7.holds Tryz.pinned (.plain (OpenSpec.ofChange handleUpgradesSpec)) handleUpgradesCard

/-- THE SECOND FORM's CARD OF 'turnpikelaw18.HandleRefers'. -/
def handleRefersUptoCard : Claim7 := { stood := { row := handleRefersUptoRow, standIns := [], harness := (true, "3ca0123acb085cb7acab48d269d5a313aa4b33cac46ff580273c01c9f3343a1c"), looks := true }, kinds := [], alts := [], laidByText := true, laidKinds := [.data, .data, .data, .data, .handle, .data, .data, .data, .data, .data, .data, .pinned], laidTests := true, laidLooks := .later }
def HandleRefersUptoCardSaid : Prop := Claim7.holds Tryz.pinned (.plain (OpenSpec.upto handleRefersSpec)) handleRefersUptoCard

/-- THE SECOND FORM's CARD OF 'turnpikelaw18.HandlePlains'. -/
def handlePlainsUptoCard : Claim7 := { stood := { row := handlePlainsUptoRow, standIns := [], harness := (true, "3ca0123acb085cb7acab48d269d5a313aa4b33cac46ff580273c01c9f3343a1c"), looks := true }, kinds := [], alts := [], laidByText := true, laidKinds := [.data, .data, .data, .data, .handle, .data, .data, .data, .data, .data, .data, .pinned], laidTests := true, laidLooks := .later }
def HandlePlainsUptoCardSaid : Prop := Claim7.holds Tryz.pinned (.plain (OpenSpec.upto handlePlainsSpec)) handlePlainsUptoCard

/-- THE SECOND FORM's CARD OF 'turnpikelaw18.HandleUpgrades'. -/
def handleUpgradesUptoCard : Claim7 := { stood := { row := handleUpgradesUptoRow, standIns := [], harness := (true, "3ca0123acb085cb7acab48d269d5a313aa4b33cac46ff580273c01c9f3343a1c"), looks := true }, kinds := [], alts := [], laidByText := true, laidKinds := [.data, .data, .data, .data, .handle, .data, .data, .data, .data, .data, .data, .pinned], laidTests := true, laidLooks := .later }
def HandleUpgradesUptoCardSaid : Prop := Claim7.holds Tryz.pinned (.plain (OpenSpec.upto handleUpgradesSpec)) handleUpgradesUptoCard
end Rows
end Go.Proofs.YtlfobdjbnpgchaaGreatDoor
