/-
  DERIVED. GIVEN WITH THE SEED: THE CARDS: each row of YtjiebnieceffoaaGreatDoorRows.lean that lists a variable, with what it lists TIED to the program's text (the seventh form; the later family's looks); each row that meets fmt, with fmt's text TOLD by the authors' own Lean function (tested against real Go, not proved from fmt's source: count such statements apart). THE CARD IS WHAT COUNTS. Prove the row's statement (the work); the ties are given (YtjiebnieceffoaaGreatDoorTie.lean); close each card by the builder's one call (the guide's Derived/Test/ToyasCard.lean, 'card_holds'). Laid BY PROGRAM, IN A SANDBOX (cutbox-door.mjs). By AI agents, Wed Nov 11 2026. No macro, syntax, notation, axiom, sorry.
-/
import Derived.Test.YtjiebnieceffoaaGreatDoorRows
import GoSem.ClaimSeven
namespace Go.Proofs.YtjiebnieceffoaaGreatDoor
namespace Rows

/-- THE TIED CARD OF 'turnpikelaw05.TargetParses'. -/
def targetParsesCard : Claim7 := { stood := { row := targetParsesRow, standIns := [], harness := (true, "0ac6536296c1a0d59470c50a9a02f974596ded09f65839f70b4fdb5d3e4afb51"), looks := false }, kinds := [], alts := [], laidByText := true, laidKinds := [.data, .data, .data, .data, .pinned], laidTests := true, laidLooks := .later }
def TargetParsesCardSaid : Prop := Claim7.holds Tryz.pinned (.plain (OpenSpec.ofChange targetParsesSpec)) targetParsesCard

/-- THE TIED CARD OF 'turnpikelaw05.TargetPrints'. -/
def targetPrintsCard : Claim7 := { stood := { row := targetPrintsRow, standIns := [], harness := (true, "0ac6536296c1a0d59470c50a9a02f974596ded09f65839f70b4fdb5d3e4afb51"), looks := false }, kinds := [], alts := [], laidByText := true, laidKinds := [.data, .data, .data, .data, .pinned], laidTests := true, laidLooks := .later }
def TargetPrintsCardSaid : Prop := Claim7.holds Tryz.pinned (.plain (OpenSpec.ofChange targetPrintsSpec)) targetPrintsCard

/-- THE TIED CARD OF 'turnpikelaw05.TargetBack'. -/
def targetBackCard : Claim7 := { stood := { row := targetBackRow, standIns := [], harness := (true, "0ac6536296c1a0d59470c50a9a02f974596ded09f65839f70b4fdb5d3e4afb51"), looks := false }, kinds := [], alts := [], laidByText := true, laidKinds := [.data, .data, .data, .data, .pinned], laidTests := true, laidLooks := .later }
def TargetBackCardSaid : Prop := Claim7.holds Tryz.pinned (.plain (OpenSpec.ofChange targetBackSpec)) targetBackCard

/-- THE TIED CARD OF 'turnpikelaw05.TargetHosts'. -/
def targetHostsCard : Claim7 := { stood := { row := targetHostsRow, standIns := [], harness := (true, "0ac6536296c1a0d59470c50a9a02f974596ded09f65839f70b4fdb5d3e4afb51"), looks := false }, kinds := [], alts := [], laidByText := true, laidKinds := [.data, .data, .data, .data, .pinned], laidTests := true, laidLooks := .later }
def TargetHostsCardSaid : Prop := Claim7.holds Tryz.pinned (.plain (OpenSpec.ofChange targetHostsSpec)) targetHostsCard

/-- THE TIED CARD OF 'turnpikelaw05.TargetPairs'. -/
def targetPairsCard : Claim7 := { stood := { row := targetPairsRow, standIns := [], harness := (true, "0ac6536296c1a0d59470c50a9a02f974596ded09f65839f70b4fdb5d3e4afb51"), looks := false }, kinds := [], alts := [], laidByText := true, laidKinds := [.data, .data, .data, .data, .pinned], laidTests := true, laidLooks := .later }
def TargetPairsCardSaid : Prop := Claim7.holds Tryz.pinned (.plain (OpenSpec.ofChange targetPairsSpec)) targetPairsCard

/-- THE TIED CARD OF 'turnpikelaw05.TargetMemory'. -/
def targetMemoryCard : Claim7 := { stood := { row := targetMemoryRow, standIns := [], harness := (true, "0ac6536296c1a0d59470c50a9a02f974596ded09f65839f70b4fdb5d3e4afb51"), looks := false }, kinds := [], alts := [], laidByText := true, laidKinds := [.data, .data, .data, .data, .pinned], laidTests := true, laidLooks := .later }
def TargetMemoryCardSaid : Prop := Claim7.holds Tryz.pinned (.plain (OpenSpec.ofChange targetMemorySpec)) targetMemoryCard

/-- THE SECOND FORM's CARD OF 'turnpikelaw05.TargetParses'. -/
def targetParsesUptoCard : Claim7 := { stood := { row := targetParsesUptoRow, standIns := [], harness := (true, "0ac6536296c1a0d59470c50a9a02f974596ded09f65839f70b4fdb5d3e4afb51"), looks := false }, kinds := [], alts := [], laidByText := true, laidKinds := [.data, .data, .data, .data, .pinned], laidTests := true, laidLooks := .later }
def TargetParsesUptoCardSaid : Prop := Claim7.holds Tryz.pinned (.plain (OpenSpec.upto targetParsesSpec)) targetParsesUptoCard

/-- THE SECOND FORM's CARD OF 'turnpikelaw05.TargetPrints'. -/
def targetPrintsUptoCard : Claim7 := { stood := { row := targetPrintsUptoRow, standIns := [], harness := (true, "0ac6536296c1a0d59470c50a9a02f974596ded09f65839f70b4fdb5d3e4afb51"), looks := false }, kinds := [], alts := [], laidByText := true, laidKinds := [.data, .data, .data, .data, .pinned], laidTests := true, laidLooks := .later }
def TargetPrintsUptoCardSaid : Prop := Claim7.holds Tryz.pinned (.plain (OpenSpec.upto targetPrintsSpec)) targetPrintsUptoCard

/-- THE SECOND FORM's CARD OF 'turnpikelaw05.TargetBack'. -/
def targetBackUptoCard : Claim7 := { stood := { row := targetBackUptoRow, standIns := [], harness := (true, "0ac6536296c1a0d59470c50a9a02f974596ded09f65839f70b4fdb5d3e4afb51"), looks := false }, kinds := [], alts := [], laidByText := true, laidKinds := [.data, .data, .data, .data, .pinned], laidTests := true, laidLooks := .later }
def TargetBackUptoCardSaid : Prop := Claim7.holds Tryz.pinned (.plain (OpenSpec.upto targetBackSpec)) targetBackUptoCard

/-- THE SECOND FORM's CARD OF 'turnpikelaw05.TargetHosts'. -/
def targetHostsUptoCard : Claim7 := { stood := { row := targetHostsUptoRow, standIns := [], harness := (true, "0ac6536296c1a0d59470c50a9a02f974596ded09f65839f70b4fdb5d3e4afb51"), looks := false }, kinds := [], alts := [], laidByText := true, laidKinds := [.data, .data, .data, .data, .pinned], laidTests := true, laidLooks := .later }
def TargetHostsUptoCardSaid : Prop := Claim7.holds Tryz.pinned (.plain (OpenSpec.upto targetHostsSpec)) targetHostsUptoCard

/-- THE SECOND FORM's CARD OF 'turnpikelaw05.TargetPairs'. -/
def targetPairsUptoCard : Claim7 := { stood := { row := targetPairsUptoRow, standIns := [], harness := (true, "0ac6536296c1a0d59470c50a9a02f974596ded09f65839f70b4fdb5d3e4afb51"), looks := false }, kinds := [], alts := [], laidByText := true, laidKinds := [.data, .data, .data, .data, .pinned], laidTests := true, laidLooks := .later }
def TargetPairsUptoCardSaid : Prop := Claim7.holds Tryz.pinned (.plain (OpenSpec.upto targetPairsSpec)) targetPairsUptoCard

/-- THE SECOND FORM's CARD OF 'turnpikelaw05.TargetMemory'. -/
def targetMemoryUptoCard : Claim7 := { stood := { row := targetMemoryUptoRow, standIns := [], harness := (true, "0ac6536296c1a0d59470c50a9a02f974596ded09f65839f70b4fdb5d3e4afb51"), looks := false }, kinds := [], alts := [], laidByText := true, laidKinds := [.data, .data, .data, .data, .pinned], laidTests := true, laidLooks := .later }
def TargetMemoryUptoCardSaid : Prop := Claim7.holds Tryz.pinned (.plain (OpenSpec.upto targetMemorySpec)) targetMemoryUptoCard
end Rows
end Go.Proofs.YtjiebnieceffoaaGreatDoor
