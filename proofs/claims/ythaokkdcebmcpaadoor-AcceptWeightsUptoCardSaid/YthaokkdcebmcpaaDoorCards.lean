/-
  DERIVED. GIVEN WITH THE SEED: THE CARDS: each row of YthaokkdcebmcpaaDoorRows.lean that lists a variable, with what it lists TIED to the program's text (the seventh form; the later family's looks); each row that meets fmt, with fmt's text TOLD by the authors' own Lean function (tested against real Go, not proved from fmt's source: count such statements apart). THE CARD IS WHAT COUNTS. Prove the row's statement (the work); the ties are given (YthaokkdcebmcpaaDoorTie.lean); close each card by the builder's one call (the guide's Derived/Test/ToyasCard.lean, 'card_holds'). Laid BY PROGRAM, IN A SANDBOX (cutbox-door.mjs). By AI agents, Wed Nov 11 2026. No macro, syntax, notation, axiom, sorry.
-/
import Derived.Test.YthaokkdcebmcpaaDoorRows
import GoSem.ClaimSeven
namespace Go.Proofs.YthaokkdcebmcpaaDoor
namespace Rows

/-- THE TIED CARD OF 'turnpikelaw07.AcceptParses'. -/
def acceptParsesCard : Claim7 := { stood := { row := acceptParsesRow, standIns := [], harness := (true, "02ba01597b27e4ce5fd739f34cea0ef52b4b371b83164f5ab7ad9b7098dbe5e7"), looks := false }, kinds := [], alts := [], laidByText := true, laidKinds := [.data, .data, .pinned], laidTests := true, laidLooks := .later }
def AcceptParsesCardSaid : Prop := Claim7.holds Tryd.pinned (.plain (OpenSpec.ofChange acceptParsesSpec)) acceptParsesCard

/-- THE TIED CARD OF 'turnpikelaw07.AcceptPrints'. -/
def acceptPrintsCard : Claim7 := { stood := { row := acceptPrintsRow, standIns := [], harness := (true, "02ba01597b27e4ce5fd739f34cea0ef52b4b371b83164f5ab7ad9b7098dbe5e7"), looks := false }, kinds := [], alts := [], laidByText := true, laidKinds := [.data, .data, .pinned], laidTests := true, laidLooks := .later }
def AcceptPrintsCardSaid : Prop := Claim7.holds Tryd.pinned (.plain (OpenSpec.ofChange acceptPrintsSpec)) acceptPrintsCard

/-- THE TIED CARD OF 'turnpikelaw07.AcceptQualities'. -/
def acceptQualitiesCard : Claim7 := { stood := { row := acceptQualitiesRow, standIns := [], harness := (true, "02ba01597b27e4ce5fd739f34cea0ef52b4b371b83164f5ab7ad9b7098dbe5e7"), looks := false }, kinds := [], alts := [], laidByText := true, laidKinds := [.data, .data, .pinned], laidTests := true, laidLooks := .later }
def AcceptQualitiesCardSaid : Prop := Claim7.holds Tryd.pinned (.plain (OpenSpec.ofChange acceptQualitiesSpec)) acceptQualitiesCard

/-- THE TIED CARD OF 'turnpikelaw07.AcceptThousandths'. -/
def acceptThousandthsCard : Claim7 := { stood := { row := acceptThousandthsRow, standIns := [], harness := (true, "02ba01597b27e4ce5fd739f34cea0ef52b4b371b83164f5ab7ad9b7098dbe5e7"), looks := false }, kinds := [], alts := [], laidByText := true, laidKinds := [.data, .data, .data, .data, .data, .pinned], laidTests := true, laidLooks := .later }
def AcceptThousandthsCardSaid : Prop := Claim7.holds Tryd.pinned (.plain (OpenSpec.ofChange acceptThousandthsSpec)) acceptThousandthsCard

/-- THE TIED CARD OF 'turnpikelaw07.AcceptRanges'. -/
def acceptRangesCard : Claim7 := { stood := { row := acceptRangesRow, standIns := [], harness := (true, "02ba01597b27e4ce5fd739f34cea0ef52b4b371b83164f5ab7ad9b7098dbe5e7"), looks := false }, kinds := [], alts := [], laidByText := true, laidKinds := [.data, .data, .pinned], laidTests := true, laidLooks := .later }
def AcceptRangesCardSaid : Prop := Claim7.holds Tryd.pinned (.plain (OpenSpec.ofChange acceptRangesSpec)) acceptRangesCard

/-- THE TIED CARD OF 'turnpikelaw07.AcceptWeights'. -/
def acceptWeightsCard : Claim7 := { stood := { row := acceptWeightsRow, standIns := [], harness := (true, "02ba01597b27e4ce5fd739f34cea0ef52b4b371b83164f5ab7ad9b7098dbe5e7"), looks := false }, kinds := [], alts := [], laidByText := true, laidKinds := [.data, .data, .pinned], laidTests := true, laidLooks := .later }
def AcceptWeightsCardSaid : Prop := Claim7.holds Tryd.pinned (.plain (OpenSpec.ofChange acceptWeightsSpec)) acceptWeightsCard

/-- THE SECOND FORM's CARD OF 'turnpikelaw07.AcceptParses'. -/
def acceptParsesUptoCard : Claim7 := { stood := { row := acceptParsesUptoRow, standIns := [], harness := (true, "02ba01597b27e4ce5fd739f34cea0ef52b4b371b83164f5ab7ad9b7098dbe5e7"), looks := false }, kinds := [], alts := [], laidByText := true, laidKinds := [.data, .data, .pinned], laidTests := true, laidLooks := .later }
def AcceptParsesUptoCardSaid : Prop := Claim7.holds Tryd.pinned (.plain (OpenSpec.upto acceptParsesSpec)) acceptParsesUptoCard

/-- THE SECOND FORM's CARD OF 'turnpikelaw07.AcceptPrints'. -/
def acceptPrintsUptoCard : Claim7 := { stood := { row := acceptPrintsUptoRow, standIns := [], harness := (true, "02ba01597b27e4ce5fd739f34cea0ef52b4b371b83164f5ab7ad9b7098dbe5e7"), looks := false }, kinds := [], alts := [], laidByText := true, laidKinds := [.data, .data, .pinned], laidTests := true, laidLooks := .later }
def AcceptPrintsUptoCardSaid : Prop := Claim7.holds Tryd.pinned (.plain (OpenSpec.upto acceptPrintsSpec)) acceptPrintsUptoCard

/-- THE SECOND FORM's CARD OF 'turnpikelaw07.AcceptQualities'. -/
def acceptQualitiesUptoCard : Claim7 := { stood := { row := acceptQualitiesUptoRow, standIns := [], harness := (true, "02ba01597b27e4ce5fd739f34cea0ef52b4b371b83164f5ab7ad9b7098dbe5e7"), looks := false }, kinds := [], alts := [], laidByText := true, laidKinds := [.data, .data, .pinned], laidTests := true, laidLooks := .later }
def AcceptQualitiesUptoCardSaid : Prop := Claim7.holds Tryd.pinned (.plain (OpenSpec.upto acceptQualitiesSpec)) acceptQualitiesUptoCard

/-- THE SECOND FORM's CARD OF 'turnpikelaw07.AcceptThousandths'. -/
def acceptThousandthsUptoCard : Claim7 := { stood := { row := acceptThousandthsUptoRow, standIns := [], harness := (true, "02ba01597b27e4ce5fd739f34cea0ef52b4b371b83164f5ab7ad9b7098dbe5e7"), looks := false }, kinds := [], alts := [], laidByText := true, laidKinds := [.data, .data, .data, .data, .data, .pinned], laidTests := true, laidLooks := .later }
def AcceptThousandthsUptoCardSaid : Prop := Claim7.holds Tryd.pinned (.plain (OpenSpec.upto acceptThousandthsSpec)) acceptThousandthsUptoCard

/-- THE SECOND FORM's CARD OF 'turnpikelaw07.AcceptRanges'. -/
def acceptRangesUptoCard : Claim7 := { stood := { row := acceptRangesUptoRow, standIns := [], harness := (true, "02ba01597b27e4ce5fd739f34cea0ef52b4b371b83164f5ab7ad9b7098dbe5e7"), looks := false }, kinds := [], alts := [], laidByText := true, laidKinds := [.data, .data, .pinned], laidTests := true, laidLooks := .later }
def AcceptRangesUptoCardSaid : Prop := Claim7.holds Tryd.pinned (.plain (OpenSpec.upto acceptRangesSpec)) acceptRangesUptoCard

/-- THE SECOND FORM's CARD OF 'turnpikelaw07.AcceptWeights'. -/
def acceptWeightsUptoCard : Claim7 := { stood := { row := acceptWeightsUptoRow, standIns := [], harness := (true, "02ba01597b27e4ce5fd739f34cea0ef52b4b371b83164f5ab7ad9b7098dbe5e7"), looks := false }, kinds := [], alts := [], laidByText := true, laidKinds := [.data, .data, .pinned], laidTests := true, laidLooks := .later }
def AcceptWeightsUptoCardSaid : Prop := Claim7.holds Tryd.pinned (.plain (OpenSpec.upto acceptWeightsSpec)) acceptWeightsUptoCard
end Rows
end Go.Proofs.YthaokkdcebmcpaaDoor
