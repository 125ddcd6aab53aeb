/-
  DERIVED. GIVEN WITH THE SEED: THE CARDS: each row of YtgdecgagdacipaaGreatDoorRows.lean that lists a variable, with what it lists TIED to the program's text (the seventh form; the later family's looks); each row that meets fmt, with fmt's text TOLD by the authors' own Lean function (tested against real Go, not proved from fmt's source: count such statements apart). THE CARD IS WHAT COUNTS. Prove the row's statement (the work); the ties are given (YtgdecgagdacipaaGreatDoorTie.lean); close each card by the builder's one call (the guide's Derived/Test/ToyasCard.lean, 'card_holds'). Laid BY PROGRAM, IN A SANDBOX (cutbox-door.mjs). By AI agents, Wed Nov 11 2026. No macro, syntax, notation, axiom, sorry.
-/
import Derived.Test.YtgdecgagdacipaaGreatDoorRows
import GoSem.ClaimSeven
namespace Go.Proofs.YtgdecgagdacipaaGreatDoor
namespace Rows

/-- THE TIED CARD OF 'turnpikelaw08.TagPrints'. -/
def tagPrintsCard : Claim7 := { stood := { row := tagPrintsRow, standIns := [], harness := (true, "d622526cd9e773c4ac6bfd2eec7917e96c45ca5cd1f147a400f8377ae29b4653"), looks := false }, kinds := [], alts := [], laidByText := true, laidKinds := [.data, .data, .data, .data, .data, .pinned], laidTests := true, laidLooks := .later }
def TagPrintsCardSaid : Prop := Claim7.holds Tryz.pinned (.plain (OpenSpec.ofChange tagPrintsSpec)) tagPrintsCard

/-- THE TIED CARD OF 'turnpikelaw08.TagLists'. -/
def tagListsCard : Claim7 := { stood := { row := tagListsRow, standIns := [], harness := (true, "d622526cd9e773c4ac6bfd2eec7917e96c45ca5cd1f147a400f8377ae29b4653"), looks := false }, kinds := [], alts := [], laidByText := true, laidKinds := [.data, .data, .data, .data, .data, .pinned], laidTests := true, laidLooks := .later }
def TagListsCardSaid : Prop := Claim7.holds Tryz.pinned (.plain (OpenSpec.ofChange tagListsSpec)) tagListsCard

/-- THE TIED CARD OF 'turnpikelaw08.TagMakes'. -/
def tagMakesCard : Claim7 := { stood := { row := tagMakesRow, standIns := [], harness := (true, "d622526cd9e773c4ac6bfd2eec7917e96c45ca5cd1f147a400f8377ae29b4653"), looks := false }, kinds := [], alts := [], laidByText := true, laidKinds := [.data, .data, .data, .data, .data, .data, .data, .data, .pinned], laidTests := true, laidLooks := .later }
def TagMakesCardSaid : Prop := Claim7.holds Tryz.pinned (.plain (OpenSpec.ofChange tagMakesSpec)) tagMakesCard

/-- THE TIED CARD OF 'turnpikelaw08.TagDecides'. -/
def tagDecidesCard : Claim7 := { stood := { row := tagDecidesRow, standIns := [], harness := (true, "d622526cd9e773c4ac6bfd2eec7917e96c45ca5cd1f147a400f8377ae29b4653"), looks := false }, kinds := [], alts := [], laidByText := true, laidKinds := [.data, .data, .data, .data, .data, .pinned], laidTests := true, laidLooks := .later }
def TagDecidesCardSaid : Prop := Claim7.holds Tryz.pinned (.plain (OpenSpec.ofChange tagDecidesSpec)) tagDecidesCard

/-- THE TIED CARD OF 'turnpikelaw08.TagRanges'. -/
def tagRangesCard : Claim7 := { stood := { row := tagRangesRow, standIns := [], harness := (true, "d622526cd9e773c4ac6bfd2eec7917e96c45ca5cd1f147a400f8377ae29b4653"), looks := false }, kinds := [], alts := [], laidByText := true, laidKinds := [.data, .data, .data, .data, .data, .pinned], laidTests := true, laidLooks := .later }
def TagRangesCardSaid : Prop := Claim7.holds Tryz.pinned (.plain (OpenSpec.ofChange tagRangesSpec)) tagRangesCard

/-- THE SECOND FORM's CARD OF 'turnpikelaw08.TagPrints'. -/
def tagPrintsUptoCard : Claim7 := { stood := { row := tagPrintsUptoRow, standIns := [], harness := (true, "d622526cd9e773c4ac6bfd2eec7917e96c45ca5cd1f147a400f8377ae29b4653"), looks := false }, kinds := [], alts := [], laidByText := true, laidKinds := [.data, .data, .data, .data, .data, .pinned], laidTests := true, laidLooks := .later }
def TagPrintsUptoCardSaid : Prop := Claim7.holds Tryz.pinned (.plain (OpenSpec.upto tagPrintsSpec)) tagPrintsUptoCard

/-- THE SECOND FORM's CARD OF 'turnpikelaw08.TagLists'. -/
def tagListsUptoCard : Claim7 := { stood := { row := tagListsUptoRow, standIns := [], harness := (true, "d622526cd9e773c4ac6bfd2eec7917e96c45ca5cd1f147a400f8377ae29b4653"), looks := false }, kinds := [], alts := [], laidByText := true, laidKinds := [.data, .data, .data, .data, .data, .pinned], laidTests := true, laidLooks := .later }
def TagListsUptoCardSaid : Prop := Claim7.holds Tryz.pinned (.plain (OpenSpec.upto tagListsSpec)) tagListsUptoCard

/-- THE SECOND FORM's CARD OF 'turnpikelaw08.TagMakes'. -/
def tagMakesUptoCard : Claim7 := { stood := { row := tagMakesUptoRow, standIns := [], harness := (true, "d622526cd9e773c4ac6bfd2eec7917e96c45ca5cd1f147a400f8377ae29b4653"), looks := false }, kinds := [], alts := [], laidByText := true, laidKinds := [.data, .data, .data, .data, .data, .data, .data, .data, .pinned], laidTests := true, laidLooks := .later }
def TagMakesUptoCardSaid : Prop := Claim7.holds Tryz.pinned (.plain (OpenSpec.upto tagMakesSpec)) tagMakesUptoCard

/-- THE SECOND FORM's CARD OF 'turnpikelaw08.TagDecides'. -/
def tagDecidesUptoCard : Claim7 := { stood := { row := tagDecidesUptoRow, standIns := [], harness := (true, "d622526cd9e773c4ac6bfd2eec7917e96c45ca5cd1f147a400f8377ae29b4653"), looks := false }, kinds := [], alts := [], laidByText := true, laidKinds := [.data, .data, .data, .data, .data, .pinned], laidTests := true, laidLooks := .later }
def TagDecidesUptoCardSaid : Prop := Claim7.holds Tryz.pinned (.plain (OpenSpec.upto tagDecidesSpec)) tagDecidesUptoCard

/-- THE SECOND FORM's CARD OF 'turnpikelaw08.TagRanges'. -/
def tagRangesUptoCard : Claim7 := { stood := { row := tagRangesUptoRow, standIns := [], harness := (true, "d622526cd9e773c4ac6bfd2eec7917e96c45ca5cd1f147a400f8377ae29b4653"), looks := false }, kinds := [], alts := [], laidByText := true, laidKinds := [.data, .data, .data, .data, .data, .pinned], laidTests := true, laidLooks := .later }
def TagRangesUptoCardSaid : Prop := Claim7.holds Tryz.pinned (.plain (OpenSpec.upto tagRangesSpec)) tagRangesUptoCard
end Rows
end Go.Proofs.YtgdecgagdacipaaGreatDoor
