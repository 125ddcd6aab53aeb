/-
  DERIVED. GIVEN WITH THE SEED: THE CARDS: each row of YtjngpafokkjkdaaGreatDoorRows.lean that lists a variable, with what it lists TIED to the program's text (the seventh form; the later family's looks); each row that meets fmt, with fmt's text TOLD by the authors' own Lean function (tested against real Go, not proved from fmt's source: count such statements apart). THE CARD IS WHAT COUNTS. Prove the row's statement (the work); the ties are given (YtjngpafokkjkdaaGreatDoorTie.lean); close each card by the builder's one call (the guide's Derived/Test/ToyasCard.lean, 'card_holds'). Laid BY PROGRAM, IN A SANDBOX (cutbox-door.mjs). By AI agents, Wed Nov 11 2026. No macro, syntax, notation, axiom, sorry.
-/
import Derived.Test.YtjngpafokkjkdaaGreatDoorRows
import GoSem.ClaimSeven
namespace Go.Proofs.YtjngpafokkjkdaaGreatDoor
namespace Rows

/-- THE TIED CARD OF 'turnpikelaw08.TagDecides'. -/
def tagDecidesCard : Claim7 := { stood := { row := tagDecidesRow, standIns := [], harness := (true, "d2a396520b3aa7ff768f8065f52ef23ee099da4978854489705db9ff20e24200"), looks := false }, kinds := [], alts := [], laidByText := true, laidKinds := [.data, .data, .data, .data, .data, .pinned], laidTests := true, laidLooks := .later }
def TagDecidesCardSaid : Prop := Claim7.holds Tryz.pinned (.plain (OpenSpec.ofChange tagDecidesSpec)) tagDecidesCard

/-- THE TIED CARD OF 'turnpikelaw08.TagRanges'. -/
def tagRangesCard : Claim7 := { stood := { row := tagRangesRow, standIns := [], harness := (true, "d2a396520b3aa7ff768f8065f52ef23ee099da4978854489705db9ff20e24200"), looks := false }, kinds := [], alts := [], laidByText := true, laidKinds := [.data, .data, .data, .data, .data, .pinned], laidTests := true, laidLooks := .later }
def TagRangesCardSaid : Prop := Claim7.holds Tryz.pinned (.plain (OpenSpec.ofChange tagRangesSpec)) tagRangesCard

/-- THE SECOND FORM's CARD OF 'turnpikelaw08.TagDecides'. -/
def tagDecidesUptoCard : Claim7 := { stood := { row := tagDecidesUptoRow, standIns := [], harness := (true, "d2a396520b3aa7ff768f8065f52ef23ee099da4978854489705db9ff20e24200"), looks := false }, kinds := [], alts := [], laidByText := true, laidKinds := [.data, .data, .data, .data, .data, .pinned], laidTests := true, laidLooks := .later }
def TagDecidesUptoCardSaid : Prop := Claim7.holds Tryz.pinned (.plain (OpenSpec.upto tagDecidesSpec)) tagDecidesUptoCard

/-- THE SECOND FORM's CARD OF 'turnpikelaw08.TagRanges'. -/
def tagRangesUptoCard : Claim7 := { stood := { row := tagRangesUptoRow, standIns := [], harness := (true, "d2a396520b3aa7ff768f8065f52ef23ee099da4978854489705db9ff20e24200"), looks := false }, kinds := [], alts := [], laidByText := true, laidKinds := [.data, .data, .data, .data, .data, .pinned], laidTests := true, laidLooks := .later }
def TagRangesUptoCardSaid : Prop := Claim7.holds Tryz.pinned (.plain (OpenSpec.upto tagRangesSpec)) tagRangesUptoCard
end Rows
end Go.Proofs.YtjngpafokkjkdaaGreatDoor
