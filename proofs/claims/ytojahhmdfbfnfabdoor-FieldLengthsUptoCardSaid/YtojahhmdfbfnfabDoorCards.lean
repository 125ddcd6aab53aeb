/-
  DERIVED. GIVEN WITH THE SEED: THE CARDS: each row of YtojahhmdfbfnfabDoorRows.lean that lists a variable, with what it lists TIED to the program's text (the seventh form; the later family's looks); each row that meets fmt, with fmt's text TOLD by the authors' own Lean function (tested against real Go, not proved from fmt's source: count such statements apart). THE CARD IS WHAT COUNTS. Prove the row's statement (the work); the ties are given (YtojahhmdfbfnfabDoorTie.lean); close each card by the builder's one call (the guide's Derived/Test/ToyasCard.lean, 'card_holds'). Laid BY PROGRAM, IN A SANDBOX (cutbox-door.mjs). By AI agents, Wed Nov 11 2026. No macro, syntax, notation, axiom, sorry.
-/
import Derived.Test.YtojahhmdfbfnfabDoorRows
import GoSem.ClaimSeven
namespace Go.Proofs.YtojahhmdfbfnfabDoor
namespace Rows

/-- THE TIED CARD OF 'turnpikelaw06.FieldLengths'. -/
def fieldLengthsCard : Claim7 := { stood := { row := fieldLengthsRow, standIns := [], harness := (true, "026598bfb86d3ee75823277f118349d09e561fd40addaacb55e28cb94c0edfd6"), looks := false }, kinds := [], alts := [], laidByText := true, laidKinds := [.data, .data, .pinned], laidTests := true, laidLooks := .later }
def FieldLengthsCardSaid : Prop := Claim7.holds Tryd.pinned (.plain (OpenSpec.ofChange fieldLengthsSpec)) fieldLengthsCard

/-- THE TIED CARD OF 'turnpikelaw06.FieldHops'. -/
def fieldHopsCard : Claim7 := { stood := { row := fieldHopsRow, standIns := [], harness := (true, "026598bfb86d3ee75823277f118349d09e561fd40addaacb55e28cb94c0edfd6"), looks := false }, kinds := [], alts := [], laidByText := true, laidKinds := [.data, .data, .pinned], laidTests := true, laidLooks := .later }
def FieldHopsCardSaid : Prop := Claim7.holds Tryd.pinned (.plain (OpenSpec.ofChange fieldHopsSpec)) fieldHopsCard

/-- THE TIED CARD OF 'turnpikelaw06.FieldBack'. -/
def fieldBackCard : Claim7 := { stood := { row := fieldBackRow, standIns := [], harness := (true, "026598bfb86d3ee75823277f118349d09e561fd40addaacb55e28cb94c0edfd6"), looks := false }, kinds := [], alts := [], laidByText := true, laidKinds := [.data, .data, .pinned], laidTests := true, laidLooks := .later }
def FieldBackCardSaid : Prop := Claim7.holds Tryd.pinned (.plain (OpenSpec.ofChange fieldBackSpec)) fieldBackCard

/-- THE TIED CARD OF 'turnpikelaw06.FieldCase'. -/
def fieldCaseCard : Claim7 := { stood := { row := fieldCaseRow, standIns := [], harness := (true, "026598bfb86d3ee75823277f118349d09e561fd40addaacb55e28cb94c0edfd6"), looks := false }, kinds := [], alts := [], laidByText := true, laidKinds := [.data, .data, .pinned], laidTests := true, laidLooks := .later }
def FieldCaseCardSaid : Prop := Claim7.holds Tryd.pinned (.plain (OpenSpec.ofChange fieldCaseSpec)) fieldCaseCard

/-- THE TIED CARD OF 'turnpikelaw06.FieldJoins'. -/
def fieldJoinsCard : Claim7 := { stood := { row := fieldJoinsRow, standIns := [], harness := (true, "026598bfb86d3ee75823277f118349d09e561fd40addaacb55e28cb94c0edfd6"), looks := false }, kinds := [], alts := [], laidByText := true, laidKinds := [.data, .data, .pinned], laidTests := true, laidLooks := .later }
def FieldJoinsCardSaid : Prop := Claim7.holds Tryd.pinned (.plain (OpenSpec.ofChange fieldJoinsSpec)) fieldJoinsCard

/-- THE TIED CARD OF 'turnpikelaw06.FieldOne'. -/
def fieldOneCard : Claim7 := { stood := { row := fieldOneRow, standIns := [], harness := (true, "026598bfb86d3ee75823277f118349d09e561fd40addaacb55e28cb94c0edfd6"), looks := false }, kinds := [], alts := [], laidByText := true, laidKinds := [.data, .data, .pinned], laidTests := true, laidLooks := .later }
def FieldOneCardSaid : Prop := Claim7.holds Tryd.pinned (.plain (OpenSpec.ofChange fieldOneSpec)) fieldOneCard

/-- THE SECOND FORM's CARD OF 'turnpikelaw06.FieldLengths'. -/
def fieldLengthsUptoCard : Claim7 := { stood := { row := fieldLengthsUptoRow, standIns := [], harness := (true, "026598bfb86d3ee75823277f118349d09e561fd40addaacb55e28cb94c0edfd6"), looks := false }, kinds := [], alts := [], laidByText := true, laidKinds := [.data, .data, .pinned], laidTests := true, laidLooks := .later }
def FieldLengthsUptoCardSaid : Prop := Claim7.holds Tryd.pinned (.plain (OpenSpec.upto fieldLengthsSpec)) fieldLengthsUptoCard

/-- THE SECOND FORM's CARD OF 'turnpikelaw06.FieldHops'. -/
def fieldHopsUptoCard : Claim7 := { stood := { row := fieldHopsUptoRow, standIns := [], harness := (true, "026598bfb86d3ee75823277f118349d09e561fd40addaacb55e28cb94c0edfd6"), looks := false }, kinds := [], alts := [], laidByText := true, laidKinds := [.data, .data, .pinned], laidTests := true, laidLooks := .later }
def FieldHopsUptoCardSaid : Prop := Claim7.holds Tryd.pinned (.plain (OpenSpec.upto fieldHopsSpec)) fieldHopsUptoCard

/-- THE SECOND FORM's CARD OF 'turnpikelaw06.FieldBack'. -/
def fieldBackUptoCard : Claim7 := { stood := { row := fieldBackUptoRow, standIns := [], harness := (true, "026598bfb86d3ee75823277f118349d09e561fd40addaacb55e28cb94c0edfd6"), looks := false }, kinds := [], alts := [], laidByText := true, laidKinds := [.data, .data, .pinned], laidTests := true, laidLooks := .later }
def FieldBackUptoCardSaid : Prop := Claim7.holds Tryd.pinned (.plain (OpenSpec.upto fieldBackSpec)) fieldBackUptoCard

/-- THE SECOND FORM's CARD OF 'turnpikelaw06.FieldCase'. -/
def fieldCaseUptoCard : Claim7 := { stood := { row := fieldCaseUptoRow, standIns := [], harness := (true, "026598bfb86d3ee75823277f118349d09e561fd40addaacb55e28cb94c0edfd6"), looks := false }, kinds := [], alts := [], laidByText := true, laidKinds := [.data, .data, .pinned], laidTests := true, laidLooks := .later }
def FieldCaseUptoCardSaid : Prop := Claim7.holds Tryd.pinned (.plain (OpenSpec.upto fieldCaseSpec)) fieldCaseUptoCard

/-- THE SECOND FORM's CARD OF 'turnpikelaw06.FieldJoins'. -/
def fieldJoinsUptoCard : Claim7 := { stood := { row := fieldJoinsUptoRow, standIns := [], harness := (true, "026598bfb86d3ee75823277f118349d09e561fd40addaacb55e28cb94c0edfd6"), looks := false }, kinds := [], alts := [], laidByText := true, laidKinds := [.data, .data, .pinned], laidTests := true, laidLooks := .later }
def FieldJoinsUptoCardSaid : Prop := Claim7.holds Tryd.pinned (.plain (OpenSpec.upto fieldJoinsSpec)) fieldJoinsUptoCard

/-- THE SECOND FORM's CARD OF 'turnpikelaw06.FieldOne'. -/
def fieldOneUptoCard : Claim7 := { stood := { row := fieldOneUptoRow, standIns := [], harness := (true, "026598bfb86d3ee75823277f118349d09e561fd40addaacb55e28cb94c0edfd6"), looks := false }, kinds := [], alts := [], laidByText := true, laidKinds := [.data, .data, .pinned], laidTests := true, laidLooks := .later }
def FieldOneUptoCardSaid : Prop := Claim7.holds Tryd.pinned (.plain (OpenSpec.upto fieldOneSpec)) fieldOneUptoCard
end Rows
end Go.Proofs.YtojahhmdfbfnfabDoor
