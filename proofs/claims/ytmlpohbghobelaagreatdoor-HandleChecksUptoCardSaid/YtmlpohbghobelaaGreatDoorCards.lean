/-
  DERIVED. GIVEN WITH THE SEED: THE CARDS: each row of YtmlpohbghobelaaGreatDoorRows.lean that lists a variable, with what it lists TIED to the program's text (the seventh form; the later family's looks); each row that meets fmt, with fmt's text TOLD by the authors' own Lean function (tested against real Go, not proved from fmt's source: count such statements apart). THE CARD IS WHAT COUNTS. Prove the row's statement (the work); the ties are given (YtmlpohbghobelaaGreatDoorTie.lean); close each card by the builder's one call (the guide's Derived/Test/ToyasCard.lean, 'card_holds'). Laid BY PROGRAM, IN A SANDBOX (cutbox-door.mjs). By AI agents, Wed Nov 11 2026. No macro, syntax, notation, axiom, sorry.
-/
import Derived.Test.YtmlpohbghobelaaGreatDoorRows
import GoSem.ClaimSeven
namespace Go.Proofs.YtmlpohbghobelaaGreatDoor
namespace Rows

/-- THE TIED CARD OF 'turnpikelaw18.HandleChecks'. -/
def handleChecksCard : Claim7 := { stood := { row := handleChecksRow, standIns := [], harness := (true, "b5e5eca43dd2f5d5652180b954e2db1e5126cc0efc6c3751179ada2e8266c8b8"), looks := true }, kinds := [], alts := [], laidByText := true, laidKinds := [.data, .data, .data, .data, .handle, .data, .data, .data, .data, .data, .data, .pinned], laidTests := true, laidLooks := .later }
def HandleChecksCardSaid : Prop := Claim7.holds Tryz.pinned (.plain (OpenSpec.ofChange handleChecksSpec)) handleChecksCard

/-- THE TIED CARD OF 'turnpikelaw18.HandleCounts'. -/
def handleCountsCard : Claim7 := { stood := { row := handleCountsRow, standIns := [], harness := (true, "b5e5eca43dd2f5d5652180b954e2db1e5126cc0efc6c3751179ada2e8266c8b8"), looks := true }, kinds := [], alts := [], laidByText := true, laidKinds := [.data, .data, .data, .data, .handle, .data, .data, .data, .data, .data, .data, .pinned], laidTests := true, laidLooks := .later }
def HandleCountsCardSaid : Prop := Claim7.holds Tryz.pinned (.plain (OpenSpec.ofChange handleCountsSpec)) handleCountsCard

/-- THE SECOND FORM's CARD OF 'turnpikelaw18.HandleChecks'. -/
def handleChecksUptoCard : Claim7 := { stood := { row := handleChecksUptoRow, standIns := [], harness := (true, "b5e5eca43dd2f5d5652180b954e2db1e5126cc0efc6c3751179ada2e8266c8b8"), looks := true }, kinds := [], alts := [], laidByText := true, laidKinds := [.data, .data, .data, .data, .handle, .data, .data, .data, .data, .data, .data, .pinned], laidTests := true, laidLooks := .later }
def HandleChecksUptoCardSaid : Prop := Claim7.holds Tryz.pinned (.plain (OpenSpec.upto handleChecksSpec)) handleChecksUptoCard

/-- THE SECOND FORM's CARD OF 'turnpikelaw18.HandleCounts'. -/
def handleCountsUptoCard : Claim7 := { stood := { row := handleCountsUptoRow, standIns := [], harness := (true, "b5e5eca43dd2f5d5652180b954e2db1e5126cc0efc6c3751179ada2e8266c8b8"), looks := true }, kinds := [], alts := [], laidByText := true, laidKinds := [.data, .data, .data, .data, .handle, .data, .data, .data, .data, .data, .data, .pinned], laidTests := true, laidLooks := .later }
def HandleCountsUptoCardSaid : Prop := Claim7.holds Tryz.pinned (.plain (OpenSpec.upto handleCountsSpec)) handleCountsUptoCard
end Rows
end Go.Proofs.YtmlpohbghobelaaGreatDoor
