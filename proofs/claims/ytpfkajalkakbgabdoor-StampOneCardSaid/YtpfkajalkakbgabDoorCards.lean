/-
  DERIVED. GIVEN WITH THE SEED: THE CARDS: each row of YtpfkajalkakbgabDoorRows.lean that lists a variable, with what it lists TIED to the program's text (the seventh form; the later family's looks); each row that meets fmt, with fmt's text TOLD by the authors' own Lean function (tested against real Go, not proved from fmt's source: count such statements apart). THE CARD IS WHAT COUNTS. Prove the row's statement (the work); the ties are given (YtpfkajalkakbgabDoorTie.lean); close each card by the builder's one call (the guide's Derived/Test/ToyasCard.lean, 'card_holds'). Laid BY PROGRAM, IN A SANDBOX (cutbox-door.mjs). By AI agents, Wed Nov 11 2026. No macro, syntax, notation, axiom, sorry.
-/
import Derived.Test.YtpfkajalkakbgabDoorRows
import GoSem.ClaimSeven
namespace Go.Proofs.YtpfkajalkakbgabDoor
namespace Rows

/-- THE TIED CARD OF 'turnpikelaw04.StampDays'. -/
def stampDaysCard : Claim7 := { stood := { row := stampDaysRow, standIns := [], harness := (true, "6ae983b4d3ca38a752b81907e7a5336747493e30e2b0392fefddfd90469a98ec"), looks := false }, kinds := [], alts := [], laidByText := true, laidKinds := [.data, .data, .data, .data, .data, .data, .data], laidTests := true, laidLooks := .later }
def StampDaysCardSaid : Prop := Claim7.holds Tryd.pinned (.plain (OpenSpec.ofChange stampDaysSpec)) stampDaysCard

/-- THE TIED CARD OF 'turnpikelaw04.StampCycle'. -/
def stampCycleCard : Claim7 := { stood := { row := stampCycleRow, standIns := [], harness := (true, "6ae983b4d3ca38a752b81907e7a5336747493e30e2b0392fefddfd90469a98ec"), looks := false }, kinds := [], alts := [], laidByText := true, laidKinds := [.data, .data, .data, .data, .data, .data, .data], laidTests := true, laidLooks := .later }
def StampCycleCardSaid : Prop := Claim7.holds Tryd.pinned (.plain (OpenSpec.ofChange stampCycleSpec)) stampCycleCard

/-- THE TIED CARD OF 'turnpikelaw04.StampOrder'. -/
def stampOrderCard : Claim7 := { stood := { row := stampOrderRow, standIns := [], harness := (true, "6ae983b4d3ca38a752b81907e7a5336747493e30e2b0392fefddfd90469a98ec"), looks := false }, kinds := [], alts := [], laidByText := true, laidKinds := [.data, .data, .data, .data, .data, .data, .data], laidTests := true, laidLooks := .later }
def StampOrderCardSaid : Prop := Claim7.holds Tryd.pinned (.plain (OpenSpec.ofChange stampOrderSpec)) stampOrderCard

/-- THE TIED CARD OF 'turnpikelaw04.StampOne'. -/
def stampOneCard : Claim7 := { stood := { row := stampOneRow, standIns := [], harness := (true, "6ae983b4d3ca38a752b81907e7a5336747493e30e2b0392fefddfd90469a98ec"), looks := false }, kinds := [], alts := [], laidByText := true, laidKinds := [.data, .data, .data, .data, .data, .data, .data], laidTests := true, laidLooks := .later }
def StampOneCardSaid : Prop := Claim7.holds Tryd.pinned (.plain (OpenSpec.ofChange stampOneSpec)) stampOneCard

/-- THE SECOND FORM's CARD OF 'turnpikelaw04.StampDays'. -/
def stampDaysUptoCard : Claim7 := { stood := { row := stampDaysUptoRow, standIns := [], harness := (true, "6ae983b4d3ca38a752b81907e7a5336747493e30e2b0392fefddfd90469a98ec"), looks := false }, kinds := [], alts := [], laidByText := true, laidKinds := [.data, .data, .data, .data, .data, .data, .data], laidTests := true, laidLooks := .later }
def StampDaysUptoCardSaid : Prop := Claim7.holds Tryd.pinned (.plain (OpenSpec.upto stampDaysSpec)) stampDaysUptoCard

/-- THE SECOND FORM's CARD OF 'turnpikelaw04.StampCycle'. -/
def stampCycleUptoCard : Claim7 := { stood := { row := stampCycleUptoRow, standIns := [], harness := (true, "6ae983b4d3ca38a752b81907e7a5336747493e30e2b0392fefddfd90469a98ec"), looks := false }, kinds := [], alts := [], laidByText := true, laidKinds := [.data, .data, .data, .data, .data, .data, .data], laidTests := true, laidLooks := .later }
def StampCycleUptoCardSaid : Prop := Claim7.holds Tryd.pinned (.plain (OpenSpec.upto stampCycleSpec)) stampCycleUptoCard

/-- THE SECOND FORM's CARD OF 'turnpikelaw04.StampOrder'. -/
def stampOrderUptoCard : Claim7 := { stood := { row := stampOrderUptoRow, standIns := [], harness := (true, "6ae983b4d3ca38a752b81907e7a5336747493e30e2b0392fefddfd90469a98ec"), looks := false }, kinds := [], alts := [], laidByText := true, laidKinds := [.data, .data, .data, .data, .data, .data, .data], laidTests := true, laidLooks := .later }
def StampOrderUptoCardSaid : Prop := Claim7.holds Tryd.pinned (.plain (OpenSpec.upto stampOrderSpec)) stampOrderUptoCard

/-- THE SECOND FORM's CARD OF 'turnpikelaw04.StampOne'. -/
def stampOneUptoCard : Claim7 := { stood := { row := stampOneUptoRow, standIns := [], harness := (true, "6ae983b4d3ca38a752b81907e7a5336747493e30e2b0392fefddfd90469a98ec"), looks := false }, kinds := [], alts := [], laidByText := true, laidKinds := [.data, .data, .data, .data, .data, .data, .data], laidTests := true, laidLooks := .later }
def StampOneUptoCardSaid : Prop := Claim7.holds Tryd.pinned (.plain (OpenSpec.upto stampOneSpec)) stampOneUptoCard
end Rows
end Go.Proofs.YtpfkajalkakbgabDoor
