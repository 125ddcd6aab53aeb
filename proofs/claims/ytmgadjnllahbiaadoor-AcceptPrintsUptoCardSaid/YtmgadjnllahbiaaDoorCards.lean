/-
  DERIVED. GIVEN WITH THE SEED: THE CARDS: each row of YtmgadjnllahbiaaDoorRows.lean that lists a variable, with what it lists TIED to the program's text (the seventh form; the later family's looks); each row that meets fmt, with fmt's text TOLD by the authors' own Lean function (tested against real Go, not proved from fmt's source: count such statements apart). THE CARD IS WHAT COUNTS. Prove the row's statement (the work); the ties are given (YtmgadjnllahbiaaDoorTie.lean); close each card by the builder's one call (the guide's Derived/Test/ToyasCard.lean, 'card_holds'). Laid BY PROGRAM, IN A SANDBOX (cutbox-door.mjs). By AI agents, Wed Nov 11 2026. No macro, syntax, notation, axiom, sorry.
-/
import Derived.Test.YtmgadjnllahbiaaDoorRows
import GoSem.ClaimSeven
namespace Go.Proofs.YtmgadjnllahbiaaDoor
namespace Rows

/-- THE TIED CARD OF 'turnpikelaw07.AcceptPrints'. -/
def acceptPrintsCard : Claim7 := { stood := { row := acceptPrintsRow, standIns := [], harness := (true, "41d266cc4396ebebeface4aa1ac9591e989e89f85433d0952e3ea62734bc22e0"), looks := false }, kinds := [], alts := [], laidByText := true, laidKinds := [.data, .data, .pinned], laidTests := true, laidLooks := .later }
def AcceptPrintsCardSaid : Prop := Claim7.holds Tryd.pinned (.plain (OpenSpec.ofChange acceptPrintsSpec)) acceptPrintsCard

/-- THE SECOND FORM's CARD OF 'turnpikelaw07.AcceptPrints'. -/
def acceptPrintsUptoCard : Claim7 := { stood := { row := acceptPrintsUptoRow, standIns := [], harness := (true, "41d266cc4396ebebeface4aa1ac9591e989e89f85433d0952e3ea62734bc22e0"), looks := false }, kinds := [], alts := [], laidByText := true, laidKinds := [.data, .data, .pinned], laidTests := true, laidLooks := .later }
def AcceptPrintsUptoCardSaid : Prop := Claim7.holds Tryd.pinned (.plain (OpenSpec.upto acceptPrintsSpec)) acceptPrintsUptoCard
end Rows
end Go.Proofs.YtmgadjnllahbiaaDoor
