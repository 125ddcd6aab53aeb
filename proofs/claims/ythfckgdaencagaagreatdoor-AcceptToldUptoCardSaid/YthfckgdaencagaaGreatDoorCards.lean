/-
  DERIVED. GIVEN WITH THE SEED: THE CARDS: each row of YthfckgdaencagaaGreatDoorRows.lean that lists a variable, with what it lists TIED to the program's text (the seventh form; the later family's looks); each row that meets fmt, with fmt's text TOLD by the authors' own Lean function (tested against real Go, not proved from fmt's source: count such statements apart). THE CARD IS WHAT COUNTS. Prove the row's statement (the work); the ties are given (YthfckgdaencagaaGreatDoorTie.lean); close each card by the builder's one call (the guide's Derived/Test/ToyasCard.lean, 'card_holds'). Laid BY PROGRAM, IN A SANDBOX (cutbox-door.mjs). By AI agents, Wed Nov 11 2026. No macro, syntax, notation, axiom, sorry.
-/
import Derived.Test.YthfckgdaencagaaGreatDoorRows
import GoSem.ClaimSeven
namespace Go.Proofs.YthfckgdaencagaaGreatDoor
namespace Rows

/-- THE TIED CARD OF 'turnpikelaw07.AcceptTold'. -/
def acceptToldCard : Claim7 := { stood := { row := acceptToldRow, standIns := [], harness := (true, "dedba3d54d3e2cf37fe6506711ee9e09abd1cb0d61fe618a346551a16dcafef4"), looks := false }, kinds := [], alts := [], laidByText := true, laidKinds := [.data, .data, .pinned], laidTests := true, laidLooks := .later }
def AcceptToldCardSaid : Prop := Claim7.holds Tryz.pinned (.plain (OpenSpec.ofChange acceptToldSpec)) acceptToldCard

/-- THE SECOND FORM's CARD OF 'turnpikelaw07.AcceptTold'. -/
def acceptToldUptoCard : Claim7 := { stood := { row := acceptToldUptoRow, standIns := [], harness := (true, "dedba3d54d3e2cf37fe6506711ee9e09abd1cb0d61fe618a346551a16dcafef4"), looks := false }, kinds := [], alts := [], laidByText := true, laidKinds := [.data, .data, .pinned], laidTests := true, laidLooks := .later }
def AcceptToldUptoCardSaid : Prop := Claim7.holds Tryz.pinned (.plain (OpenSpec.upto acceptToldSpec)) acceptToldUptoCard
end Rows
end Go.Proofs.YthfckgdaencagaaGreatDoor
