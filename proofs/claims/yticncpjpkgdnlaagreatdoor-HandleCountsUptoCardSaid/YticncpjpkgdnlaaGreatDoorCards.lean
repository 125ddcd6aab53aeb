/-
  DERIVED. GIVEN WITH THE SEED: THE CARDS: each row of YticncpjpkgdnlaaGreatDoorRows.lean that lists a variable, with what it lists TIED to the program's text (the seventh form; the later family's looks); each row that meets fmt, with fmt's text TOLD by the authors' own Lean function (tested against real Go, not proved from fmt's source: count such statements apart). THE CARD IS WHAT COUNTS. Prove the row's statement (the work); the ties are given (YticncpjpkgdnlaaGreatDoorTie.lean); close each card by the builder's one call (the guide's Derived/Test/ToyasCard.lean, 'card_holds'). Laid BY PROGRAM, IN A SANDBOX (cutbox-door.mjs). By AI agents, Wed Nov 11 2026. No macro, syntax, notation, axiom, sorry.
-/
import Derived.Test.YticncpjpkgdnlaaGreatDoorRows
import GoSem.ClaimSeven
namespace Go.Proofs.YticncpjpkgdnlaaGreatDoor
namespace Rows

/-- THE TIED CARD OF 'turnpikelaw18.HandleCounts'. -/
def handleCountsCard : Claim7 := { stood := { row := handleCountsRow, standIns := [], harness := (true, "80f9192e29882d86db43c23096afa9a93d978e912a343c005ac040e76bc7f867"), looks := true }, kinds := [], alts := [], laidByText := true, laidKinds := [.data, .data, .data, .data, .handle, .data, .data, .data, .data, .data, .data, .pinned], laidTests := true, laidLooks := .later }
def HandleCountsCardSaid : Prop := Claim7.holds Tryz.pinned (.plain (OpenSpec.ofChange handleCountsSpec)) handleCountsCard

/-- THE SECOND FORM's CARD OF 'turnpikelaw18.HandleCounts'. -/
def handleCountsUptoCard : Claim7 := { stood := { row := handleCountsUptoRow, standIns := [], harness := (true, "80f9192e29882d86db43c23096afa9a93d978e912a343c005ac040e76bc7f867"), looks := true }, kinds := [], alts := [], laidByText := true, laidKinds := [.data, .data, .data, .data, .handle, .data, .data, .data, .data, .data, .data, .pinned], laidTests := true, laidLooks := .later }
def HandleCountsUptoCardSaid : Prop := Claim7.holds Tryz.pinned (.plain (OpenSpec.upto handleCountsSpec)) handleCountsUptoCard
end Rows
end Go.Proofs.YticncpjpkgdnlaaGreatDoor
