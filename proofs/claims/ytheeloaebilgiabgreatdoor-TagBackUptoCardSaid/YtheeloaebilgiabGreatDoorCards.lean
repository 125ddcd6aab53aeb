/-
  DERIVED. GIVEN WITH THE SEED: THE CARDS: each row of YtheeloaebilgiabGreatDoorRows.lean that lists a variable, with what it lists TIED to the program's text (the seventh form; the later family's looks); each row that meets fmt, with fmt's text TOLD by the authors' own Lean function (tested against real Go, not proved from fmt's source: count such statements apart). THE CARD IS WHAT COUNTS. Prove the row's statement (the work); the ties are given (YtheeloaebilgiabGreatDoorTie.lean); close each card by the builder's one call (the guide's Derived/Test/ToyasCard.lean, 'card_holds'). Laid BY PROGRAM, IN A SANDBOX (cutbox-door.mjs). By AI agents, Wed Nov 11 2026. No macro, syntax, notation, axiom, sorry.
-/
import Derived.Test.YtheeloaebilgiabGreatDoorRows
import GoSem.ClaimSeven
namespace Go.Proofs.YtheeloaebilgiabGreatDoor
namespace Rows

/-- THE TIED CARD OF 'turnpikelaw08.TagBack'. -/
def tagBackCard : Claim7 := { stood := { row := tagBackRow, standIns := [], harness := (true, "3e496b6f01dedf91c3e69cdcfd86c38b71bfc6697b113fca6c22a178c814cad2"), looks := false }, kinds := [], alts := [], laidByText := true, laidKinds := [.data, .data, .data, .data, .data, .pinned], laidTests := true, laidLooks := .later }
def TagBackCardSaid : Prop := Claim7.holds Tryz.pinned (.plain (OpenSpec.ofChange tagBackSpec)) tagBackCard

/-- THE TIED CARD OF 'turnpikelaw08.TagOwn'. -/
def tagOwnCard : Claim7 := { stood := { row := tagOwnRow, standIns := [], harness := (true, "3e496b6f01dedf91c3e69cdcfd86c38b71bfc6697b113fca6c22a178c814cad2"), looks := false }, kinds := [], alts := [], laidByText := true, laidKinds := [.data, .data, .data, .data, .data, .data, .data, .data, .pinned], laidTests := true, laidLooks := .later }
def TagOwnCardSaid : Prop := Claim7.holds Tryz.pinned (.plain (OpenSpec.ofChange tagOwnSpec)) tagOwnCard

/-- THE SECOND FORM's CARD OF 'turnpikelaw08.TagBack'. -/
def tagBackUptoCard : Claim7 := { stood := { row := tagBackUptoRow, standIns := [], harness := (true, "3e496b6f01dedf91c3e69cdcfd86c38b71bfc6697b113fca6c22a178c814cad2"), looks := false }, kinds := [], alts := [], laidByText := true, laidKinds := [.data, .data, .data, .data, .data, .pinned], laidTests := true, laidLooks := .later }
def TagBackUptoCardSaid : Prop := Claim7.holds Tryz.pinned (.plain (OpenSpec.upto tagBackSpec)) tagBackUptoCard

/-- THE SECOND FORM's CARD OF 'turnpikelaw08.TagOwn'. -/
def tagOwnUptoCard : Claim7 := { stood := { row := tagOwnUptoRow, standIns := [], harness := (true, "3e496b6f01dedf91c3e69cdcfd86c38b71bfc6697b113fca6c22a178c814cad2"), looks := false }, kinds := [], alts := [], laidByText := true, laidKinds := [.data, .data, .data, .data, .data, .data, .data, .data, .pinned], laidTests := true, laidLooks := .later }
def TagOwnUptoCardSaid : Prop := Claim7.holds Tryz.pinned (.plain (OpenSpec.upto tagOwnSpec)) tagOwnUptoCard
end Rows
end Go.Proofs.YtheeloaebilgiabGreatDoor
