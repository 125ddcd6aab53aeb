/-
  DERIVED. GIVEN WITH THE SEED: THE CARDS: each row of YtojahhmdfbfnfacDoorRows.lean that lists a variable, with what it lists TIED to the program's text (the seventh form; the later family's looks); each row that meets fmt, with fmt's text TOLD by the authors' own Lean function (tested against real Go, not proved from fmt's source: count such statements apart). THE CARD IS WHAT COUNTS. Prove the row's statement (the work); the ties are given (YtojahhmdfbfnfacDoorTie.lean); close each card by the builder's one call (the guide's Derived/Test/ToyasCard.lean, 'card_holds'). Laid BY PROGRAM, IN A SANDBOX (cutbox-door.mjs). By AI agents, Wed Nov 11 2026. No macro, syntax, notation, axiom, sorry.
-/
import Derived.Test.YtojahhmdfbfnfacDoorRows
import GoSem.ClaimSeven
namespace Go.Proofs.YtojahhmdfbfnfacDoor
namespace Rows

/-- THE TIED CARD OF 'turnpikelaw06.FieldApart'. -/
def fieldApartCard : Claim7 := { stood := { row := fieldApartRow, standIns := [], harness := (true, "dc9748afbd15522bd0ce935be6122ea995b20f9a7ff39a1d5ca5dd1685f58628"), looks := false }, kinds := [], alts := [], laidByText := true, laidKinds := [.data, .data, .pinned], laidTests := true, laidLooks := .later }
def FieldApartCardSaid : Prop := Claim7.holds Tryd.pinned (.plain (OpenSpec.ofChange fieldApartSpec)) fieldApartCard

/-- THE TIED CARD OF 'turnpikelaw06.FieldMemory'. -/
def fieldMemoryCard : Claim7 := { stood := { row := fieldMemoryRow, standIns := [], harness := (true, "dc9748afbd15522bd0ce935be6122ea995b20f9a7ff39a1d5ca5dd1685f58628"), looks := false }, kinds := [], alts := [], laidByText := true, laidKinds := [.data, .data, .pinned], laidTests := true, laidLooks := .later }
def FieldMemoryCardSaid : Prop := Claim7.holds Tryd.pinned (.plain (OpenSpec.ofChange fieldMemorySpec)) fieldMemoryCard

/-- THE SECOND FORM's CARD OF 'turnpikelaw06.FieldApart'. -/
def fieldApartUptoCard : Claim7 := { stood := { row := fieldApartUptoRow, standIns := [], harness := (true, "dc9748afbd15522bd0ce935be6122ea995b20f9a7ff39a1d5ca5dd1685f58628"), looks := false }, kinds := [], alts := [], laidByText := true, laidKinds := [.data, .data, .pinned], laidTests := true, laidLooks := .later }
def FieldApartUptoCardSaid : Prop := Claim7.holds Tryd.pinned (.plain (OpenSpec.upto fieldApartSpec)) fieldApartUptoCard

/-- THE SECOND FORM's CARD OF 'turnpikelaw06.FieldMemory'. -/
def fieldMemoryUptoCard : Claim7 := { stood := { row := fieldMemoryUptoRow, standIns := [], harness := (true, "dc9748afbd15522bd0ce935be6122ea995b20f9a7ff39a1d5ca5dd1685f58628"), looks := false }, kinds := [], alts := [], laidByText := true, laidKinds := [.data, .data, .pinned], laidTests := true, laidLooks := .later }
def FieldMemoryUptoCardSaid : Prop := Claim7.holds Tryd.pinned (.plain (OpenSpec.upto fieldMemorySpec)) fieldMemoryUptoCard
end Rows
end Go.Proofs.YtojahhmdfbfnfacDoor
