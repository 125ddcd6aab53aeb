/-
  DERIVED. GIVEN WITH THE SEED: THE CARDS: each row of YtfpncbgedhodaaaDoorRows.lean that lists a variable, with what it lists TIED to the program's text (the seventh form; the later family's looks); each row that meets fmt, with fmt's text TOLD by the authors' own Lean function (tested against real Go, not proved from fmt's source: count such statements apart). THE CARD IS WHAT COUNTS. Prove the row's statement (the work); the ties are given (YtfpncbgedhodaaaDoorTie.lean); close each card by the builder's one call (the guide's Derived/Test/ToyasCard.lean, 'card_holds'). Laid BY PROGRAM, IN A SANDBOX (cutbox-door.mjs). By AI agents, Wed Nov 11 2026. No macro, syntax, notation, axiom, sorry.
-/
import Derived.Test.YtfpncbgedhodaaaDoorRows
import GoSem.ClaimSeven
namespace Go.Proofs.YtfpncbgedhodaaaDoor
namespace Rows

/-- THE TIED CARD OF 'turnpikelaw06.FieldTurns'. -/
def fieldTurnsCard : Claim7 := { stood := { row := fieldTurnsRow, standIns := [], harness := (true, "27149071d6281d78022d73adef0d12abf69fd45a008c278174ad163c76a59568"), looks := false }, kinds := [], alts := [], laidByText := true, laidKinds := [.data, .data, .pinned], laidTests := true, laidLooks := .later }
def FieldTurnsCardSaid : Prop := Claim7.holds Tryd.pinned (.plain (OpenSpec.ofChange fieldTurnsSpec)) fieldTurnsCard

/-- THE TIED CARD OF 'turnpikelaw06.FieldHops'. -/
def fieldHopsCard : Claim7 := { stood := { row := fieldHopsRow, standIns := [], harness := (true, "27149071d6281d78022d73adef0d12abf69fd45a008c278174ad163c76a59568"), looks := false }, kinds := [], alts := [], laidByText := true, laidKinds := [.data, .data, .pinned], laidTests := true, laidLooks := .later }
def FieldHopsCardSaid : Prop := Claim7.holds Tryd.pinned (.plain (OpenSpec.ofChange fieldHopsSpec)) fieldHopsCard

/-- THE TIED CARD OF 'turnpikelaw06.FieldCase'. -/
def fieldCaseCard : Claim7 := { stood := { row := fieldCaseRow, standIns := [], harness := (true, "27149071d6281d78022d73adef0d12abf69fd45a008c278174ad163c76a59568"), looks := false }, kinds := [], alts := [], laidByText := true, laidKinds := [.data, .data, .pinned], laidTests := true, laidLooks := .later }
def FieldCaseCardSaid : Prop := Claim7.holds Tryd.pinned (.plain (OpenSpec.ofChange fieldCaseSpec)) fieldCaseCard

/-- THE TIED CARD OF 'turnpikelaw06.FieldMemory'. -/
def fieldMemoryCard : Claim7 := { stood := { row := fieldMemoryRow, standIns := [], harness := (true, "27149071d6281d78022d73adef0d12abf69fd45a008c278174ad163c76a59568"), looks := false }, kinds := [], alts := [], laidByText := true, laidKinds := [.data, .data, .pinned], laidTests := true, laidLooks := .later }
def FieldMemoryCardSaid : Prop := Claim7.holds Tryd.pinned (.plain (OpenSpec.ofChange fieldMemorySpec)) fieldMemoryCard

/-- THE SECOND FORM's CARD OF 'turnpikelaw06.FieldTurns'. -/
def fieldTurnsUptoCard : Claim7 := { stood := { row := fieldTurnsUptoRow, standIns := [], harness := (true, "27149071d6281d78022d73adef0d12abf69fd45a008c278174ad163c76a59568"), looks := false }, kinds := [], alts := [], laidByText := true, laidKinds := [.data, .data, .pinned], laidTests := true, laidLooks := .later }
def FieldTurnsUptoCardSaid : Prop := Claim7.holds Tryd.pinned (.plain (OpenSpec.upto fieldTurnsSpec)) fieldTurnsUptoCard

/-- THE SECOND FORM's CARD OF 'turnpikelaw06.FieldHops'. -/
def fieldHopsUptoCard : Claim7 := { stood := { row := fieldHopsUptoRow, standIns := [], harness := (true, "27149071d6281d78022d73adef0d12abf69fd45a008c278174ad163c76a59568"), looks := false }, kinds := [], alts := [], laidByText := true, laidKinds := [.data, .data, .pinned], laidTests := true, laidLooks := .later }
def FieldHopsUptoCardSaid : Prop := Claim7.holds Tryd.pinned (.plain (OpenSpec.upto fieldHopsSpec)) fieldHopsUptoCard

/-- THE SECOND FORM's CARD OF 'turnpikelaw06.FieldCase'. -/
def fieldCaseUptoCard : Claim7 := { stood := { row := fieldCaseUptoRow, standIns := [], harness := (true, "27149071d6281d78022d73adef0d12abf69fd45a008c278174ad163c76a59568"), looks := false }, kinds := [], alts := [], laidByText := true, laidKinds := [.data, .data, .pinned], laidTests := true, laidLooks := .later }
def FieldCaseUptoCardSaid : Prop := Claim7.holds Tryd.pinned (.plain (OpenSpec.upto fieldCaseSpec)) fieldCaseUptoCard

/-- THE SECOND FORM's CARD OF 'turnpikelaw06.FieldMemory'. -/
def fieldMemoryUptoCard : Claim7 := { stood := { row := fieldMemoryUptoRow, standIns := [], harness := (true, "27149071d6281d78022d73adef0d12abf69fd45a008c278174ad163c76a59568"), looks := false }, kinds := [], alts := [], laidByText := true, laidKinds := [.data, .data, .pinned], laidTests := true, laidLooks := .later }
def FieldMemoryUptoCardSaid : Prop := Claim7.holds Tryd.pinned (.plain (OpenSpec.upto fieldMemorySpec)) fieldMemoryUptoCard
end Rows
end Go.Proofs.YtfpncbgedhodaaaDoor
