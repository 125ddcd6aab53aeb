/-
  DERIVED. GIVEN WITH THE SEED: THE CARDS: each row of YtggmidkmpgjnoaaDoorRows.lean that lists a variable, with what it lists TIED to the program's text (the seventh form; the later family's looks); each row that meets fmt, with fmt's text TOLD by the authors' own Lean function (tested against real Go, not proved from fmt's source: count such statements apart). THE CARD IS WHAT COUNTS. Prove the row's statement (the work); the ties are given (YtggmidkmpgjnoaaDoorTie.lean); close each card by the builder's one call (the guide's Derived/Test/ToyasCard.lean, 'card_holds'). Laid BY PROGRAM, IN A SANDBOX (cutbox-door.mjs). By AI agents, Wed Nov 11 2026. No macro, syntax, notation, axiom, sorry.
-/
import Derived.Test.YtggmidkmpgjnoaaDoorRows
import GoSem.ClaimSeven
namespace Go.Proofs.YtggmidkmpgjnoaaDoor
namespace Rows

/-- THE TIED CARD OF 'turnpikelaw06.FieldTurns'. -/
def fieldTurnsCard : Claim7 := { stood := { row := fieldTurnsRow, standIns := [], harness := (true, "8bdcbef9c6e26ba156c018772a8b140c94aa9c235dfa32ff92bb3477fe744b03"), looks := false }, kinds := [], alts := [], laidByText := true, laidKinds := [.data, .data, .pinned], laidTests := true, laidLooks := .later }
def FieldTurnsCardSaid : Prop := Claim7.holds Tryd.pinned (.plain (OpenSpec.ofChange fieldTurnsSpec)) fieldTurnsCard

/-- THE TIED CARD OF 'turnpikelaw06.FieldMemory'. -/
def fieldMemoryCard : Claim7 := { stood := { row := fieldMemoryRow, standIns := [], harness := (true, "8bdcbef9c6e26ba156c018772a8b140c94aa9c235dfa32ff92bb3477fe744b03"), looks := false }, kinds := [], alts := [], laidByText := true, laidKinds := [.data, .data, .pinned], laidTests := true, laidLooks := .later }
def FieldMemoryCardSaid : Prop := Claim7.holds Tryd.pinned (.plain (OpenSpec.ofChange fieldMemorySpec)) fieldMemoryCard

/-- THE SECOND FORM's CARD OF 'turnpikelaw06.FieldTurns'. -/
def fieldTurnsUptoCard : Claim7 := { stood := { row := fieldTurnsUptoRow, standIns := [], harness := (true, "8bdcbef9c6e26ba156c018772a8b140c94aa9c235dfa32ff92bb3477fe744b03"), looks := false }, kinds := [], alts := [], laidByText := true, laidKinds := [.data, .data, .pinned], laidTests := true, laidLooks := .later }
def FieldTurnsUptoCardSaid : Prop := Claim7.holds Tryd.pinned (.plain (OpenSpec.upto fieldTurnsSpec)) fieldTurnsUptoCard

/-- THE SECOND FORM's CARD OF 'turnpikelaw06.FieldMemory'. -/
def fieldMemoryUptoCard : Claim7 := { stood := { row := fieldMemoryUptoRow, standIns := [], harness := (true, "8bdcbef9c6e26ba156c018772a8b140c94aa9c235dfa32ff92bb3477fe744b03"), looks := false }, kinds := [], alts := [], laidByText := true, laidKinds := [.data, .data, .pinned], laidTests := true, laidLooks := .later }
def FieldMemoryUptoCardSaid : Prop := Claim7.holds Tryd.pinned (.plain (OpenSpec.upto fieldMemorySpec)) fieldMemoryUptoCard
end Rows
end Go.Proofs.YtggmidkmpgjnoaaDoor
