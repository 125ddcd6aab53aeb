/-
  DERIVED. GIVEN WITH THE SEED: THE CARDS: each row of YtfoepegndoippaaDoorRows.lean that lists a variable, with what it lists TIED to the program's text (the seventh form; the later family's looks); each row that meets fmt, with fmt's text TOLD by the authors' own Lean function (tested against real Go, not proved from fmt's source: count such statements apart). THE CARD IS WHAT COUNTS. Prove the row's statement (the work); the ties are given (YtfoepegndoippaaDoorTie.lean); close each card by the builder's one call (the guide's Derived/Test/ToyasCard.lean, 'card_holds'). Laid BY PROGRAM, IN A SANDBOX (cutbox-door.mjs). By AI agents, Wed Nov 11 2026. No macro, syntax, notation, axiom, sorry.
-/
import Derived.Test.YtfoepegndoippaaDoorRows
import GoSem.ClaimSeven
namespace Go.Proofs.YtfoepegndoippaaDoor
namespace Rows

/-- THE TIED CARD OF 'turnpikelaw09.SpanMarks'. -/
def spanMarksCard : Claim7 := { stood := { row := spanMarksRow, standIns := [], harness := (true, "3192d133c819241426e41a8d8976ec73b3d182585306a7350b9c4fd15eeb4fec"), looks := false }, kinds := [], alts := [], laidByText := true, laidKinds := [.data, .data, .data, .data, .pinned], laidTests := true, laidLooks := .later }
def SpanMarksCardSaid : Prop := Claim7.holds Tryd.pinned (.plain (OpenSpec.ofChange spanMarksSpec)) spanMarksCard

/-- THE SECOND FORM's CARD OF 'turnpikelaw09.SpanMarks'. -/
def spanMarksUptoCard : Claim7 := { stood := { row := spanMarksUptoRow, standIns := [], harness := (true, "3192d133c819241426e41a8d8976ec73b3d182585306a7350b9c4fd15eeb4fec"), looks := false }, kinds := [], alts := [], laidByText := true, laidKinds := [.data, .data, .data, .data, .pinned], laidTests := true, laidLooks := .later }
def SpanMarksUptoCardSaid : Prop := Claim7.holds Tryd.pinned (.plain (OpenSpec.upto spanMarksSpec)) spanMarksUptoCard
end Rows
end Go.Proofs.YtfoepegndoippaaDoor
