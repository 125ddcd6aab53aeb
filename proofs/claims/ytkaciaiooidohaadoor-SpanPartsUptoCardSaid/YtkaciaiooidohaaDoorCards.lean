/-
  DERIVED. GIVEN WITH THE SEED: THE CARDS: each row of YtkaciaiooidohaaDoorRows.lean that lists a variable, with what it lists TIED to the program's text (the seventh form; the later family's looks); each row that meets fmt, with fmt's text TOLD by the authors' own Lean function (tested against real Go, not proved from fmt's source: count such statements apart). THE CARD IS WHAT COUNTS. Prove the row's statement (the work); the ties are given (YtkaciaiooidohaaDoorTie.lean); close each card by the builder's one call (the guide's Derived/Test/ToyasCard.lean, 'card_holds'). Laid BY PROGRAM, IN A SANDBOX (cutbox-door.mjs). By AI agents, Wed Nov 11 2026. No macro, syntax, notation, axiom, sorry.
-/
import Derived.Test.YtkaciaiooidohaaDoorRows
import GoSem.ClaimSeven
namespace Go.Proofs.YtkaciaiooidohaaDoor
namespace Rows

/-- THE TIED CARD OF 'turnpikelaw09.SpanPrints'. -/
def spanPrintsCard : Claim7 := { stood := { row := spanPrintsRow, standIns := [], harness := (true, "447df0e3616aa3d8860032a7d85c20f58ffd7cfb9b6a8c4037c44a2fdf9988cc"), looks := false }, kinds := [], alts := [], laidByText := true, laidKinds := [.data, .data, .data, .data, .pinned], laidTests := true, laidLooks := .later }
def SpanPrintsCardSaid : Prop := Claim7.holds Tryd.pinned (.plain (OpenSpec.ofChange spanPrintsSpec)) spanPrintsCard

/-- THE TIED CARD OF 'turnpikelaw09.SpanMarks'. -/
def spanMarksCard : Claim7 := { stood := { row := spanMarksRow, standIns := [], harness := (true, "447df0e3616aa3d8860032a7d85c20f58ffd7cfb9b6a8c4037c44a2fdf9988cc"), looks := false }, kinds := [], alts := [], laidByText := true, laidKinds := [.data, .data, .data, .data, .pinned], laidTests := true, laidLooks := .later }
def SpanMarksCardSaid : Prop := Claim7.holds Tryd.pinned (.plain (OpenSpec.ofChange spanMarksSpec)) spanMarksCard

/-- THE TIED CARD OF 'turnpikelaw09.SpanParts'. -/
def spanPartsCard : Claim7 := { stood := { row := spanPartsRow, standIns := [], harness := (true, "447df0e3616aa3d8860032a7d85c20f58ffd7cfb9b6a8c4037c44a2fdf9988cc"), looks := false }, kinds := [], alts := [], laidByText := true, laidKinds := [.data, .data, .data, .data, .pinned], laidTests := true, laidLooks := .later }
def SpanPartsCardSaid : Prop := Claim7.holds Tryd.pinned (.plain (OpenSpec.ofChange spanPartsSpec)) spanPartsCard

/-- THE SECOND FORM's CARD OF 'turnpikelaw09.SpanPrints'. -/
def spanPrintsUptoCard : Claim7 := { stood := { row := spanPrintsUptoRow, standIns := [], harness := (true, "447df0e3616aa3d8860032a7d85c20f58ffd7cfb9b6a8c4037c44a2fdf9988cc"), looks := false }, kinds := [], alts := [], laidByText := true, laidKinds := [.data, .data, .data, .data, .pinned], laidTests := true, laidLooks := .later }
def SpanPrintsUptoCardSaid : Prop := Claim7.holds Tryd.pinned (.plain (OpenSpec.upto spanPrintsSpec)) spanPrintsUptoCard

/-- THE SECOND FORM's CARD OF 'turnpikelaw09.SpanMarks'. -/
def spanMarksUptoCard : Claim7 := { stood := { row := spanMarksUptoRow, standIns := [], harness := (true, "447df0e3616aa3d8860032a7d85c20f58ffd7cfb9b6a8c4037c44a2fdf9988cc"), looks := false }, kinds := [], alts := [], laidByText := true, laidKinds := [.data, .data, .data, .data, .pinned], laidTests := true, laidLooks := .later }
def SpanMarksUptoCardSaid : Prop := Claim7.holds Tryd.pinned (.plain (OpenSpec.upto spanMarksSpec)) spanMarksUptoCard

/-- THE SECOND FORM's CARD OF 'turnpikelaw09.SpanParts'. -/
def spanPartsUptoCard : Claim7 := { stood := { row := spanPartsUptoRow, standIns := [], harness := (true, "447df0e3616aa3d8860032a7d85c20f58ffd7cfb9b6a8c4037c44a2fdf9988cc"), looks := false }, kinds := [], alts := [], laidByText := true, laidKinds := [.data, .data, .data, .data, .pinned], laidTests := true, laidLooks := .later }
def SpanPartsUptoCardSaid : Prop := Claim7.holds Tryd.pinned (.plain (OpenSpec.upto spanPartsSpec)) spanPartsUptoCard
end Rows
end Go.Proofs.YtkaciaiooidohaaDoor
