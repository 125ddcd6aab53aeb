/-
  DERIVED. GIVEN WITH THE SEED: THE CARDS: each row of YtenipnlpambehaaDoorRows.lean that lists a variable, with what it lists TIED to the program's text (the seventh form; the later family's looks); each row that meets fmt, with fmt's text TOLD by the authors' own Lean function (tested against real Go, not proved from fmt's source: count such statements apart). THE CARD IS WHAT COUNTS. Prove the row's statement (the work); the ties are given (YtenipnlpambehaaDoorTie.lean); close each card by the builder's one call (the guide's Derived/Test/ToyasCard.lean, 'card_holds'). Laid BY PROGRAM, IN A SANDBOX (cutbox-door.mjs). By AI agents, Wed Nov 11 2026. No macro, syntax, notation, axiom, sorry.
-/
import Derived.Test.YtenipnlpambehaaDoorRows
import GoSem.ClaimSeven
namespace Go.Proofs.YtenipnlpambehaaDoor
namespace Rows

/-- THE TIED CARD OF 'turnpikelaw09.SpanPieces'. -/
def spanPiecesCard : Claim7 := { stood := { row := spanPiecesRow, standIns := [], harness := (true, "75a9fb10365709b853ed21ed119b272c2a69495733daa62e874bc4c33d94add2"), looks := false }, kinds := [], alts := [], laidByText := true, laidKinds := [.data, .data, .data, .data, .pinned], laidTests := true, laidLooks := .later }
def SpanPiecesCardSaid : Prop := Claim7.holds Tryd.pinned (.plain (OpenSpec.ofChange spanPiecesSpec)) spanPiecesCard

/-- THE TIED CARD OF 'turnpikelaw09.SpanMemory'. -/
def spanMemoryCard : Claim7 := { stood := { row := spanMemoryRow, standIns := [], harness := (true, "75a9fb10365709b853ed21ed119b272c2a69495733daa62e874bc4c33d94add2"), looks := false }, kinds := [], alts := [], laidByText := true, laidKinds := [.data, .pinned], laidTests := true, laidLooks := .later }
def SpanMemoryCardSaid : Prop := Claim7.holds Tryd.pinned (.plain (OpenSpec.ofChange spanMemorySpec)) spanMemoryCard

/-- THE SECOND FORM's CARD OF 'turnpikelaw09.SpanPieces'. -/
def spanPiecesUptoCard : Claim7 := { stood := { row := spanPiecesUptoRow, standIns := [], harness := (true, "75a9fb10365709b853ed21ed119b272c2a69495733daa62e874bc4c33d94add2"), looks := false }, kinds := [], alts := [], laidByText := true, laidKinds := [.data, .data, .data, .data, .pinned], laidTests := true, laidLooks := .later }
def SpanPiecesUptoCardSaid : Prop := Claim7.holds Tryd.pinned (.plain (OpenSpec.upto spanPiecesSpec)) spanPiecesUptoCard

/-- THE SECOND FORM's CARD OF 'turnpikelaw09.SpanMemory'. -/
def spanMemoryUptoCard : Claim7 := { stood := { row := spanMemoryUptoRow, standIns := [], harness := (true, "75a9fb10365709b853ed21ed119b272c2a69495733daa62e874bc4c33d94add2"), looks := false }, kinds := [], alts := [], laidByText := true, laidKinds := [.data, .pinned], laidTests := true, laidLooks := .later }
def SpanMemoryUptoCardSaid : Prop := Claim7.holds Tryd.pinned (.plain (OpenSpec.upto spanMemorySpec)) spanMemoryUptoCard
end Rows
end Go.Proofs.YtenipnlpambehaaDoor
