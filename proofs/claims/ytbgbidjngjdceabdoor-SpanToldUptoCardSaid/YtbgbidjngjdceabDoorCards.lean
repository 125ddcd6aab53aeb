/-
  DERIVED. GIVEN WITH THE SEED: THE CARDS: each row of YtbgbidjngjdceabDoorRows.lean that lists a variable, with what it lists TIED to the program's text (the seventh form; the later family's looks); each row that meets fmt, with fmt's text TOLD by the authors' own Lean function (tested against real Go, not proved from fmt's source: count such statements apart). THE CARD IS WHAT COUNTS. Prove the row's statement (the work); the ties are given (YtbgbidjngjdceabDoorTie.lean); close each card by the builder's one call (the guide's Derived/Test/ToyasCard.lean, 'card_holds'). Laid BY PROGRAM, IN A SANDBOX (cutbox-door.mjs). By AI agents, Wed Nov 11 2026. No macro, syntax, notation, axiom, sorry.
-/
import Derived.Test.YtbgbidjngjdceabDoorRows
import GoSem.ClaimSeven
namespace Go.Proofs.YtbgbidjngjdceabDoor
namespace Rows

/-- THE TIED CARD OF 'turnpikelaw09.SpanTold'. -/
def spanToldCard : Claim7 := { stood := { row := spanToldRow, standIns := [], harness := (true, "672eacef7fcddc87fd655e96e738c26183f7ab410197b8dfc08e5d797325a24b"), looks := false }, kinds := [], alts := [], laidByText := true, laidKinds := [.data, .data, .data, .data, .pinned], laidTests := true, laidLooks := .later }
def SpanToldCardSaid : Prop := Claim7.holds Tryd.pinned (.plain (OpenSpec.ofChange spanToldSpec)) spanToldCard

/-- THE TIED CARD OF 'turnpikelaw09.SpanMarks'. -/
def spanMarksCard : Claim7 := { stood := { row := spanMarksRow, standIns := [], harness := (true, "672eacef7fcddc87fd655e96e738c26183f7ab410197b8dfc08e5d797325a24b"), looks := false }, kinds := [], alts := [], laidByText := true, laidKinds := [.data, .data, .data, .data, .pinned], laidTests := true, laidLooks := .later }
def SpanMarksCardSaid : Prop := Claim7.holds Tryd.pinned (.plain (OpenSpec.ofChange spanMarksSpec)) spanMarksCard

/-- THE TIED CARD OF 'turnpikelaw09.SpanParts'. -/
def spanPartsCard : Claim7 := { stood := { row := spanPartsRow, standIns := [], harness := (true, "672eacef7fcddc87fd655e96e738c26183f7ab410197b8dfc08e5d797325a24b"), looks := false }, kinds := [], alts := [], laidByText := true, laidKinds := [.data, .data, .data, .data, .pinned], laidTests := true, laidLooks := .later }
def SpanPartsCardSaid : Prop := Claim7.holds Tryd.pinned (.plain (OpenSpec.ofChange spanPartsSpec)) spanPartsCard

/-- THE TIED CARD OF 'turnpikelaw09.SpanPieces'. -/
def spanPiecesCard : Claim7 := { stood := { row := spanPiecesRow, standIns := [], harness := (true, "672eacef7fcddc87fd655e96e738c26183f7ab410197b8dfc08e5d797325a24b"), looks := false }, kinds := [], alts := [], laidByText := true, laidKinds := [.data, .data, .data, .data, .pinned], laidTests := true, laidLooks := .later }
def SpanPiecesCardSaid : Prop := Claim7.holds Tryd.pinned (.plain (OpenSpec.ofChange spanPiecesSpec)) spanPiecesCard

/-- THE TIED CARD OF 'turnpikelaw09.SpanMemory'. -/
def spanMemoryCard : Claim7 := { stood := { row := spanMemoryRow, standIns := [], harness := (true, "672eacef7fcddc87fd655e96e738c26183f7ab410197b8dfc08e5d797325a24b"), looks := false }, kinds := [], alts := [], laidByText := true, laidKinds := [.data, .pinned], laidTests := true, laidLooks := .later }
def SpanMemoryCardSaid : Prop := Claim7.holds Tryd.pinned (.plain (OpenSpec.ofChange spanMemorySpec)) spanMemoryCard

/-- THE SECOND FORM's CARD OF 'turnpikelaw09.SpanTold'. -/
def spanToldUptoCard : Claim7 := { stood := { row := spanToldUptoRow, standIns := [], harness := (true, "672eacef7fcddc87fd655e96e738c26183f7ab410197b8dfc08e5d797325a24b"), looks := false }, kinds := [], alts := [], laidByText := true, laidKinds := [.data, .data, .data, .data, .pinned], laidTests := true, laidLooks := .later }
def SpanToldUptoCardSaid : Prop := Claim7.holds Tryd.pinned (.plain (OpenSpec.upto spanToldSpec)) spanToldUptoCard

/-- THE SECOND FORM's CARD OF 'turnpikelaw09.SpanMarks'. -/
def spanMarksUptoCard : Claim7 := { stood := { row := spanMarksUptoRow, standIns := [], harness := (true, "672eacef7fcddc87fd655e96e738c26183f7ab410197b8dfc08e5d797325a24b"), looks := false }, kinds := [], alts := [], laidByText := true, laidKinds := [.data, .data, .data, .data, .pinned], laidTests := true, laidLooks := .later }
def SpanMarksUptoCardSaid : Prop := Claim7.holds Tryd.pinned (.plain (OpenSpec.upto spanMarksSpec)) spanMarksUptoCard

/-- THE SECOND FORM's CARD OF 'turnpikelaw09.SpanParts'. -/
def spanPartsUptoCard : Claim7 := { stood := { row := spanPartsUptoRow, standIns := [], harness := (true, "672eacef7fcddc87fd655e96e738c26183f7ab410197b8dfc08e5d797325a24b"), looks := false }, kinds := [], alts := [], laidByText := true, laidKinds := [.data, .data, .data, .data, .pinned], laidTests := true, laidLooks := .later }
def SpanPartsUptoCardSaid : Prop := Claim7.holds Tryd.pinned (.plain (OpenSpec.upto spanPartsSpec)) spanPartsUptoCard

/-- THE SECOND FORM's CARD OF 'turnpikelaw09.SpanPieces'. -/
def spanPiecesUptoCard : Claim7 := { stood := { row := spanPiecesUptoRow, standIns := [], harness := (true, "672eacef7fcddc87fd655e96e738c26183f7ab410197b8dfc08e5d797325a24b"), looks := false }, kinds := [], alts := [], laidByText := true, laidKinds := [.data, .data, .data, .data, .pinned], laidTests := true, laidLooks := .later }
def SpanPiecesUptoCardSaid : Prop := Claim7.holds Tryd.pinned (.plain (OpenSpec.upto spanPiecesSpec)) spanPiecesUptoCard

/-- THE SECOND FORM's CARD OF 'turnpikelaw09.SpanMemory'. -/
def spanMemoryUptoCard : Claim7 := { stood := { row := spanMemoryUptoRow, standIns := [], harness := (true, "672eacef7fcddc87fd655e96e738c26183f7ab410197b8dfc08e5d797325a24b"), looks := false }, kinds := [], alts := [], laidByText := true, laidKinds := [.data, .pinned], laidTests := true, laidLooks := .later }
def SpanMemoryUptoCardSaid : Prop := Claim7.holds Tryd.pinned (.plain (OpenSpec.upto spanMemorySpec)) spanMemoryUptoCard
end Rows
end Go.Proofs.YtbgbidjngjdceabDoor
