/-
  DERIVED. GIVEN WITH THE SEED: THE CARDS: each row of YtdbnlpnnfnodnaaGreatDoorRows.lean that lists a variable, with what it lists TIED to the program's text (the seventh form; the later family's looks); each row that meets fmt, with fmt's text TOLD by the authors' own Lean function (tested against real Go, not proved from fmt's source: count such statements apart). THE CARD IS WHAT COUNTS. Prove the row's statement (the work); the ties are given (YtdbnlpnnfnodnaaGreatDoorTie.lean); close each card by the builder's one call (the guide's Derived/Test/ToyasCard.lean, 'card_holds'). Laid BY PROGRAM, IN A SANDBOX (cutbox-door.mjs). By AI agents, Wed Nov 11 2026. No macro, syntax, notation, axiom, sorry.
-/
import Derived.Test.YtdbnlpnnfnodnaaGreatDoorRows
import GoSem.ClaimSeven
namespace Go.Proofs.YtdbnlpnnfnodnaaGreatDoor
namespace Rows

/-- THE TIED CARD OF 'turnpikelaw10.ChunkPrints'. -/
def chunkPrintsCard : Claim7 := { stood := { row := chunkPrintsRow, standIns := [], harness := (true, "316e779e4b3af21f300c169d3099a078e4520affa5f475d4c78dc01ac82465a1"), looks := false }, kinds := [], alts := [], laidByText := true, laidKinds := [.data, .data, .data, .data, .data, .pinned], laidTests := true, laidLooks := .later }
def ChunkPrintsCardSaid : Prop := Claim7.holds Tryz.pinned (.plain (OpenSpec.ofChange chunkPrintsSpec)) chunkPrintsCard

/-- THE TIED CARD OF 'turnpikelaw10.ChunkDecodes'. -/
def chunkDecodesCard : Claim7 := { stood := { row := chunkDecodesRow, standIns := [], harness := (true, "316e779e4b3af21f300c169d3099a078e4520affa5f475d4c78dc01ac82465a1"), looks := false }, kinds := [], alts := [], laidByText := true, laidKinds := [.data, .data, .pinned], laidTests := true, laidLooks := .later }
def ChunkDecodesCardSaid : Prop := Claim7.holds Tryz.pinned (.plain (OpenSpec.ofChange chunkDecodesSpec)) chunkDecodesCard

/-- THE TIED CARD OF 'turnpikelaw10.ChunkFeeds'. -/
def chunkFeedsCard : Claim7 := { stood := { row := chunkFeedsRow, standIns := [], harness := (true, "316e779e4b3af21f300c169d3099a078e4520affa5f475d4c78dc01ac82465a1"), looks := false }, kinds := [], alts := [], laidByText := true, laidKinds := [.data, .data, .pinned], laidTests := true, laidLooks := .later }
def ChunkFeedsCardSaid : Prop := Claim7.holds Tryz.pinned (.plain (OpenSpec.ofChange chunkFeedsSpec)) chunkFeedsCard

/-- THE TIED CARD OF 'turnpikelaw10.ChunkTwo'. -/
def chunkTwoCard : Claim7 := { stood := { row := chunkTwoRow, standIns := [], harness := (true, "316e779e4b3af21f300c169d3099a078e4520affa5f475d4c78dc01ac82465a1"), looks := false }, kinds := [], alts := [], laidByText := true, laidKinds := [.data, .data, .pinned], laidTests := true, laidLooks := .later }
def ChunkTwoCardSaid : Prop := Claim7.holds Tryz.pinned (.plain (OpenSpec.ofChange chunkTwoSpec)) chunkTwoCard

/-- THE SECOND FORM's CARD OF 'turnpikelaw10.ChunkPrints'. -/
def chunkPrintsUptoCard : Claim7 := { stood := { row := chunkPrintsUptoRow, standIns := [], harness := (true, "316e779e4b3af21f300c169d3099a078e4520affa5f475d4c78dc01ac82465a1"), looks := false }, kinds := [], alts := [], laidByText := true, laidKinds := [.data, .data, .data, .data, .data, .pinned], laidTests := true, laidLooks := .later }
def ChunkPrintsUptoCardSaid : Prop := Claim7.holds Tryz.pinned (.plain (OpenSpec.upto chunkPrintsSpec)) chunkPrintsUptoCard

/-- THE SECOND FORM's CARD OF 'turnpikelaw10.ChunkDecodes'. -/
def chunkDecodesUptoCard : Claim7 := { stood := { row := chunkDecodesUptoRow, standIns := [], harness := (true, "316e779e4b3af21f300c169d3099a078e4520affa5f475d4c78dc01ac82465a1"), looks := false }, kinds := [], alts := [], laidByText := true, laidKinds := [.data, .data, .pinned], laidTests := true, laidLooks := .later }
def ChunkDecodesUptoCardSaid : Prop := Claim7.holds Tryz.pinned (.plain (OpenSpec.upto chunkDecodesSpec)) chunkDecodesUptoCard

/-- THE SECOND FORM's CARD OF 'turnpikelaw10.ChunkFeeds'. -/
def chunkFeedsUptoCard : Claim7 := { stood := { row := chunkFeedsUptoRow, standIns := [], harness := (true, "316e779e4b3af21f300c169d3099a078e4520affa5f475d4c78dc01ac82465a1"), looks := false }, kinds := [], alts := [], laidByText := true, laidKinds := [.data, .data, .pinned], laidTests := true, laidLooks := .later }
def ChunkFeedsUptoCardSaid : Prop := Claim7.holds Tryz.pinned (.plain (OpenSpec.upto chunkFeedsSpec)) chunkFeedsUptoCard

/-- THE SECOND FORM's CARD OF 'turnpikelaw10.ChunkTwo'. -/
def chunkTwoUptoCard : Claim7 := { stood := { row := chunkTwoUptoRow, standIns := [], harness := (true, "316e779e4b3af21f300c169d3099a078e4520affa5f475d4c78dc01ac82465a1"), looks := false }, kinds := [], alts := [], laidByText := true, laidKinds := [.data, .data, .pinned], laidTests := true, laidLooks := .later }
def ChunkTwoUptoCardSaid : Prop := Claim7.holds Tryz.pinned (.plain (OpenSpec.upto chunkTwoSpec)) chunkTwoUptoCard
end Rows
end Go.Proofs.YtdbnlpnnfnodnaaGreatDoor
