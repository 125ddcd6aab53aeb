/-
  DERIVED. GIVEN WITH THE SEED: THE CARDS: each row of YtdbnlpnnfnodnaaDoorRows.lean that lists a variable, with what it lists TIED to the program's text (the seventh form; the later family's looks); each row that meets fmt, with fmt's text TOLD by the authors' own Lean function (tested against real Go, not proved from fmt's source: count such statements apart). THE CARD IS WHAT COUNTS. Prove the row's statement (the work); the ties are given (YtdbnlpnnfnodnaaDoorTie.lean); close each card by the builder's one call (the guide's Derived/Test/ToyasCard.lean, 'card_holds'). Laid BY PROGRAM, IN A SANDBOX (cutbox-door.mjs). By AI agents, Wed Nov 11 2026. No macro, syntax, notation, axiom, sorry.
-/
import Derived.Test.YtdbnlpnnfnodnaaDoorRows
import GoSem.ClaimSeven
namespace Go.Proofs.YtdbnlpnnfnodnaaDoor
namespace Rows

/-- THE TIED CARD OF 'turnpikelaw10.ChunkSizes'. -/
def chunkSizesCard : Claim7 := { stood := { row := chunkSizesRow, standIns := [], harness := (true, "5544bdfee7f23cd0b5804c651e3fb510ac572b5739d98069f4b964942fb7b43c"), looks := false }, kinds := [], alts := [], laidByText := true, laidKinds := [.data, .data, .pinned], laidTests := true, laidLooks := .later }
def ChunkSizesCardSaid : Prop := Claim7.holds Tryd.pinned (.plain (OpenSpec.ofChange chunkSizesSpec)) chunkSizesCard

/-- THE TIED CARD OF 'turnpikelaw10.ChunkTrails'. -/
def chunkTrailsCard : Claim7 := { stood := { row := chunkTrailsRow, standIns := [], harness := (true, "5544bdfee7f23cd0b5804c651e3fb510ac572b5739d98069f4b964942fb7b43c"), looks := false }, kinds := [], alts := [], laidByText := true, laidKinds := [.data, .data, .pinned], laidTests := true, laidLooks := .later }
def ChunkTrailsCardSaid : Prop := Claim7.holds Tryd.pinned (.plain (OpenSpec.ofChange chunkTrailsSpec)) chunkTrailsCard

/-- THE SECOND FORM's CARD OF 'turnpikelaw10.ChunkSizes'. -/
def chunkSizesUptoCard : Claim7 := { stood := { row := chunkSizesUptoRow, standIns := [], harness := (true, "5544bdfee7f23cd0b5804c651e3fb510ac572b5739d98069f4b964942fb7b43c"), looks := false }, kinds := [], alts := [], laidByText := true, laidKinds := [.data, .data, .pinned], laidTests := true, laidLooks := .later }
def ChunkSizesUptoCardSaid : Prop := Claim7.holds Tryd.pinned (.plain (OpenSpec.upto chunkSizesSpec)) chunkSizesUptoCard

/-- THE SECOND FORM's CARD OF 'turnpikelaw10.ChunkTrails'. -/
def chunkTrailsUptoCard : Claim7 := { stood := { row := chunkTrailsUptoRow, standIns := [], harness := (true, "5544bdfee7f23cd0b5804c651e3fb510ac572b5739d98069f4b964942fb7b43c"), looks := false }, kinds := [], alts := [], laidByText := true, laidKinds := [.data, .data, .pinned], laidTests := true, laidLooks := .later }
def ChunkTrailsUptoCardSaid : Prop := Claim7.holds Tryd.pinned (.plain (OpenSpec.upto chunkTrailsSpec)) chunkTrailsUptoCard
end Rows
end Go.Proofs.YtdbnlpnnfnodnaaDoor
