/-
  DERIVED. GIVEN WITH THE SEED: THE CARDS: each row of YtodgpcohdaejkabDoorRows.lean that lists a variable, with what it lists TIED to the program's text (the seventh form; the later family's looks); each row that meets fmt, with fmt's text TOLD by the authors' own Lean function (tested against real Go, not proved from fmt's source: count such statements apart). THE CARD IS WHAT COUNTS. Prove the row's statement (the work); the ties are given (YtodgpcohdaejkabDoorTie.lean); close each card by the builder's one call (the guide's Derived/Test/ToyasCard.lean, 'card_holds'). Laid BY PROGRAM, IN A SANDBOX (cutbox-door.mjs). By AI agents, Wed Nov 11 2026. No macro, syntax, notation, axiom, sorry.
-/
import Derived.Test.YtodgpcohdaejkabDoorRows
import GoSem.ClaimSeven
namespace Go.Proofs.YtodgpcohdaejkabDoor
namespace Rows

/-- THE TIED CARD OF 'turnpikelaw05.TargetPaths'. -/
def targetPathsCard : Claim7 := { stood := { row := targetPathsRow, standIns := [], harness := (true, "d44f05d2b6a625ed3c9260a69f92d81df440f3bc883d430df81077f5bbfe3daf"), looks := false }, kinds := [], alts := [], laidByText := true, laidKinds := [.data, .data, .data, .data, .pinned], laidTests := true, laidLooks := .later }
def TargetPathsCardSaid : Prop := Claim7.holds Tryd.pinned (.plain (OpenSpec.ofChange targetPathsSpec)) targetPathsCard

/-- THE SECOND FORM's CARD OF 'turnpikelaw05.TargetPaths'. -/
def targetPathsUptoCard : Claim7 := { stood := { row := targetPathsUptoRow, standIns := [], harness := (true, "d44f05d2b6a625ed3c9260a69f92d81df440f3bc883d430df81077f5bbfe3daf"), looks := false }, kinds := [], alts := [], laidByText := true, laidKinds := [.data, .data, .data, .data, .pinned], laidTests := true, laidLooks := .later }
def TargetPathsUptoCardSaid : Prop := Claim7.holds Tryd.pinned (.plain (OpenSpec.upto targetPathsSpec)) targetPathsUptoCard
end Rows
end Go.Proofs.YtodgpcohdaejkabDoor
