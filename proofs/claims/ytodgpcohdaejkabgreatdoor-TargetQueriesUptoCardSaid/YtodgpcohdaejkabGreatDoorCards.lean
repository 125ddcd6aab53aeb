/-
  DERIVED. GIVEN WITH THE SEED: THE CARDS: each row of YtodgpcohdaejkabGreatDoorRows.lean that lists a variable, with what it lists TIED to the program's text (the seventh form; the later family's looks); each row that meets fmt, with fmt's text TOLD by the authors' own Lean function (tested against real Go, not proved from fmt's source: count such statements apart). THE CARD IS WHAT COUNTS. Prove the row's statement (the work); the ties are given (YtodgpcohdaejkabGreatDoorTie.lean); close each card by the builder's one call (the guide's Derived/Test/ToyasCard.lean, 'card_holds'). Laid BY PROGRAM, IN A SANDBOX (cutbox-door.mjs). By AI agents, Wed Nov 11 2026. No macro, syntax, notation, axiom, sorry.
-/
import Derived.Test.YtodgpcohdaejkabGreatDoorRows
import GoSem.ClaimSeven
namespace Go.Proofs.YtodgpcohdaejkabGreatDoor
namespace Rows

/-- THE TIED CARD OF 'turnpikelaw05.TargetNormal'. -/
def targetNormalCard : Claim7 := { stood := { row := targetNormalRow, standIns := [], harness := (true, "abd447ae224070959ae00c402b993676f768ebdd0b85e9d191b8123a1f58618a"), looks := false }, kinds := [], alts := [], laidByText := true, laidKinds := [.data, .data, .data, .data, .pinned], laidTests := true, laidLooks := .later }
def TargetNormalCardSaid : Prop := Claim7.holds Tryz.pinned (.plain (OpenSpec.ofChange targetNormalSpec)) targetNormalCard

/-- THE TIED CARD OF 'turnpikelaw05.TargetDots'. -/
def targetDotsCard : Claim7 := { stood := { row := targetDotsRow, standIns := [], harness := (true, "abd447ae224070959ae00c402b993676f768ebdd0b85e9d191b8123a1f58618a"), looks := false }, kinds := [], alts := [], laidByText := true, laidKinds := [.data, .data, .data, .data, .pinned], laidTests := true, laidLooks := .later }
def TargetDotsCardSaid : Prop := Claim7.holds Tryz.pinned (.plain (OpenSpec.ofChange targetDotsSpec)) targetDotsCard

/-- THE TIED CARD OF 'turnpikelaw05.TargetResolves'. -/
def targetResolvesCard : Claim7 := { stood := { row := targetResolvesRow, standIns := [], harness := (true, "abd447ae224070959ae00c402b993676f768ebdd0b85e9d191b8123a1f58618a"), looks := false }, kinds := [], alts := [], laidByText := true, laidKinds := [.data, .data, .data, .data, .pinned], laidTests := true, laidLooks := .later }
def TargetResolvesCardSaid : Prop := Claim7.holds Tryz.pinned (.plain (OpenSpec.ofChange targetResolvesSpec)) targetResolvesCard

/-- THE TIED CARD OF 'turnpikelaw05.TargetSteps'. -/
def targetStepsCard : Claim7 := { stood := { row := targetStepsRow, standIns := [], harness := (true, "abd447ae224070959ae00c402b993676f768ebdd0b85e9d191b8123a1f58618a"), looks := false }, kinds := [], alts := [], laidByText := true, laidKinds := [.data, .data, .data, .data, .pinned], laidTests := true, laidLooks := .later }
def TargetStepsCardSaid : Prop := Claim7.holds Tryz.pinned (.plain (OpenSpec.ofChange targetStepsSpec)) targetStepsCard

/-- THE TIED CARD OF 'turnpikelaw05.TargetQueries'. -/
def targetQueriesCard : Claim7 := { stood := { row := targetQueriesRow, standIns := [], harness := (true, "abd447ae224070959ae00c402b993676f768ebdd0b85e9d191b8123a1f58618a"), looks := false }, kinds := [], alts := [], laidByText := true, laidKinds := [.data, .data, .data, .data, .pinned], laidTests := true, laidLooks := .later }
def TargetQueriesCardSaid : Prop := Claim7.holds Tryz.pinned (.plain (OpenSpec.ofChange targetQueriesSpec)) targetQueriesCard

/-- THE SECOND FORM's CARD OF 'turnpikelaw05.TargetNormal'. -/
def targetNormalUptoCard : Claim7 := { stood := { row := targetNormalUptoRow, standIns := [], harness := (true, "abd447ae224070959ae00c402b993676f768ebdd0b85e9d191b8123a1f58618a"), looks := false }, kinds := [], alts := [], laidByText := true, laidKinds := [.data, .data, .data, .data, .pinned], laidTests := true, laidLooks := .later }
def TargetNormalUptoCardSaid : Prop := Claim7.holds Tryz.pinned (.plain (OpenSpec.upto targetNormalSpec)) targetNormalUptoCard

/-- THE SECOND FORM's CARD OF 'turnpikelaw05.TargetDots'. -/
def targetDotsUptoCard : Claim7 := { stood := { row := targetDotsUptoRow, standIns := [], harness := (true, "abd447ae224070959ae00c402b993676f768ebdd0b85e9d191b8123a1f58618a"), looks := false }, kinds := [], alts := [], laidByText := true, laidKinds := [.data, .data, .data, .data, .pinned], laidTests := true, laidLooks := .later }
def TargetDotsUptoCardSaid : Prop := Claim7.holds Tryz.pinned (.plain (OpenSpec.upto targetDotsSpec)) targetDotsUptoCard

/-- THE SECOND FORM's CARD OF 'turnpikelaw05.TargetResolves'. -/
def targetResolvesUptoCard : Claim7 := { stood := { row := targetResolvesUptoRow, standIns := [], harness := (true, "abd447ae224070959ae00c402b993676f768ebdd0b85e9d191b8123a1f58618a"), looks := false }, kinds := [], alts := [], laidByText := true, laidKinds := [.data, .data, .data, .data, .pinned], laidTests := true, laidLooks := .later }
def TargetResolvesUptoCardSaid : Prop := Claim7.holds Tryz.pinned (.plain (OpenSpec.upto targetResolvesSpec)) targetResolvesUptoCard

/-- THE SECOND FORM's CARD OF 'turnpikelaw05.TargetSteps'. -/
def targetStepsUptoCard : Claim7 := { stood := { row := targetStepsUptoRow, standIns := [], harness := (true, "abd447ae224070959ae00c402b993676f768ebdd0b85e9d191b8123a1f58618a"), looks := false }, kinds := [], alts := [], laidByText := true, laidKinds := [.data, .data, .data, .data, .pinned], laidTests := true, laidLooks := .later }
def TargetStepsUptoCardSaid : Prop := Claim7.holds Tryz.pinned (.plain (OpenSpec.upto targetStepsSpec)) targetStepsUptoCard

/-- THE SECOND FORM's CARD OF 'turnpikelaw05.TargetQueries'. -/
def targetQueriesUptoCard : Claim7 := { stood := { row := targetQueriesUptoRow, standIns := [], harness := (true, "abd447ae224070959ae00c402b993676f768ebdd0b85e9d191b8123a1f58618a"), looks := false }, kinds := [], alts := [], laidByText := true, laidKinds := [.data, .data, .data, .data, .pinned], laidTests := true, laidLooks := .later }
def TargetQueriesUptoCardSaid : Prop := Claim7.holds Tryz.pinned (.plain (OpenSpec.upto targetQueriesSpec)) targetQueriesUptoCard
end Rows
end Go.Proofs.YtodgpcohdaejkabGreatDoor
