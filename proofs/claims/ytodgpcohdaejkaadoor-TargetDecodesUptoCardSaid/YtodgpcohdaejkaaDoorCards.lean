/-
  DERIVED. GIVEN WITH THE SEED: THE CARDS: each row of YtodgpcohdaejkaaDoorRows.lean that lists a variable, with what it lists TIED to the program's text (the seventh form; the later family's looks); each row that meets fmt, with fmt's text TOLD by the authors' own Lean function (tested against real Go, not proved from fmt's source: count such statements apart). THE CARD IS WHAT COUNTS. Prove the row's statement (the work); the ties are given (YtodgpcohdaejkaaDoorTie.lean); close each card by the builder's one call (the guide's Derived/Test/ToyasCard.lean, 'card_holds'). Laid BY PROGRAM, IN A SANDBOX (cutbox-door.mjs). By AI agents, Wed Nov 11 2026. No macro, syntax, notation, axiom, sorry.
-/
import Derived.Test.YtodgpcohdaejkaaDoorRows
import GoSem.ClaimSeven
namespace Go.Proofs.YtodgpcohdaejkaaDoor
namespace Rows

/-- THE TIED CARD OF 'turnpikelaw05.TargetCodes'. -/
def targetCodesCard : Claim7 := { stood := { row := targetCodesRow, standIns := [], harness := (true, "9dc017a266d063674cd4371e8382feabaac84cb75a69a062ffebe2ca77b340bb"), looks := false }, kinds := [], alts := [], laidByText := true, laidKinds := [.data, .data, .data, .data, .pinned], laidTests := true, laidLooks := .later }
def TargetCodesCardSaid : Prop := Claim7.holds Tryd.pinned (.plain (OpenSpec.ofChange targetCodesSpec)) targetCodesCard

/-- THE TIED CARD OF 'turnpikelaw05.TargetDecodes'. -/
def targetDecodesCard : Claim7 := { stood := { row := targetDecodesRow, standIns := [], harness := (true, "9dc017a266d063674cd4371e8382feabaac84cb75a69a062ffebe2ca77b340bb"), looks := false }, kinds := [], alts := [], laidByText := true, laidKinds := [.data, .data, .data, .data, .pinned], laidTests := true, laidLooks := .later }
def TargetDecodesCardSaid : Prop := Claim7.holds Tryd.pinned (.plain (OpenSpec.ofChange targetDecodesSpec)) targetDecodesCard

/-- THE SECOND FORM's CARD OF 'turnpikelaw05.TargetCodes'. -/
def targetCodesUptoCard : Claim7 := { stood := { row := targetCodesUptoRow, standIns := [], harness := (true, "9dc017a266d063674cd4371e8382feabaac84cb75a69a062ffebe2ca77b340bb"), looks := false }, kinds := [], alts := [], laidByText := true, laidKinds := [.data, .data, .data, .data, .pinned], laidTests := true, laidLooks := .later }
def TargetCodesUptoCardSaid : Prop := Claim7.holds Tryd.pinned (.plain (OpenSpec.upto targetCodesSpec)) targetCodesUptoCard

/-- THE SECOND FORM's CARD OF 'turnpikelaw05.TargetDecodes'. -/
def targetDecodesUptoCard : Claim7 := { stood := { row := targetDecodesUptoRow, standIns := [], harness := (true, "9dc017a266d063674cd4371e8382feabaac84cb75a69a062ffebe2ca77b340bb"), looks := false }, kinds := [], alts := [], laidByText := true, laidKinds := [.data, .data, .data, .data, .pinned], laidTests := true, laidLooks := .later }
def TargetDecodesUptoCardSaid : Prop := Claim7.holds Tryd.pinned (.plain (OpenSpec.upto targetDecodesSpec)) targetDecodesUptoCard
end Rows
end Go.Proofs.YtodgpcohdaejkaaDoor
