/-
  DERIVED. GIVEN WITH THE SEED: THE CARDS: each row of YtepidekmnkempaaDoorRows.lean that lists a variable, with what it lists TIED to the program's text (the seventh form; the later family's looks); each row that meets fmt, with fmt's text TOLD by the authors' own Lean function (tested against real Go, not proved from fmt's source: count such statements apart). THE CARD IS WHAT COUNTS. Prove the row's statement (the work); the ties are given (YtepidekmnkempaaDoorTie.lean); close each card by the builder's one call (the guide's Derived/Test/ToyasCard.lean, 'card_holds'). Laid BY PROGRAM, IN A SANDBOX (cutbox-door.mjs). By AI agents, Wed Nov 11 2026. No macro, syntax, notation, axiom, sorry.
-/
import Derived.Test.YtepidekmnkempaaDoorRows
import GoSem.ClaimSeven
namespace Go.Proofs.YtepidekmnkempaaDoor
namespace Rows

/-- THE TIED CARD OF 'turnpikelaw07.AcceptParses'. -/
def acceptParsesCard : Claim7 := { stood := { row := acceptParsesRow, standIns := [], harness := (true, "e387180ba9b0f7f8caf515ee0dfe742edb1f7f87816d2a32370df009daa15968"), looks := false }, kinds := [], alts := [], laidByText := true, laidKinds := [.data, .data, .pinned], laidTests := true, laidLooks := .later }
def AcceptParsesCardSaid : Prop := Claim7.holds Tryd.pinned (.plain (OpenSpec.ofChange acceptParsesSpec)) acceptParsesCard

/-- THE TIED CARD OF 'turnpikelaw07.AcceptRanges'. -/
def acceptRangesCard : Claim7 := { stood := { row := acceptRangesRow, standIns := [], harness := (true, "e387180ba9b0f7f8caf515ee0dfe742edb1f7f87816d2a32370df009daa15968"), looks := false }, kinds := [], alts := [], laidByText := true, laidKinds := [.data, .data, .pinned], laidTests := true, laidLooks := .later }
def AcceptRangesCardSaid : Prop := Claim7.holds Tryd.pinned (.plain (OpenSpec.ofChange acceptRangesSpec)) acceptRangesCard

/-- THE SECOND FORM's CARD OF 'turnpikelaw07.AcceptParses'. -/
def acceptParsesUptoCard : Claim7 := { stood := { row := acceptParsesUptoRow, standIns := [], harness := (true, "e387180ba9b0f7f8caf515ee0dfe742edb1f7f87816d2a32370df009daa15968"), looks := false }, kinds := [], alts := [], laidByText := true, laidKinds := [.data, .data, .pinned], laidTests := true, laidLooks := .later }
def AcceptParsesUptoCardSaid : Prop := Claim7.holds Tryd.pinned (.plain (OpenSpec.upto acceptParsesSpec)) acceptParsesUptoCard

/-- THE SECOND FORM's CARD OF 'turnpikelaw07.AcceptRanges'. -/
def acceptRangesUptoCard : Claim7 := { stood := { row := acceptRangesUptoRow, standIns := [], harness := (true, "e387180ba9b0f7f8caf515ee0dfe742edb1f7f87816d2a32370df009daa15968"), looks := false }, kinds := [], alts := [], laidByText := true, laidKinds := [.data, .data, .pinned], laidTests := true, laidLooks := .later }
def AcceptRangesUptoCardSaid : Prop := Claim7.holds Tryd.pinned (.plain (OpenSpec.upto acceptRangesSpec)) acceptRangesUptoCard
end Rows
end Go.Proofs.YtepidekmnkempaaDoor
