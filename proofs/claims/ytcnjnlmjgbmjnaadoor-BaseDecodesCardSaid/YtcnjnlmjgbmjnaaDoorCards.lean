/-
  DERIVED. GIVEN WITH THE SEED: THE CARDS: each row of YtcnjnlmjgbmjnaaDoorRows.lean that lists a variable, with what it lists TIED to the program's text (the seventh form; the later family's looks); each row that meets fmt, with fmt's text TOLD by the authors' own Lean function (tested against real Go, not proved from fmt's source: count such statements apart). THE CARD IS WHAT COUNTS. Prove the row's statement (the work); the ties are given (YtcnjnlmjgbmjnaaDoorTie.lean); close each card by the builder's one call (the guide's Derived/Test/ToyasCard.lean, 'card_holds'). Laid BY PROGRAM, IN A SANDBOX (cutbox-door.mjs). By AI agents, Wed Nov 11 2026. No macro, syntax, notation, axiom, sorry.
-/
import Derived.Test.YtcnjnlmjgbmjnaaDoorRows
import GoSem.ClaimSeven
namespace Go.Proofs.YtcnjnlmjgbmjnaaDoor
namespace Rows

/-- THE TIED CARD OF 'turnpikelaw03.BaseDecodes'. -/
def baseDecodesCard : Claim7 := { stood := { row := baseDecodesRow, standIns := [], harness := (true, "a0e7a008e178340ba2434cceb681c97765906f79f2032cea6ebcb0bf13c09a6b"), looks := false }, kinds := [], alts := [], laidByText := true, laidKinds := [.data, .pinned], laidTests := true, laidLooks := .later }
def BaseDecodesCardSaid : Prop := Claim7.holds Tryd.pinned (.plain (OpenSpec.ofChange baseDecodesSpec)) baseDecodesCard

/-- THE TIED CARD OF 'turnpikelaw03.BaseBack'. -/
def baseBackCard : Claim7 := { stood := { row := baseBackRow, standIns := [], harness := (true, "a0e7a008e178340ba2434cceb681c97765906f79f2032cea6ebcb0bf13c09a6b"), looks := false }, kinds := [], alts := [], laidByText := true, laidKinds := [.data, .pinned], laidTests := true, laidLooks := .later }
def BaseBackCardSaid : Prop := Claim7.holds Tryd.pinned (.plain (OpenSpec.ofChange baseBackSpec)) baseBackCard

/-- THE TIED CARD OF 'turnpikelaw03.BaseOnce'. -/
def baseOnceCard : Claim7 := { stood := { row := baseOnceRow, standIns := [], harness := (true, "a0e7a008e178340ba2434cceb681c97765906f79f2032cea6ebcb0bf13c09a6b"), looks := false }, kinds := [], alts := [], laidByText := true, laidKinds := [.data, .pinned], laidTests := true, laidLooks := .later }
def BaseOnceCardSaid : Prop := Claim7.holds Tryd.pinned (.plain (OpenSpec.ofChange baseOnceSpec)) baseOnceCard

/-- THE TIED CARD OF 'turnpikelaw03.BaseBegins'. -/
def baseBeginsCard : Claim7 := { stood := { row := baseBeginsRow, standIns := [], harness := (true, "a0e7a008e178340ba2434cceb681c97765906f79f2032cea6ebcb0bf13c09a6b"), looks := false }, kinds := [], alts := [], laidByText := true, laidKinds := [.data, .pinned], laidTests := true, laidLooks := .later }
def BaseBeginsCardSaid : Prop := Claim7.holds Tryd.pinned (.plain (OpenSpec.ofChange baseBeginsSpec)) baseBeginsCard

/-- THE SECOND FORM's CARD OF 'turnpikelaw03.BaseDecodes'. -/
def baseDecodesUptoCard : Claim7 := { stood := { row := baseDecodesUptoRow, standIns := [], harness := (true, "a0e7a008e178340ba2434cceb681c97765906f79f2032cea6ebcb0bf13c09a6b"), looks := false }, kinds := [], alts := [], laidByText := true, laidKinds := [.data, .pinned], laidTests := true, laidLooks := .later }
def BaseDecodesUptoCardSaid : Prop := Claim7.holds Tryd.pinned (.plain (OpenSpec.upto baseDecodesSpec)) baseDecodesUptoCard

/-- THE SECOND FORM's CARD OF 'turnpikelaw03.BaseBack'. -/
def baseBackUptoCard : Claim7 := { stood := { row := baseBackUptoRow, standIns := [], harness := (true, "a0e7a008e178340ba2434cceb681c97765906f79f2032cea6ebcb0bf13c09a6b"), looks := false }, kinds := [], alts := [], laidByText := true, laidKinds := [.data, .pinned], laidTests := true, laidLooks := .later }
def BaseBackUptoCardSaid : Prop := Claim7.holds Tryd.pinned (.plain (OpenSpec.upto baseBackSpec)) baseBackUptoCard

/-- THE SECOND FORM's CARD OF 'turnpikelaw03.BaseOnce'. -/
def baseOnceUptoCard : Claim7 := { stood := { row := baseOnceUptoRow, standIns := [], harness := (true, "a0e7a008e178340ba2434cceb681c97765906f79f2032cea6ebcb0bf13c09a6b"), looks := false }, kinds := [], alts := [], laidByText := true, laidKinds := [.data, .pinned], laidTests := true, laidLooks := .later }
def BaseOnceUptoCardSaid : Prop := Claim7.holds Tryd.pinned (.plain (OpenSpec.upto baseOnceSpec)) baseOnceUptoCard

/-- THE SECOND FORM's CARD OF 'turnpikelaw03.BaseBegins'. -/
def baseBeginsUptoCard : Claim7 := { stood := { row := baseBeginsUptoRow, standIns := [], harness := (true, "a0e7a008e178340ba2434cceb681c97765906f79f2032cea6ebcb0bf13c09a6b"), looks := false }, kinds := [], alts := [], laidByText := true, laidKinds := [.data, .pinned], laidTests := true, laidLooks := .later }
def BaseBeginsUptoCardSaid : Prop := Claim7.holds Tryd.pinned (.plain (OpenSpec.upto baseBeginsSpec)) baseBeginsUptoCard
end Rows
end Go.Proofs.YtcnjnlmjgbmjnaaDoor
