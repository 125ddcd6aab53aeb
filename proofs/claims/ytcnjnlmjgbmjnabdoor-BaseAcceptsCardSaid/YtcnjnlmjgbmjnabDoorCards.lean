/-
  DERIVED. GIVEN WITH THE SEED: THE CARDS: each row of YtcnjnlmjgbmjnabDoorRows.lean that lists a variable, with what it lists TIED to the program's text (the seventh form; the later family's looks); each row that meets fmt, with fmt's text TOLD by the authors' own Lean function (tested against real Go, not proved from fmt's source: count such statements apart). THE CARD IS WHAT COUNTS. Prove the row's statement (the work); the ties are given (YtcnjnlmjgbmjnabDoorTie.lean); close each card by the builder's one call (the guide's Derived/Test/ToyasCard.lean, 'card_holds'). Laid BY PROGRAM, IN A SANDBOX (cutbox-door.mjs). By AI agents, Wed Nov 11 2026. No macro, syntax, notation, axiom, sorry.
-/
import Derived.Test.YtcnjnlmjgbmjnabDoorRows
import GoSem.ClaimSeven
namespace Go.Proofs.YtcnjnlmjgbmjnabDoor
namespace Rows

/-- THE TIED CARD OF 'turnpikelaw03.BaseAccepts'. -/
def baseAcceptsCard : Claim7 := { stood := { row := baseAcceptsRow, standIns := [], harness := (true, "e5635f730fc89ffd573363cf3e520e7502d72dfa6a7cef3e7bc4c37cc8858d6b"), looks := false }, kinds := [], alts := [], laidByText := true, laidKinds := [.data, .pinned], laidTests := true, laidLooks := .later }
def BaseAcceptsCardSaid : Prop := Claim7.holds Tryd.pinned (.plain (OpenSpec.ofChange baseAcceptsSpec)) baseAcceptsCard

/-- THE TIED CARD OF 'turnpikelaw03.BaseKeys'. -/
def baseKeysCard : Claim7 := { stood := { row := baseKeysRow, standIns := [], harness := (true, "e5635f730fc89ffd573363cf3e520e7502d72dfa6a7cef3e7bc4c37cc8858d6b"), looks := false }, kinds := [], alts := [], laidByText := true, laidKinds := [.data, .pinned], laidTests := true, laidLooks := .later }
def BaseKeysCardSaid : Prop := Claim7.holds Tryd.pinned (.plain (OpenSpec.ofChange baseKeysSpec)) baseKeysCard

/-- THE SECOND FORM's CARD OF 'turnpikelaw03.BaseAccepts'. -/
def baseAcceptsUptoCard : Claim7 := { stood := { row := baseAcceptsUptoRow, standIns := [], harness := (true, "e5635f730fc89ffd573363cf3e520e7502d72dfa6a7cef3e7bc4c37cc8858d6b"), looks := false }, kinds := [], alts := [], laidByText := true, laidKinds := [.data, .pinned], laidTests := true, laidLooks := .later }
def BaseAcceptsUptoCardSaid : Prop := Claim7.holds Tryd.pinned (.plain (OpenSpec.upto baseAcceptsSpec)) baseAcceptsUptoCard

/-- THE SECOND FORM's CARD OF 'turnpikelaw03.BaseKeys'. -/
def baseKeysUptoCard : Claim7 := { stood := { row := baseKeysUptoRow, standIns := [], harness := (true, "e5635f730fc89ffd573363cf3e520e7502d72dfa6a7cef3e7bc4c37cc8858d6b"), looks := false }, kinds := [], alts := [], laidByText := true, laidKinds := [.data, .pinned], laidTests := true, laidLooks := .later }
def BaseKeysUptoCardSaid : Prop := Claim7.holds Tryd.pinned (.plain (OpenSpec.upto baseKeysSpec)) baseKeysUptoCard
end Rows
end Go.Proofs.YtcnjnlmjgbmjnabDoor
