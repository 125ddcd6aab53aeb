/-
  DERIVED. GIVEN WITH THE SEED: THE CARDS: each row of YtejagkpjdfambaaDoorRows.lean that lists a variable, with what it lists TIED to the program's text (the seventh form; the later family's looks); each row that meets fmt, with fmt's text TOLD by the authors' own Lean function (tested against real Go, not proved from fmt's source: count such statements apart). THE CARD IS WHAT COUNTS. Prove the row's statement (the work); the ties are given (YtejagkpjdfambaaDoorTie.lean); close each card by the builder's one call (the guide's Derived/Test/ToyasCard.lean, 'card_holds'). Laid BY PROGRAM, IN A SANDBOX (cutbox-door.mjs). By AI agents, Wed Nov 11 2026. No macro, syntax, notation, axiom, sorry.
-/
import Derived.Test.YtejagkpjdfambaaDoorRows
import GoSem.ClaimSeven
namespace Go.Proofs.YtejagkpjdfambaaDoor
namespace Rows

/-- THE TIED CARD OF 'turnpikelaw07.AcceptLikes'. -/
def acceptLikesCard : Claim7 := { stood := { row := acceptLikesRow, standIns := [], harness := (true, "56a4977a9dbbb5bdf1aa1d393bc595d7d20abe1af8183bc8ae8ae8e2927ab9a9"), looks := false }, kinds := [], alts := [], laidByText := true, laidKinds := [.data, .data, .pinned], laidTests := true, laidLooks := .later }
def AcceptLikesCardSaid : Prop := Claim7.holds Tryd.pinned (.plain (OpenSpec.ofChange acceptLikesSpec)) acceptLikesCard

/-- THE TIED CARD OF 'turnpikelaw07.AcceptChooses'. -/
def acceptChoosesCard : Claim7 := { stood := { row := acceptChoosesRow, standIns := [], harness := (true, "56a4977a9dbbb5bdf1aa1d393bc595d7d20abe1af8183bc8ae8ae8e2927ab9a9"), looks := false }, kinds := [], alts := [], laidByText := true, laidKinds := [.data, .data, .pinned], laidTests := true, laidLooks := .later }
def AcceptChoosesCardSaid : Prop := Claim7.holds Tryd.pinned (.plain (OpenSpec.ofChange acceptChoosesSpec)) acceptChoosesCard

/-- THE TIED CARD OF 'turnpikelaw07.AcceptBest'. -/
def acceptBestCard : Claim7 := { stood := { row := acceptBestRow, standIns := [], harness := (true, "56a4977a9dbbb5bdf1aa1d393bc595d7d20abe1af8183bc8ae8ae8e2927ab9a9"), looks := false }, kinds := [], alts := [], laidByText := true, laidKinds := [.data, .data, .pinned], laidTests := true, laidLooks := .later }
def AcceptBestCardSaid : Prop := Claim7.holds Tryd.pinned (.plain (OpenSpec.ofChange acceptBestSpec)) acceptBestCard

/-- THE SECOND FORM's CARD OF 'turnpikelaw07.AcceptLikes'. -/
def acceptLikesUptoCard : Claim7 := { stood := { row := acceptLikesUptoRow, standIns := [], harness := (true, "56a4977a9dbbb5bdf1aa1d393bc595d7d20abe1af8183bc8ae8ae8e2927ab9a9"), looks := false }, kinds := [], alts := [], laidByText := true, laidKinds := [.data, .data, .pinned], laidTests := true, laidLooks := .later }
def AcceptLikesUptoCardSaid : Prop := Claim7.holds Tryd.pinned (.plain (OpenSpec.upto acceptLikesSpec)) acceptLikesUptoCard

/-- THE SECOND FORM's CARD OF 'turnpikelaw07.AcceptChooses'. -/
def acceptChoosesUptoCard : Claim7 := { stood := { row := acceptChoosesUptoRow, standIns := [], harness := (true, "56a4977a9dbbb5bdf1aa1d393bc595d7d20abe1af8183bc8ae8ae8e2927ab9a9"), looks := false }, kinds := [], alts := [], laidByText := true, laidKinds := [.data, .data, .pinned], laidTests := true, laidLooks := .later }
def AcceptChoosesUptoCardSaid : Prop := Claim7.holds Tryd.pinned (.plain (OpenSpec.upto acceptChoosesSpec)) acceptChoosesUptoCard

/-- THE SECOND FORM's CARD OF 'turnpikelaw07.AcceptBest'. -/
def acceptBestUptoCard : Claim7 := { stood := { row := acceptBestUptoRow, standIns := [], harness := (true, "56a4977a9dbbb5bdf1aa1d393bc595d7d20abe1af8183bc8ae8ae8e2927ab9a9"), looks := false }, kinds := [], alts := [], laidByText := true, laidKinds := [.data, .data, .pinned], laidTests := true, laidLooks := .later }
def AcceptBestUptoCardSaid : Prop := Claim7.holds Tryd.pinned (.plain (OpenSpec.upto acceptBestSpec)) acceptBestUptoCard
end Rows
end Go.Proofs.YtejagkpjdfambaaDoor
