/-
  DERIVED. GIVEN WITH THE SEED: THE CARDS: each row of YthdepdgmlngafabDoorRows.lean that lists a variable, with what it lists TIED to the program's text (the seventh form; the later family's looks); each row that meets fmt, with fmt's text TOLD by the authors' own Lean function (tested against real Go, not proved from fmt's source: count such statements apart). THE CARD IS WHAT COUNTS. Prove the row's statement (the work); the ties are given (YthdepdgmlngafabDoorTie.lean); close each card by the builder's one call (the guide's Derived/Test/ToyasCard.lean, 'card_holds'). Laid BY PROGRAM, IN A SANDBOX (cutbox-door.mjs). By AI agents, Wed Nov 11 2026. No macro, syntax, notation, axiom, sorry.
-/
import Derived.Test.YthdepdgmlngafabDoorRows
import GoSem.ClaimSeven
namespace Go.Proofs.YthdepdgmlngafabDoor
namespace Rows

/-- THE TIED CARD OF 'turnpikelaw01.OctetLists'. -/
def octetListsCard : Claim7 := { stood := { row := octetListsRow, standIns := [], harness := (true, "8f916af9dac64ef63f606749fe8039c4d032982f61d46906242c19849d63b640"), looks := false }, kinds := [], alts := [], laidByText := true, laidKinds := [.data, .data, .pinned], laidTests := true, laidLooks := .later }
def OctetListsCardSaid : Prop := Claim7.holds Tryd.pinned (.plain (OpenSpec.ofChange octetListsSpec)) octetListsCard

/-- THE TIED CARD OF 'turnpikelaw01.OctetJoins'. -/
def octetJoinsCard : Claim7 := { stood := { row := octetJoinsRow, standIns := [], harness := (true, "8f916af9dac64ef63f606749fe8039c4d032982f61d46906242c19849d63b640"), looks := false }, kinds := [], alts := [], laidByText := true, laidKinds := [.data, .data, .pinned], laidTests := true, laidLooks := .later }
def OctetJoinsCardSaid : Prop := Claim7.holds Tryd.pinned (.plain (OpenSpec.ofChange octetJoinsSpec)) octetJoinsCard

/-- THE TIED CARD OF 'turnpikelaw01.OctetSplit'. -/
def octetSplitCard : Claim7 := { stood := { row := octetSplitRow, standIns := [], harness := (true, "8f916af9dac64ef63f606749fe8039c4d032982f61d46906242c19849d63b640"), looks := false }, kinds := [], alts := [], laidByText := true, laidKinds := [.data, .data, .pinned], laidTests := true, laidLooks := .later }
def OctetSplitCardSaid : Prop := Claim7.holds Tryd.pinned (.plain (OpenSpec.ofChange octetSplitSpec)) octetSplitCard

/-- THE TIED CARD OF 'turnpikelaw01.OctetParams'. -/
def octetParamsCard : Claim7 := { stood := { row := octetParamsRow, standIns := [], harness := (true, "8f916af9dac64ef63f606749fe8039c4d032982f61d46906242c19849d63b640"), looks := false }, kinds := [], alts := [], laidByText := true, laidKinds := [.data, .data, .pinned], laidTests := true, laidLooks := .later }
def OctetParamsCardSaid : Prop := Claim7.holds Tryd.pinned (.plain (OpenSpec.ofChange octetParamsSpec)) octetParamsCard

/-- THE TIED CARD OF 'turnpikelaw01.OctetPrints'. -/
def octetPrintsCard : Claim7 := { stood := { row := octetPrintsRow, standIns := [], harness := (true, "8f916af9dac64ef63f606749fe8039c4d032982f61d46906242c19849d63b640"), looks := false }, kinds := [], alts := [], laidByText := true, laidKinds := [.data, .data, .pinned], laidTests := true, laidLooks := .later }
def OctetPrintsCardSaid : Prop := Claim7.holds Tryd.pinned (.plain (OpenSpec.ofChange octetPrintsSpec)) octetPrintsCard

/-- THE TIED CARD OF 'turnpikelaw01.OctetMemory'. -/
def octetMemoryCard : Claim7 := { stood := { row := octetMemoryRow, standIns := [], harness := (true, "8f916af9dac64ef63f606749fe8039c4d032982f61d46906242c19849d63b640"), looks := false }, kinds := [], alts := [], laidByText := true, laidKinds := [.data, .data, .data, .data, .data, .pinned], laidTests := true, laidLooks := .later }
def OctetMemoryCardSaid : Prop := Claim7.holds Tryd.pinned (.plain (OpenSpec.ofChange octetMemorySpec)) octetMemoryCard

/-- THE SECOND FORM's CARD OF 'turnpikelaw01.OctetLists'. -/
def octetListsUptoCard : Claim7 := { stood := { row := octetListsUptoRow, standIns := [], harness := (true, "8f916af9dac64ef63f606749fe8039c4d032982f61d46906242c19849d63b640"), looks := false }, kinds := [], alts := [], laidByText := true, laidKinds := [.data, .data, .pinned], laidTests := true, laidLooks := .later }
def OctetListsUptoCardSaid : Prop := Claim7.holds Tryd.pinned (.plain (OpenSpec.upto octetListsSpec)) octetListsUptoCard

/-- THE SECOND FORM's CARD OF 'turnpikelaw01.OctetJoins'. -/
def octetJoinsUptoCard : Claim7 := { stood := { row := octetJoinsUptoRow, standIns := [], harness := (true, "8f916af9dac64ef63f606749fe8039c4d032982f61d46906242c19849d63b640"), looks := false }, kinds := [], alts := [], laidByText := true, laidKinds := [.data, .data, .pinned], laidTests := true, laidLooks := .later }
def OctetJoinsUptoCardSaid : Prop := Claim7.holds Tryd.pinned (.plain (OpenSpec.upto octetJoinsSpec)) octetJoinsUptoCard

/-- THE SECOND FORM's CARD OF 'turnpikelaw01.OctetSplit'. -/
def octetSplitUptoCard : Claim7 := { stood := { row := octetSplitUptoRow, standIns := [], harness := (true, "8f916af9dac64ef63f606749fe8039c4d032982f61d46906242c19849d63b640"), looks := false }, kinds := [], alts := [], laidByText := true, laidKinds := [.data, .data, .pinned], laidTests := true, laidLooks := .later }
def OctetSplitUptoCardSaid : Prop := Claim7.holds Tryd.pinned (.plain (OpenSpec.upto octetSplitSpec)) octetSplitUptoCard

/-- THE SECOND FORM's CARD OF 'turnpikelaw01.OctetParams'. -/
def octetParamsUptoCard : Claim7 := { stood := { row := octetParamsUptoRow, standIns := [], harness := (true, "8f916af9dac64ef63f606749fe8039c4d032982f61d46906242c19849d63b640"), looks := false }, kinds := [], alts := [], laidByText := true, laidKinds := [.data, .data, .pinned], laidTests := true, laidLooks := .later }
def OctetParamsUptoCardSaid : Prop := Claim7.holds Tryd.pinned (.plain (OpenSpec.upto octetParamsSpec)) octetParamsUptoCard

/-- THE SECOND FORM's CARD OF 'turnpikelaw01.OctetPrints'. -/
def octetPrintsUptoCard : Claim7 := { stood := { row := octetPrintsUptoRow, standIns := [], harness := (true, "8f916af9dac64ef63f606749fe8039c4d032982f61d46906242c19849d63b640"), looks := false }, kinds := [], alts := [], laidByText := true, laidKinds := [.data, .data, .pinned], laidTests := true, laidLooks := .later }
def OctetPrintsUptoCardSaid : Prop := Claim7.holds Tryd.pinned (.plain (OpenSpec.upto octetPrintsSpec)) octetPrintsUptoCard

/-- THE SECOND FORM's CARD OF 'turnpikelaw01.OctetMemory'. -/
def octetMemoryUptoCard : Claim7 := { stood := { row := octetMemoryUptoRow, standIns := [], harness := (true, "8f916af9dac64ef63f606749fe8039c4d032982f61d46906242c19849d63b640"), looks := false }, kinds := [], alts := [], laidByText := true, laidKinds := [.data, .data, .data, .data, .data, .pinned], laidTests := true, laidLooks := .later }
def OctetMemoryUptoCardSaid : Prop := Claim7.holds Tryd.pinned (.plain (OpenSpec.upto octetMemorySpec)) octetMemoryUptoCard
end Rows
end Go.Proofs.YthdepdgmlngafabDoor
