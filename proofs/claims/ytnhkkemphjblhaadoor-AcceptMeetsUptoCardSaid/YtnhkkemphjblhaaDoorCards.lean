/-
  DERIVED. GIVEN WITH THE SEED: THE CARDS: each row of YtnhkkemphjblhaaDoorRows.lean that lists a variable, with what it lists TIED to the program's text (the seventh form; the later family's looks); each row that meets fmt, with fmt's text TOLD by the authors' own Lean function (tested against real Go, not proved from fmt's source: count such statements apart). THE CARD IS WHAT COUNTS. Prove the row's statement (the work); the ties are given (YtnhkkemphjblhaaDoorTie.lean); close each card by the builder's one call (the guide's Derived/Test/ToyasCard.lean, 'card_holds'). Laid BY PROGRAM, IN A SANDBOX (cutbox-door.mjs). By AI agents, Wed Nov 11 2026. No macro, syntax, notation, axiom, sorry.
-/
import Derived.Test.YtnhkkemphjblhaaDoorRows
import GoSem.ClaimSeven
namespace Go.Proofs.YtnhkkemphjblhaaDoor
namespace Rows

/-- THE TIED CARD OF 'turnpikelaw07.AcceptParses'. -/
def acceptParsesCard : Claim7 := { stood := { row := acceptParsesRow, standIns := [], harness := (true, "0853c60e3c7e85b5b8a162032e25e5d84fbc827683dcd44d5b9247f60b9c9232"), looks := false }, kinds := [], alts := [], laidByText := true, laidKinds := [.data, .data, .pinned], laidTests := true, laidLooks := .later }
def AcceptParsesCardSaid : Prop := Claim7.holds Tryd.pinned (.plain (OpenSpec.ofChange acceptParsesSpec)) acceptParsesCard

/-- THE TIED CARD OF 'turnpikelaw07.AcceptMeets'. -/
def acceptMeetsCard : Claim7 := { stood := { row := acceptMeetsRow, standIns := [], harness := (true, "0853c60e3c7e85b5b8a162032e25e5d84fbc827683dcd44d5b9247f60b9c9232"), looks := false }, kinds := [], alts := [], laidByText := true, laidKinds := [.data, .data, .pinned], laidTests := true, laidLooks := .later }
def AcceptMeetsCardSaid : Prop := Claim7.holds Tryd.pinned (.plain (OpenSpec.ofChange acceptMeetsSpec)) acceptMeetsCard

/-- THE TIED CARD OF 'turnpikelaw07.AcceptCodings'. -/
def acceptCodingsCard : Claim7 := { stood := { row := acceptCodingsRow, standIns := [], harness := (true, "0853c60e3c7e85b5b8a162032e25e5d84fbc827683dcd44d5b9247f60b9c9232"), looks := false }, kinds := [], alts := [], laidByText := true, laidKinds := [.data, .data, .pinned], laidTests := true, laidLooks := .later }
def AcceptCodingsCardSaid : Prop := Claim7.holds Tryd.pinned (.plain (OpenSpec.ofChange acceptCodingsSpec)) acceptCodingsCard

/-- THE TIED CARD OF 'turnpikelaw07.AcceptLanguages'. -/
def acceptLanguagesCard : Claim7 := { stood := { row := acceptLanguagesRow, standIns := [], harness := (true, "0853c60e3c7e85b5b8a162032e25e5d84fbc827683dcd44d5b9247f60b9c9232"), looks := false }, kinds := [], alts := [], laidByText := true, laidKinds := [.data, .data, .pinned], laidTests := true, laidLooks := .later }
def AcceptLanguagesCardSaid : Prop := Claim7.holds Tryd.pinned (.plain (OpenSpec.ofChange acceptLanguagesSpec)) acceptLanguagesCard

/-- THE SECOND FORM's CARD OF 'turnpikelaw07.AcceptParses'. -/
def acceptParsesUptoCard : Claim7 := { stood := { row := acceptParsesUptoRow, standIns := [], harness := (true, "0853c60e3c7e85b5b8a162032e25e5d84fbc827683dcd44d5b9247f60b9c9232"), looks := false }, kinds := [], alts := [], laidByText := true, laidKinds := [.data, .data, .pinned], laidTests := true, laidLooks := .later }
def AcceptParsesUptoCardSaid : Prop := Claim7.holds Tryd.pinned (.plain (OpenSpec.upto acceptParsesSpec)) acceptParsesUptoCard

/-- THE SECOND FORM's CARD OF 'turnpikelaw07.AcceptMeets'. -/
def acceptMeetsUptoCard : Claim7 := { stood := { row := acceptMeetsUptoRow, standIns := [], harness := (true, "0853c60e3c7e85b5b8a162032e25e5d84fbc827683dcd44d5b9247f60b9c9232"), looks := false }, kinds := [], alts := [], laidByText := true, laidKinds := [.data, .data, .pinned], laidTests := true, laidLooks := .later }
def AcceptMeetsUptoCardSaid : Prop := Claim7.holds Tryd.pinned (.plain (OpenSpec.upto acceptMeetsSpec)) acceptMeetsUptoCard

/-- THE SECOND FORM's CARD OF 'turnpikelaw07.AcceptCodings'. -/
def acceptCodingsUptoCard : Claim7 := { stood := { row := acceptCodingsUptoRow, standIns := [], harness := (true, "0853c60e3c7e85b5b8a162032e25e5d84fbc827683dcd44d5b9247f60b9c9232"), looks := false }, kinds := [], alts := [], laidByText := true, laidKinds := [.data, .data, .pinned], laidTests := true, laidLooks := .later }
def AcceptCodingsUptoCardSaid : Prop := Claim7.holds Tryd.pinned (.plain (OpenSpec.upto acceptCodingsSpec)) acceptCodingsUptoCard

/-- THE SECOND FORM's CARD OF 'turnpikelaw07.AcceptLanguages'. -/
def acceptLanguagesUptoCard : Claim7 := { stood := { row := acceptLanguagesUptoRow, standIns := [], harness := (true, "0853c60e3c7e85b5b8a162032e25e5d84fbc827683dcd44d5b9247f60b9c9232"), looks := false }, kinds := [], alts := [], laidByText := true, laidKinds := [.data, .data, .pinned], laidTests := true, laidLooks := .later }
def AcceptLanguagesUptoCardSaid : Prop := Claim7.holds Tryd.pinned (.plain (OpenSpec.upto acceptLanguagesSpec)) acceptLanguagesUptoCard
end Rows
end Go.Proofs.YtnhkkemphjblhaaDoor
