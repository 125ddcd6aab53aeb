/-
  NARROWER THAN 'FOR EVERY INPUT', by the rows' own cells (each row's printed sentence says how): AcceptParses: laid · AcceptMeets: laid · AcceptCodings: laid · AcceptLanguages: laid.
  DERIVED. THE GIVEN ROWS OF THIS SEAT. 4 by the template 'for every input the law returns true; each argument reads behind the call as it read before'; 0 by the template 'total and deterministic' (their statements: YtnhkkemphjblhaaDoorTotals.lean).
  GIVEN WITH THE SEED: the statements are not yours to turn. If you find one false, say at which input.
  Laid BY PROGRAM, IN A SANDBOX (cutbox-rows.mjs): the forced cells as the released guide's own fill.sh prints them over the translation 551234726c4e470f… (all of the seat's roots in one cut). By AI agents, Wed Nov 11 2026. No macro, syntax, notation, axiom, sorry.
-/
import Derived.Test.YtnhkkemphjblhaaDoorChecked
import GoSem.PinnedTables
import GoSem.Claim
import GoSem.ClaimJoined
import GoSem.ClaimMapViews
import Derived.JoinedTies
import Derived.KernelRfl
namespace Go.Proofs.YtnhkkemphjblhaaDoor
/- THE CELL 'sum', in the pinned program and in every row, IS THE sha256 OF THE DUMP (.gsa) THAT YtnhkkemphjblhaaDoorProg.lean LOADS. Nothing in Lean hashes anything: it is a label: what it is worth is what the hold of that sum in a sandbox is worth. -/
noncomputable def Tryd.pinned : Pinned := { name := "ytnhkkemphjblhaadoor", sum := "551234726c4e470f7bc86dc3e4f91ea0769aeb37e9949116f36c2ccb56268882", checked := Tryd.checked }
namespace Rows
def none {H : Type} : Left H := { results := [], args := [] }

/- WHAT THE LISTED PACKAGE-LEVEL VARIABLES READ AS WHEN THE CALL BEGINS. Each datum BY PROGRAM (the guide's laid-datum.mjs) off the statement by which the dump's own 'gosem.cut.vars' lays the variable. In a bare row this is a premise. The card (YtnhkkemphjblhaaDoorCards.lean) ties it to the program's text. -/
def laid_unicode_utf8_acceptRanges {H : Type} : DataW H := .agg [.agg [.lit (.int .u8 128), .lit (.int .u8 191)], .agg [.lit (.int .u8 160), .lit (.int .u8 191)], .agg [.lit (.int .u8 128), .lit (.int .u8 159)], .agg [.lit (.int .u8 144), .lit (.int .u8 191)], .agg [.lit (.int .u8 128), .lit (.int .u8 143)], .agg [.lit (.int .u8 0), .lit (.int .u8 0)], .agg [.lit (.int .u8 0), .lit (.int .u8 0)], .agg [.lit (.int .u8 0), .lit (.int .u8 0)], .agg [.lit (.int .u8 0), .lit (.int .u8 0)], .agg [.lit (.int .u8 0), .lit (.int .u8 0)], .agg [.lit (.int .u8 0), .lit (.int .u8 0)], .agg [.lit (.int .u8 0), .lit (.int .u8 0)], .agg [.lit (.int .u8 0), .lit (.int .u8 0)], .agg [.lit (.int .u8 0), .lit (.int .u8 0)], .agg [.lit (.int .u8 0), .lit (.int .u8 0)], .agg [.lit (.int .u8 0), .lit (.int .u8 0)]]
def laid_turnpike_octet_tokenSigns {H : Type} : DataW H := .agg [.lit (.int .u64 288068722172624896), .lit (.int .u64 6341068274398134270), .lit (.int .u64 0), .lit (.int .u64 0)]
/-- One of Go's own tables, pinned by name: the form's constant. -/
def laid_unicode_utf8_first : DataW Unit := Go.Pinned.utf8First

/-- 'turnpikelaw07.AcceptParses': WHATEVER THE INPUT: true; the input reads as it did. -/
def acceptParsesSpec : ChangeSpec := { name := "acceptParses", fn := fun _ => fun
  | [d] => { results := [.lit (.bool true)], args := [d] }
  | _ => none }
def acceptParsesRow : OpenClaim := { program := "ytnhkkemphjblhaadoor", sum := "551234726c4e470f7bc86dc3e4f91ea0769aeb37e9949116f36c2ccb56268882", func := "turnpike/turnpikelaw07.AcceptParses", spec := "acceptParses", inPlace := ["internal/bytealg.IndexByteString", "internal/bytealg.IndexString", "internal/abi.NoEscape"], unfollowed := true, recurses := true, named := ["unicode/utf8.first", "unicode/utf8.acceptRanges", "turnpike/octet.tokenSigns", "internal/bytealg.MaxLen"], apart := false, laid := [("unicode/utf8.acceptRanges", laid_unicode_utf8_acceptRanges), ("turnpike/octet.tokenSigns", laid_turnpike_octet_tokenSigns), ("unicode/utf8.first", laid_unicode_utf8_first)] }
def AcceptParsesSaid : Prop := acceptParsesRow.holds Tryd.pinned (OpenSpec.ofChange acceptParsesSpec)

/-- ITS FALSE NEIGHBOUR: 'it returns false'. Refute it at one input. -/
def acceptParsesWrong : ChangeSpec := { name := "acceptParses", fn := fun _ => fun
  | [d] => { results := [.lit (.bool false)], args := [d] }
  | _ => none }
def AcceptParsesWrongFalsely : Prop := acceptParsesRow.holds Tryd.pinned (OpenSpec.ofChange acceptParsesWrong)

/-- 'turnpikelaw07.AcceptMeets': WHATEVER THE INPUT: true; the input reads as it did. -/
def acceptMeetsSpec : ChangeSpec := { name := "acceptMeets", fn := fun _ => fun
  | [d1, d2] => { results := [.lit (.bool true)], args := [d1, d2] }
  | _ => none }
def acceptMeetsRow : OpenClaim := { program := "ytnhkkemphjblhaadoor", sum := "551234726c4e470f7bc86dc3e4f91ea0769aeb37e9949116f36c2ccb56268882", func := "turnpike/turnpikelaw07.AcceptMeets", spec := "acceptMeets", inPlace := ["internal/bytealg.IndexByteString", "internal/bytealg.IndexString", "internal/abi.NoEscape"], unfollowed := true, recurses := true, named := ["internal/bytealg.MaxLen", "unicode/utf8.first", "unicode/utf8.acceptRanges", "turnpike/octet.tokenSigns"], apart := false, laid := [("unicode/utf8.acceptRanges", laid_unicode_utf8_acceptRanges), ("turnpike/octet.tokenSigns", laid_turnpike_octet_tokenSigns), ("unicode/utf8.first", laid_unicode_utf8_first)] }
def AcceptMeetsSaid : Prop := acceptMeetsRow.holds Tryd.pinned (OpenSpec.ofChange acceptMeetsSpec)

/-- ITS FALSE NEIGHBOUR: 'it returns false'. Refute it at one input. -/
def acceptMeetsWrong : ChangeSpec := { name := "acceptMeets", fn := fun _ => fun
  | [d1, d2] => { results := [.lit (.bool false)], args := [d1, d2] }
  | _ => none }
def AcceptMeetsWrongFalsely : Prop := acceptMeetsRow.holds Tryd.pinned (OpenSpec.ofChange acceptMeetsWrong)

/-- 'turnpikelaw07.AcceptCodings': WHATEVER THE INPUT: true; the input reads as it did. -/
def acceptCodingsSpec : ChangeSpec := { name := "acceptCodings", fn := fun _ => fun
  | [d1, d2, d3] => { results := [.lit (.bool true)], args := [d1, d2, d3] }
  | _ => none }
def acceptCodingsRow : OpenClaim := { program := "ytnhkkemphjblhaadoor", sum := "551234726c4e470f7bc86dc3e4f91ea0769aeb37e9949116f36c2ccb56268882", func := "turnpike/turnpikelaw07.AcceptCodings", spec := "acceptCodings", inPlace := ["internal/bytealg.IndexByteString", "internal/bytealg.IndexString", "internal/abi.NoEscape"], unfollowed := true, recurses := true, named := ["internal/bytealg.MaxLen", "unicode/utf8.first", "unicode/utf8.acceptRanges", "turnpike/octet.tokenSigns"], apart := false, laid := [("unicode/utf8.acceptRanges", laid_unicode_utf8_acceptRanges), ("turnpike/octet.tokenSigns", laid_turnpike_octet_tokenSigns), ("unicode/utf8.first", laid_unicode_utf8_first)] }
def AcceptCodingsSaid : Prop := acceptCodingsRow.holds Tryd.pinned (OpenSpec.ofChange acceptCodingsSpec)

/-- ITS FALSE NEIGHBOUR: 'it returns false'. Refute it at one input. -/
def acceptCodingsWrong : ChangeSpec := { name := "acceptCodings", fn := fun _ => fun
  | [d1, d2, d3] => { results := [.lit (.bool false)], args := [d1, d2, d3] }
  | _ => none }
def AcceptCodingsWrongFalsely : Prop := acceptCodingsRow.holds Tryd.pinned (OpenSpec.ofChange acceptCodingsWrong)

/-- 'turnpikelaw07.AcceptLanguages': WHATEVER THE INPUT: true; the input reads as it did. -/
def acceptLanguagesSpec : ChangeSpec := { name := "acceptLanguages", fn := fun _ => fun
  | [d1, d2] => { results := [.lit (.bool true)], args := [d1, d2] }
  | _ => none }
def acceptLanguagesRow : OpenClaim := { program := "ytnhkkemphjblhaadoor", sum := "551234726c4e470f7bc86dc3e4f91ea0769aeb37e9949116f36c2ccb56268882", func := "turnpike/turnpikelaw07.AcceptLanguages", spec := "acceptLanguages", inPlace := ["internal/bytealg.IndexByteString", "internal/bytealg.IndexString", "internal/abi.NoEscape", "internal/bytealg.CountString"], unfollowed := true, recurses := true, named := ["internal/bytealg.MaxLen", "unicode/utf8.first", "unicode/utf8.acceptRanges", "turnpike/octet.tokenSigns"], apart := false, laid := [("unicode/utf8.acceptRanges", laid_unicode_utf8_acceptRanges), ("turnpike/octet.tokenSigns", laid_turnpike_octet_tokenSigns), ("unicode/utf8.first", laid_unicode_utf8_first)] }
def AcceptLanguagesSaid : Prop := acceptLanguagesRow.holds Tryd.pinned (OpenSpec.ofChange acceptLanguagesSpec)

/-- ITS FALSE NEIGHBOUR: 'it returns false'. Refute it at one input. -/
def acceptLanguagesWrong : ChangeSpec := { name := "acceptLanguages", fn := fun _ => fun
  | [d1, d2] => { results := [.lit (.bool false)], args := [d1, d2] }
  | _ => none }
def AcceptLanguagesWrongFalsely : Prop := acceptLanguagesRow.holds Tryd.pinned (OpenSpec.ofChange acceptLanguagesWrong)

/- THE SECOND FORM. 'bulk': how many values and letters a reading holds, each counted each time it is reached (what is shared counts as often as it is met; a slice's spare places count too). A statement '..UptoSaid' is the law's where the arguments, and the package variables that the reading takes, are together of bulk at most 1048576: NARROWER than '..Said'. Prove '..Said' where nothing that the law and all that it calls make is longer than what came in: it says more and counts as full. Else prove '..UptoSaid'. A law counts once. -/
mutual
def uptoBulk {H : Type} : DataW H → Nat
  | .lit (.string bytes) => bytes.length + 1
  | .lit _ => 1
  | .nil => 1
  | .ptr d => uptoBulk d + 1
  | .slice elems spare => uptoBulkAll elems + uptoBulkAll spare + 1
  | .agg parts => uptoBulkAll parts + 1
  | .iface _ d => uptoBulk d + 1
  | .map entries => uptoBulkEntries entries + 1
  | .held _ => 1
def uptoBulkAll {H : Type} : List (DataW H) → Nat
  | [] => 0
  | d :: r => uptoBulk d + uptoBulkAll r
def uptoBulkEntries {H : Type} : List (Lit × DataW H) → Nat
  | [] => 0
  | x :: r => uptoBulkEntry x + uptoBulkEntries r
def uptoBulkEntry {H : Type} : Lit × DataW H → Nat
  | (.string bytes, d) => bytes.length + uptoBulk d + 1
  | (_, d) => uptoBulk d + 1
 end
def uptoSmall : (H : Type) → List (DataW H) → Bool := fun _ ds => decide (uptoBulkAll ds ≤ 1048576)
def OpenSpec.upto (s : _root_.Go.ChangeSpec) : _root_.Go.OpenSpec := { _root_.Go.OpenSpec.ofChange s with cond := some uptoSmall }

/-- 'turnpikelaw07.AcceptParses', WHERE WHAT IT READS IS OF BULK AT MOST 1048576: true; the input reads as it did. -/
def acceptParsesUptoRow : OpenClaim := { program := "ytnhkkemphjblhaadoor", sum := "551234726c4e470f7bc86dc3e4f91ea0769aeb37e9949116f36c2ccb56268882", func := "turnpike/turnpikelaw07.AcceptParses", spec := "acceptParses", inPlace := ["internal/bytealg.IndexByteString", "internal/bytealg.IndexString", "internal/abi.NoEscape"], unfollowed := true, recurses := true, named := ["unicode/utf8.first", "unicode/utf8.acceptRanges", "turnpike/octet.tokenSigns", "internal/bytealg.MaxLen"], apart := false, laid := [("unicode/utf8.acceptRanges", laid_unicode_utf8_acceptRanges), ("turnpike/octet.tokenSigns", laid_turnpike_octet_tokenSigns), ("unicode/utf8.first", laid_unicode_utf8_first)], narrowed := true }
def AcceptParsesUptoSaid : Prop := acceptParsesUptoRow.holds Tryd.pinned (OpenSpec.upto acceptParsesSpec)

/-- 'turnpikelaw07.AcceptMeets', WHERE WHAT IT READS IS OF BULK AT MOST 1048576: true; the input reads as it did. -/
def acceptMeetsUptoRow : OpenClaim := { program := "ytnhkkemphjblhaadoor", sum := "551234726c4e470f7bc86dc3e4f91ea0769aeb37e9949116f36c2ccb56268882", func := "turnpike/turnpikelaw07.AcceptMeets", spec := "acceptMeets", inPlace := ["internal/bytealg.IndexByteString", "internal/bytealg.IndexString", "internal/abi.NoEscape"], unfollowed := true, recurses := true, named := ["internal/bytealg.MaxLen", "unicode/utf8.first", "unicode/utf8.acceptRanges", "turnpike/octet.tokenSigns"], apart := false, laid := [("unicode/utf8.acceptRanges", laid_unicode_utf8_acceptRanges), ("turnpike/octet.tokenSigns", laid_turnpike_octet_tokenSigns), ("unicode/utf8.first", laid_unicode_utf8_first)], narrowed := true }
def AcceptMeetsUptoSaid : Prop := acceptMeetsUptoRow.holds Tryd.pinned (OpenSpec.upto acceptMeetsSpec)

/-- 'turnpikelaw07.AcceptCodings', WHERE WHAT IT READS IS OF BULK AT MOST 1048576: true; the input reads as it did. -/
def acceptCodingsUptoRow : OpenClaim := { program := "ytnhkkemphjblhaadoor", sum := "551234726c4e470f7bc86dc3e4f91ea0769aeb37e9949116f36c2ccb56268882", func := "turnpike/turnpikelaw07.AcceptCodings", spec := "acceptCodings", inPlace := ["internal/bytealg.IndexByteString", "internal/bytealg.IndexString", "internal/abi.NoEscape"], unfollowed := true, recurses := true, named := ["internal/bytealg.MaxLen", "unicode/utf8.first", "unicode/utf8.acceptRanges", "turnpike/octet.tokenSigns"], apart := false, laid := [("unicode/utf8.acceptRanges", laid_unicode_utf8_acceptRanges), ("turnpike/octet.tokenSigns", laid_turnpike_octet_tokenSigns), ("unicode/utf8.first", laid_unicode_utf8_first)], narrowed := true }
def AcceptCodingsUptoSaid : Prop := acceptCodingsUptoRow.holds Tryd.pinned (OpenSpec.upto acceptCodingsSpec)

/-- 'turnpikelaw07.AcceptLanguages', WHERE WHAT IT READS IS OF BULK AT MOST 1048576: true; the input reads as it did. -/
def acceptLanguagesUptoRow : OpenClaim := { program := "ytnhkkemphjblhaadoor", sum := "551234726c4e470f7bc86dc3e4f91ea0769aeb37e9949116f36c2ccb56268882", func := "turnpike/turnpikelaw07.AcceptLanguages", spec := "acceptLanguages", inPlace := ["internal/bytealg.IndexByteString", "internal/bytealg.IndexString", "internal/abi.NoEscape", "internal/bytealg.CountString"], unfollowed := true, recurses := true, named := ["internal/bytealg.MaxLen", "unicode/utf8.first", "unicode/utf8.acceptRanges", "turnpike/octet.tokenSigns"], apart := false, laid := [("unicode/utf8.acceptRanges", laid_unicode_utf8_acceptRanges), ("turnpike/octet.tokenSigns", laid_turnpike_octet_tokenSigns), ("unicode/utf8.first", laid_unicode_utf8_first)], narrowed := true }
def AcceptLanguagesUptoSaid : Prop := acceptLanguagesUptoRow.holds Tryd.pinned (OpenSpec.upto acceptLanguagesSpec)

end Rows
end Go.Proofs.YtnhkkemphjblhaaDoor
