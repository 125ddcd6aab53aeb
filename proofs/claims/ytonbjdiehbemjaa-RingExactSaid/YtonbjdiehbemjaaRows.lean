/-
  No cell of these rows narrows 'for every input' (looked for: loops, veiled, ifaces, maps, wideKeys, modest, calm, conditions, laid).
  DERIVED. THE GIVEN ROWS OF THIS SEAT. 6 by the template 'for every input the law returns true; each argument reads behind the call as it read before'; 0 by the template 'total and deterministic' (their statements: YtonbjdiehbemjaaTotals.lean).
  GIVEN WITH THE SEED: the statements are not yours to turn. If you find one false, say at which input.
  Laid BY PROGRAM, IN A SANDBOX (cutbox-rows.mjs): the forced cells as the released guide's own fill.sh prints them over the translation d79c876f62f59c30… (all of the seat's roots in one cut). By AI agents, Wed Nov 11 2026. No macro, syntax, notation, axiom, sorry.
-/
import Derived.Test.YtonbjdiehbemjaaChecked
import GoSem.Claim
import GoSem.ClaimJoined
import GoSem.ClaimMapViews
import Derived.JoinedTies
import Derived.KernelRfl
namespace Go.Proofs.Ytonbjdiehbemjaa
/- THE CELL 'sum', in the pinned program and in every row, IS THE sha256 OF THE DUMP (.gsa) THAT YtonbjdiehbemjaaProg.lean LOADS. Nothing in Lean hashes anything: it is a label: what it is worth is what the hold of that sum in a sandbox is worth. -/
noncomputable def Try.pinned : Pinned := { name := "ytonbjdiehbemjaa", sum := "d79c876f62f59c30401a52515868fe685cfa394cd15645d3bbe46cc60ed8e8d6", checked := Try.checked }
namespace Rows
def none {H : Type} : Left H := { results := [], args := [] }

/-- 'turnpikelaw02.RingExact': WHATEVER THE INPUT: true; the input reads as it did. -/
def ringExactSpec : ChangeSpec := { name := "ringExact", fn := fun _ => fun
  | [d1, d2] => { results := [.lit (.bool true)], args := [d1, d2] }
  | _ => none }
def ringExactRow : OpenClaim := { program := "ytonbjdiehbemjaa", sum := "d79c876f62f59c30401a52515868fe685cfa394cd15645d3bbe46cc60ed8e8d6", func := "turnpike/turnpikelaw02.RingExact", spec := "ringExact", inPlace := ["internal/bytealg.IndexByte", "internal/bytealg.Index"], named := ["internal/bytealg.MaxLen"], apart := false }
def RingExactSaid : Prop := ringExactRow.holds Try.pinned (OpenSpec.ofChange ringExactSpec)

/-- ITS FALSE NEIGHBOUR: 'it returns false'. Refute it at one input. -/
def ringExactWrong : ChangeSpec := { name := "ringExact", fn := fun _ => fun
  | [d1, d2] => { results := [.lit (.bool false)], args := [d1, d2] }
  | _ => none }
def RingExactWrongFalsely : Prop := ringExactRow.holds Try.pinned (OpenSpec.ofChange ringExactWrong)

/-- 'turnpikelaw02.RingTwo': WHATEVER THE INPUT: true; the input reads as it did. -/
def ringTwoSpec : ChangeSpec := { name := "ringTwo", fn := fun _ => fun
  | [d1, d2, d3] => { results := [.lit (.bool true)], args := [d1, d2, d3] }
  | _ => none }
def ringTwoRow : OpenClaim := { program := "ytonbjdiehbemjaa", sum := "d79c876f62f59c30401a52515868fe685cfa394cd15645d3bbe46cc60ed8e8d6", func := "turnpike/turnpikelaw02.RingTwo", spec := "ringTwo", inPlace := ["internal/bytealg.IndexByte", "internal/bytealg.Index"], named := ["internal/bytealg.MaxLen"], apart := false }
def RingTwoSaid : Prop := ringTwoRow.holds Try.pinned (OpenSpec.ofChange ringTwoSpec)

/-- ITS FALSE NEIGHBOUR: 'it returns false'. Refute it at one input. -/
def ringTwoWrong : ChangeSpec := { name := "ringTwo", fn := fun _ => fun
  | [d1, d2, d3] => { results := [.lit (.bool false)], args := [d1, d2, d3] }
  | _ => none }
def RingTwoWrongFalsely : Prop := ringTwoRow.holds Try.pinned (OpenSpec.ofChange ringTwoWrong)

/-- 'turnpikelaw02.RingMemory': WHATEVER THE INPUT: true; the input reads as it did. -/
def ringMemorySpec : ChangeSpec := { name := "ringMemory", fn := fun _ => fun
  | [d1, d2] => { results := [.lit (.bool true)], args := [d1, d2] }
  | _ => none }
def ringMemoryRow : OpenClaim := { program := "ytonbjdiehbemjaa", sum := "d79c876f62f59c30401a52515868fe685cfa394cd15645d3bbe46cc60ed8e8d6", func := "turnpike/turnpikelaw02.RingMemory", spec := "ringMemory", apart := false }
def RingMemorySaid : Prop := ringMemoryRow.holds Try.pinned (OpenSpec.ofChange ringMemorySpec)

/-- ITS FALSE NEIGHBOUR: 'it returns false'. Refute it at one input. -/
def ringMemoryWrong : ChangeSpec := { name := "ringMemory", fn := fun _ => fun
  | [d1, d2] => { results := [.lit (.bool false)], args := [d1, d2] }
  | _ => none }
def RingMemoryWrongFalsely : Prop := ringMemoryRow.holds Try.pinned (OpenSpec.ofChange ringMemoryWrong)

/-- 'turnpikelaw02.RingArgument': WHATEVER THE INPUT: true; the input reads as it did. -/
def ringArgumentSpec : ChangeSpec := { name := "ringArgument", fn := fun _ => fun
  | [d1, d2] => { results := [.lit (.bool true)], args := [d1, d2] }
  | _ => none }
def ringArgumentRow : OpenClaim := { program := "ytonbjdiehbemjaa", sum := "d79c876f62f59c30401a52515868fe685cfa394cd15645d3bbe46cc60ed8e8d6", func := "turnpike/turnpikelaw02.RingArgument", spec := "ringArgument", apart := false }
def RingArgumentSaid : Prop := ringArgumentRow.holds Try.pinned (OpenSpec.ofChange ringArgumentSpec)

/-- ITS FALSE NEIGHBOUR: 'it returns false'. Refute it at one input. -/
def ringArgumentWrong : ChangeSpec := { name := "ringArgument", fn := fun _ => fun
  | [d1, d2] => { results := [.lit (.bool false)], args := [d1, d2] }
  | _ => none }
def RingArgumentWrongFalsely : Prop := ringArgumentRow.holds Try.pinned (OpenSpec.ofChange ringArgumentWrong)

/-- 'turnpikelaw02.RingPieces': WHATEVER THE INPUT: true; the input reads as it did. -/
def ringPiecesSpec : ChangeSpec := { name := "ringPieces", fn := fun _ => fun
  | [d1, d2] => { results := [.lit (.bool true)], args := [d1, d2] }
  | _ => none }
def ringPiecesRow : OpenClaim := { program := "ytonbjdiehbemjaa", sum := "d79c876f62f59c30401a52515868fe685cfa394cd15645d3bbe46cc60ed8e8d6", func := "turnpike/turnpikelaw02.RingPieces", spec := "ringPieces", apart := false }
def RingPiecesSaid : Prop := ringPiecesRow.holds Try.pinned (OpenSpec.ofChange ringPiecesSpec)

/-- ITS FALSE NEIGHBOUR: 'it returns false'. Refute it at one input. -/
def ringPiecesWrong : ChangeSpec := { name := "ringPieces", fn := fun _ => fun
  | [d1, d2] => { results := [.lit (.bool false)], args := [d1, d2] }
  | _ => none }
def RingPiecesWrongFalsely : Prop := ringPiecesRow.holds Try.pinned (OpenSpec.ofChange ringPiecesWrong)

/-- 'turnpikelaw02.RingStream': WHATEVER THE INPUT: true; the input reads as it did. -/
def ringStreamSpec : ChangeSpec := { name := "ringStream", fn := fun _ => fun
  | [d1, d2, d3] => { results := [.lit (.bool true)], args := [d1, d2, d3] }
  | _ => none }
def ringStreamRow : OpenClaim := { program := "ytonbjdiehbemjaa", sum := "d79c876f62f59c30401a52515868fe685cfa394cd15645d3bbe46cc60ed8e8d6", func := "turnpike/turnpikelaw02.RingStream", spec := "ringStream", apart := false }
def RingStreamSaid : Prop := ringStreamRow.holds Try.pinned (OpenSpec.ofChange ringStreamSpec)

/-- ITS FALSE NEIGHBOUR: 'it returns false'. Refute it at one input. -/
def ringStreamWrong : ChangeSpec := { name := "ringStream", fn := fun _ => fun
  | [d1, d2, d3] => { results := [.lit (.bool false)], args := [d1, d2, d3] }
  | _ => none }
def RingStreamWrongFalsely : Prop := ringStreamRow.holds Try.pinned (OpenSpec.ofChange ringStreamWrong)

/- THE SECOND FORM. 'bulk': how many values and letters a reading holds, each counted each time it is reached (what is shared counts as often as it is met; a slice's spare places count too). A statement '..UptoSaid' is the law's where the arguments, and the package variables that the reading takes, are together of bulk at most 1048576: NARROWER than '..Said'. Prove '..Said' where nothing that the law and all that it calls make is longer than what came in: it says more and counts as full. Else prove '..UptoSaid'. A law counts once. -/
mutual
def uptoBulk {H : Type} : DataW H → Nat
  | .lit (.string bytes) => bytes.length + 1
  | .lit _ => 1
  | .nil => 1
  | .ptr d => uptoBulk d + 1
  | .slice elems spare => uptoBulkAll elems + uptoBulkAll spare + 1
  | .agg parts => uptoBulkAll parts + 1
  | .iface _ d => uptoBulk d + 1
  | .map entries => uptoBulkEntries entries + 1
  | .held _ => 1
def uptoBulkAll {H : Type} : List (DataW H) → Nat
  | [] => 0
  | d :: r => uptoBulk d + uptoBulkAll r
def uptoBulkEntries {H : Type} : List (Lit × DataW H) → Nat
  | [] => 0
  | x :: r => uptoBulkEntry x + uptoBulkEntries r
def uptoBulkEntry {H : Type} : Lit × DataW H → Nat
  | (.string bytes, d) => bytes.length + uptoBulk d + 1
  | (_, d) => uptoBulk d + 1
 end
def uptoSmall : (H : Type) → List (DataW H) → Bool := fun _ ds => decide (uptoBulkAll ds ≤ 1048576)
def OpenSpec.upto (s : _root_.Go.ChangeSpec) : _root_.Go.OpenSpec := { _root_.Go.OpenSpec.ofChange s with cond := some uptoSmall }

/-- 'turnpikelaw02.RingExact', WHERE WHAT IT READS IS OF BULK AT MOST 1048576: true; the input reads as it did. -/
def ringExactUptoRow : OpenClaim := { program := "ytonbjdiehbemjaa", sum := "d79c876f62f59c30401a52515868fe685cfa394cd15645d3bbe46cc60ed8e8d6", func := "turnpike/turnpikelaw02.RingExact", spec := "ringExact", inPlace := ["internal/bytealg.IndexByte", "internal/bytealg.Index"], named := ["internal/bytealg.MaxLen"], apart := false, narrowed := true }
def RingExactUptoSaid : Prop := ringExactUptoRow.holds Try.pinned (OpenSpec.upto ringExactSpec)

/-- 'turnpikelaw02.RingTwo', WHERE WHAT IT READS IS OF BULK AT MOST 1048576: true; the input reads as it did. -/
def ringTwoUptoRow : OpenClaim := { program := "ytonbjdiehbemjaa", sum := "d79c876f62f59c30401a52515868fe685cfa394cd15645d3bbe46cc60ed8e8d6", func := "turnpike/turnpikelaw02.RingTwo", spec := "ringTwo", inPlace := ["internal/bytealg.IndexByte", "internal/bytealg.Index"], named := ["internal/bytealg.MaxLen"], apart := false, narrowed := true }
def RingTwoUptoSaid : Prop := ringTwoUptoRow.holds Try.pinned (OpenSpec.upto ringTwoSpec)

/-- 'turnpikelaw02.RingMemory', WHERE WHAT IT READS IS OF BULK AT MOST 1048576: true; the input reads as it did. -/
def ringMemoryUptoRow : OpenClaim := { program := "ytonbjdiehbemjaa", sum := "d79c876f62f59c30401a52515868fe685cfa394cd15645d3bbe46cc60ed8e8d6", func := "turnpike/turnpikelaw02.RingMemory", spec := "ringMemory", apart := false, narrowed := true }
def RingMemoryUptoSaid : Prop := ringMemoryUptoRow.holds Try.pinned (OpenSpec.upto ringMemorySpec)

/-- 'turnpikelaw02.RingArgument', WHERE WHAT IT READS IS OF BULK AT MOST 1048576: true; the input reads as it did. -/
def ringArgumentUptoRow : OpenClaim := { program := "ytonbjdiehbemjaa", sum := "d79c876f62f59c30401a52515868fe685cfa394cd15645d3bbe46cc60ed8e8d6", func := "turnpike/turnpikelaw02.RingArgument", spec := "ringArgument", apart := false, narrowed := true }
def RingArgumentUptoSaid : Prop := ringArgumentUptoRow.holds Try.pinned (OpenSpec.upto ringArgumentSpec)

/-- 'turnpikelaw02.RingPieces', WHERE WHAT IT READS IS OF BULK AT MOST 1048576: true; the input reads as it did. -/
def ringPiecesUptoRow : OpenClaim := { program := "ytonbjdiehbemjaa", sum := "d79c876f62f59c30401a52515868fe685cfa394cd15645d3bbe46cc60ed8e8d6", func := "turnpike/turnpikelaw02.RingPieces", spec := "ringPieces", apart := false, narrowed := true }
def RingPiecesUptoSaid : Prop := ringPiecesUptoRow.holds Try.pinned (OpenSpec.upto ringPiecesSpec)

/-- 'turnpikelaw02.RingStream', WHERE WHAT IT READS IS OF BULK AT MOST 1048576: true; the input reads as it did. -/
def ringStreamUptoRow : OpenClaim := { program := "ytonbjdiehbemjaa", sum := "d79c876f62f59c30401a52515868fe685cfa394cd15645d3bbe46cc60ed8e8d6", func := "turnpike/turnpikelaw02.RingStream", spec := "ringStream", apart := false, narrowed := true }
def RingStreamUptoSaid : Prop := ringStreamUptoRow.holds Try.pinned (OpenSpec.upto ringStreamSpec)

end Rows
end Go.Proofs.Ytonbjdiehbemjaa
