/-
  The walk of BaseParts.
-/
import Derived.Test.YtcnjnlmjgbmjnabWParts
import Derived.Test.YtcnjnlmjgbmjnabRSha
set_option linter.unusedVariables false
namespace Go.Proofs.Ytcnjnlmjgbmjnab
open Go.RowKit
namespace Bs

theorem walk_BaseParts (v : Value) (t : List Pc) (hb : sumc t ≤ 1048576) (htl : t.length ≤ 9223372036854775807) (w : World) (R : RdPc v t w) :
    Calls Try.prog 5 #[v] w fun e w' => e = .returned (.bool true) ∧ Below w.heap.size w w' := walk_BaseParts' rSha1_any v t hb htl w R

end Bs
end Go.Proofs.Ytcnjnlmjgbmjnab
