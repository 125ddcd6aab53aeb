/-
  The walk of BaseSums.
-/
import Derived.Test.YtcnjnlmjgbmjnabWSums
import Derived.Test.YtcnjnlmjgbmjnabRSha
set_option linter.unusedVariables false
namespace Go.Proofs.Ytcnjnlmjgbmjnab
open Go.RowKit
namespace Bs

theorem walk_BaseSums (l : List UInt8) (w : World) (hl : l.length ≤ 140737488351232) :
    Calls Try.prog 3 #[.string (str l)] w fun e w' => e = .returned (.bool true) ∧ Below w.heap.size w w' := walk_BaseSums' rSha1_any l w hl

end Bs
end Go.Proofs.Ytcnjnlmjgbmjnab
