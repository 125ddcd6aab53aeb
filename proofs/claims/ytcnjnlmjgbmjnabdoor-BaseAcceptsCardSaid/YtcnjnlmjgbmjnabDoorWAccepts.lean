/-
  The walk of BaseAccepts.
-/
import Derived.Test.YtcnjnlmjgbmjnabDoorRAcc
import Derived.Test.YtcnjnlmjgbmjnabDoorRSha
set_option linter.unusedVariables false
namespace Go.Proofs.YtcnjnlmjgbmjnabDoor
open Go.RowKit
namespace Bs

theorem walk_BaseAccepts (l : List UInt8) (w : World) (hl : l.length ≤ 140737488351232) :
    Calls Tryd.prog 3 #[.string (str l)] w fun e w' => e = .returned (.bool true) ∧ Below w.heap.size w w' := walk_BaseAccepts' rSha1_any l w hl

end Bs
end Go.Proofs.YtcnjnlmjgbmjnabDoor
