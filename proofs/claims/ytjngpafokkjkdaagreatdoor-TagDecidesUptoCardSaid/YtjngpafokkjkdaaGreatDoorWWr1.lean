/-
  A moment in a form (1).
-/
import Derived.Test.YtjngpafokkjkdaaGreatDoorWWb
import Derived.Deep.RegionHeld3
set_option linter.unusedVariables false
set_option linter.unusedSimpArgs false
namespace Go.Proofs.YtjngpafokkjkdaaGreatDoor
open Go.RowKit
namespace Bs

end Bs
end Go.Proofs.YtjngpafokkjkdaaGreatDoor
