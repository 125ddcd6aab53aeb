/-
  A moment in a form, whole; Print.
-/
import Derived.Test.YtjngpafokkjkdaaGreatDoorWWr0
import Derived.Test.YtjngpafokkjkdaaGreatDoorWWr1
import Derived.Test.YtjngpafokkjkdaaGreatDoorWWr2
set_option linter.unusedVariables false
set_option linter.unusedSimpArgs false
namespace Go.Proofs.YtjngpafokkjkdaaGreatDoor
open Go.RowKit
namespace Bs

end Bs
end Go.Proofs.YtjngpafokkjkdaaGreatDoor
