/-
  The law's own 'awake'.
-/
import Derived.Test.YtjngpafokkjkdaaGreatDoorWWr
import Derived.Test.YtjngpafokkjkdaaGreatDoorPPs
set_option linter.unusedVariables false
set_option linter.unusedSimpArgs false
namespace Go.Proofs.YtjngpafokkjkdaaGreatDoor
open Go.RowKit
namespace Bs

def aw1 : List UInt8 := [83, 117, 110, 44, 32, 48, 54, 32, 78, 111, 118, 32, 49, 57, 57, 52, 32, 48, 56, 58, 52, 57, 58, 51, 55, 32, 71, 77, 84]
def aw2 : List UInt8 := [83, 117, 110, 32, 78, 111, 118, 32, 32, 54, 32, 48, 56, 58, 52, 57, 58, 51, 55, 32, 49, 57, 57, 52]
theorem aw_w : writeR 784111777 0 = (aw1, 0) := by kernel_rfl
theorem aw_p : parseS aw2 0 = (784111777, 2, 0, 0) := by kernel_rfl

end Bs
end Go.Proofs.YtjngpafokkjkdaaGreatDoor
