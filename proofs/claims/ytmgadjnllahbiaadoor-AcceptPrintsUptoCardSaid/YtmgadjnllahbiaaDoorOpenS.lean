/-
  A slice of texts that came in, read as texts.
-/
import Derived.Test.YtmgadjnllahbiaaDoorRows
import Derived.Test.YtmgadjnllahbiaaDoorSameL
import Derived.Test.YtmgadjnllahbiaaDoorJPlain
import Derived.OpenShut
import Derived.SliceStrings
import Derived.Carry
set_option linter.unusedVariables false
set_option linter.unusedSimpArgs false
namespace Go.Proofs.YtmgadjnllahbiaaDoor
open Go.ChangeShapes Go.WideShapes Go.RowKit
namespace Oc

theorem laidOutT : laidOutB Tryd.prog = true := by kernel_rfl

theorem cells9 : Tryd.prog.cellsOf 9 = 1 := by kernel_rfl

end Oc
end Go.Proofs.YtmgadjnllahbiaaDoor
