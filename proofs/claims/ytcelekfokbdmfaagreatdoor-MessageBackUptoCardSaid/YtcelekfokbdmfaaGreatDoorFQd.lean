import Derived.Test.YtcelekfokbdmfaaGreatDoorMgC
import Derived.Test.YtcelekfokbdmfaaGreatDoorMgG
import Derived.Test.YtcelekfokbdmfaaGreatDoorMgF
set_option linter.unusedVariables false
set_option linter.unusedSimpArgs false
namespace Go.Proofs.YtcelekfokbdmfaaGreatDoor
open Go.RowKit Go.Shelf
namespace Fd
open Oc
end Fd
end Go.Proofs.YtcelekfokbdmfaaGreatDoor
