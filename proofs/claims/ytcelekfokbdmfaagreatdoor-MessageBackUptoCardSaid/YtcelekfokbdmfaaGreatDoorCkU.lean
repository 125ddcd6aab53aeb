import Derived.Test.YtcelekfokbdmfaaGreatDoorMgX
set_option linter.unusedVariables false
set_option linter.unusedSimpArgs false
set_option maxRecDepth 100000
namespace Go.Proofs.YtcelekfokbdmfaaGreatDoor
open Go.RowKit Go.Shelf
namespace Ck
open Oc Tg _root_.Go.Proofs.YtcelekfokbdmfaaGreatDoor.Fd
end Ck
end Go.Proofs.YtcelekfokbdmfaaGreatDoor
