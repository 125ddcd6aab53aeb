import Derived.Test.YtcelekfokbdmfaaGreatDoorMgM
set_option linter.unusedVariables false
set_option linter.unusedSimpArgs false
namespace Go.Proofs.YtcelekfokbdmfaaGreatDoor
open Go.RowKit Go.Shelf
namespace Fd
open Oc Tg
end Fd
end Go.Proofs.YtcelekfokbdmfaaGreatDoor
