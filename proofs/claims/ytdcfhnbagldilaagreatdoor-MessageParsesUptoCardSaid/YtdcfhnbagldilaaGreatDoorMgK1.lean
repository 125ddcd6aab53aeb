import Derived.Test.YtdcfhnbagldilaaGreatDoorMgJ1
import Derived.Test.YtdcfhnbagldilaaGreatDoorMgQ
import Derived.BigQuiet
import Derived.Deep.RegionHeld3
import Derived.Test.YtdcfhnbagldilaaGreatDoorMgY
import Derived.Test.YtdcfhnbagldilaaGreatDoorMgD1
import Derived.Test.YtdcfhnbagldilaaGreatDoorMgL
set_option linter.unusedVariables false
set_option linter.unusedSimpArgs false
set_option maxRecDepth 100000
namespace Go.Proofs.YtdcfhnbagldilaaGreatDoor
open Go.RowKit Go.Shelf
namespace Ms
open Oc Tg _root_.Go.Proofs.YtdcfhnbagldilaaGreatDoor.Fd _root_.Go.Proofs.YtdcfhnbagldilaaGreatDoor.Ck
end Ms
end Go.Proofs.YtdcfhnbagldilaaGreatDoor
set_option linter.unusedVariables false
set_option linter.unusedSimpArgs false
set_option maxRecDepth 100000
namespace Go.Proofs.YtdcfhnbagldilaaGreatDoor
open Go.RowKit Go.Shelf
namespace Ck
open Oc Tg _root_.Go.Proofs.YtdcfhnbagldilaaGreatDoor.Fd
end Ck
end Go.Proofs.YtdcfhnbagldilaaGreatDoor
set_option linter.unusedVariables false
set_option linter.unusedSimpArgs false
set_option maxRecDepth 100000
namespace Go.Proofs.YtdcfhnbagldilaaGreatDoor
open Go.RowKit Go.Shelf
namespace Ck
open Oc Tg _root_.Go.Proofs.YtdcfhnbagldilaaGreatDoor.Fd
def piecesC : List Int → List UInt8 → List (List UInt8)
  | [], b => [b]
  | n :: ns, b => b.take n.toNat :: piecesC ns (b.drop n.toNat)
end Ck
end Go.Proofs.YtdcfhnbagldilaaGreatDoor
set_option linter.unusedVariables false
set_option linter.unusedSimpArgs false
set_option maxRecDepth 100000
namespace Go.Proofs.YtdcfhnbagldilaaGreatDoor
open Go.RowKit Go.Shelf
namespace Ms
open Oc Tg _root_.Go.Proofs.YtdcfhnbagldilaaGreatDoor.Fd _root_.Go.Proofs.YtdcfhnbagldilaaGreatDoor.Ck
end Ms
end Go.Proofs.YtdcfhnbagldilaaGreatDoor
