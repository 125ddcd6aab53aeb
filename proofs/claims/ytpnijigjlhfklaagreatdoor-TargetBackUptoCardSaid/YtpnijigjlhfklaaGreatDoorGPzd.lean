/-
  The document's text of a target (written by mkgpzd.py; towards TargetPrints).
-/
import Derived.Test.YtpnijigjlhfklaaGreatDoorGPzc
import Derived.Test.YtpnijigjlhfklaaGreatDoorGPx
set_option linter.unusedVariables false
set_option linter.unusedSimpArgs false
set_option maxRecDepth 100000
namespace Go.Proofs.YtpnijigjlhfklaaGreatDoor
open Go.RowKit Go.Shelf
namespace Tg
open Oc

/-- What the document writes: as written, but of an unknown form as an asterisk. -/
def txtR (form : Int) (host : List UInt8) (port : Int) (path query : List UInt8) (hq : Bool) : List UInt8 × List UInt8 :=
  if form = 1 ∨ form = 2 ∨ form = 3 then wrtR form host port path query hq else (optL, [42])

end Tg
end Go.Proofs.YtpnijigjlhfklaaGreatDoor
