/-
  Persist; the document's.
-/
import Derived.Test.YtggmidkmpgjnoaaDoorMgQ
set_option linter.unusedVariables false
set_option linter.unusedSimpArgs false
namespace Go.Proofs.YtggmidkmpgjnoaaDoor
open Go.RowKit Go.Shelf
namespace Fd
open Oc Tg

def nCo : List UInt8 := [67, 111, 110, 110, 101, 99, 116, 105, 111, 110]
def wCl : List UInt8 := [99, 108, 111, 115, 101]
def wKA : List UInt8 := [107, 101, 101, 112, 45, 97, 108, 105, 118, 101]
def persistF (t : List Fl) (old : Bool) : Bool := if (tokensF nCo t).2 = 0 then (if inL (tokensF nCo t).1 wCl then false else if old then inL (tokensF nCo t).1 wKA else true) else false

end Fd
end Go.Proofs.YtggmidkmpgjnoaaDoor
