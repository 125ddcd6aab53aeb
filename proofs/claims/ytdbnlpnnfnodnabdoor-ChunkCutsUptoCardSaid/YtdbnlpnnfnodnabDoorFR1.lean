/-
  The document's small answers of layer 6: signs, blanks, bytes of fields, tokens, small letters, texts without blanks around.
-/
import Derived.Test.YtdbnlpnnfnodnabDoorTrim
set_option linter.unusedVariables false
set_option linter.unusedSimpArgs false
namespace Go.Proofs.YtdbnlpnnfnodnabDoor
open Go.RowKit
namespace Fd
open Oc

end Fd
end Go.Proofs.YtdbnlpnnfnodnabDoor
