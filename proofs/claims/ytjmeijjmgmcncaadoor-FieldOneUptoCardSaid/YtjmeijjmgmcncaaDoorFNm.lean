/-
  Lengths: the document's decimal; Length, and the document's.
-/
import Derived.Test.YtjmeijjmgmcncaaDoorFHs
set_option linter.unusedVariables false
set_option linter.unusedSimpArgs false
namespace Go.Proofs.YtjmeijjmgmcncaaDoor
open Go.RowKit Go.Shelf
namespace Fd
open Oc Tg

def dec (x : List UInt8) : Int × Int := numR 10 x 1099511627776
def decZ (x : List UInt8) : Int := if (dec x).2 = 0 then (dec x).1 else -1
theorem val_low {c : Int} (h : c < 48) : 10 ≤ valI c := by unfold valI; (repeat' split) <;> omega
theorem val_high {c : Int} (h : 57 < c) : 10 ≤ valI c := by unfold valI; (repeat' split) <;> omega
theorem decZ_bad {s : ByteArray} (k : Nat) (h : k < s.size) (hv : 10 ≤ valI (byt s k)) : decZ s.data.toList = -1 := by
  unfold decZ dec
  rw [numR_bad 10 _ s k h hv]
  rfl

end Fd
end Go.Proofs.YtjmeijjmgmcncaaDoor
