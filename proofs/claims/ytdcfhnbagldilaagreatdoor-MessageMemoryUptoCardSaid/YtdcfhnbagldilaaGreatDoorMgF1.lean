import Derived.Test.YtdcfhnbagldilaaGreatDoorMgK
import Derived.Laws.EntriesVeiled
import Derived.Test.YtdcfhnbagldilaaGreatDoorMgL
set_option linter.unusedVariables false
set_option linter.unusedSimpArgs false
namespace Go.Proofs.YtdcfhnbagldilaaGreatDoor
open Go.RowKit Go.Shelf
namespace Fd
open Oc Tg
def unlike (s : List UInt8) (p : Fl) : Bool := !alike s p
end Fd
end Go.Proofs.YtdcfhnbagldilaaGreatDoor
set_option linter.unusedVariables false
set_option linter.unusedSimpArgs false
namespace Go.Proofs.YtdcfhnbagldilaaGreatDoor
open Go.RowKit Go.Shelf
namespace Fd
open Oc Tg
def Sep (u v : Value) : Prop := ∀ g, u.ownBlock = some g → v.ownBlock ≠ some g
theorem Sep.symm {u v : Value} (h : Sep u v) : Sep v u := fun g h1 h2 => h g h2 h1
def mixN (s : List UInt8) (t o : List Fl) : Nat → List Fl
  | 0 => []
  | k + 1 => mixN s t o k ++ [nth t k] ++ (if k < o.length ∧ alike s (nth o k) = false then [nth o k] else [])
theorem sumF_app (a b : List Fl) : sumF (a ++ b) = sumF a + sumF b := by simp [sumF]
end Fd
end Go.Proofs.YtdcfhnbagldilaaGreatDoor
