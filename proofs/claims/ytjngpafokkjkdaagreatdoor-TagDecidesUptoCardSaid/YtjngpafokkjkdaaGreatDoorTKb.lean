/-
  A slice of takers.
-/
import Derived.Test.YtjngpafokkjkdaaGreatDoorTMk
import Derived.Deep.RegionWith
set_option linter.unusedVariables false
set_option linter.unusedSimpArgs false
namespace Go.Proofs.YtjngpafokkjkdaaGreatDoor
open Go.RowKit
namespace Bs

/-- The slice holds the takers of these pieces. -/
def Tks (w : World) (P : Nat) (ts : List TK) (v : Value) : Prop :=
  ∃ gb, v = .slice (some ⟨gb, 0, none⟩) ts.length ts.length ∧ gb ≠ P ∧ ∀ i t, ts[i]? = some t → ∃ u, w.cell? ⟨gb, i, none⟩ = some u ∧ Tk w P t u

end Bs
end Go.Proofs.YtjngpafokkjkdaaGreatDoor
