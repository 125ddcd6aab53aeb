/-
  A region that draws its order, whose own operations only read and whose callees leave all that lay: one walk.
-/
import Derived.Test.YticncpjpkgdnlaaGreatDoorMgA
import Derived.Test.YticncpjpkgdnlaaGreatDoorRows
import Derived.WalkKit
import Derived.Deep.QuietTactic
import Derived.BigQuiet
set_option linter.unusedVariables false
set_option linter.unusedSimpArgs false
namespace Go.Proofs.YticncpjpkgdnlaaGreatDoor
open Go.RowKit
namespace Oc

/-- A world in which all that lay in w lies as it lay. -/
structure BelBy (w : World) where
  to : World
  bel : Below w.heap.size w to
theorem wp_region_bel {P : Program} {id : Nat} {Q : Exit → Act → World → Prop} {a : Act} {w : World} {l : List Oper} (hm : P.follows .mixedOrders = true) (hB : Region.lexB .any l.toArray = true)
    (h : wpQuiet P l.toArray (fun w' => ∃ p : BelBy w, w' = p.to) (fun a' => ∀ w', (∃ p : BelBy w, w' = p.to) → Q .normal a' w') l a) : (Code.region id l.toArray true).wp P Q a w :=
  wp_region_quiet (C := fun w' => ∃ p : BelBy w, w' = p.to) hm hB ⟨⟨w.drew, ⟨rfl, rfl, rfl, Nat.le_refl _, fun _ _ => rfl⟩⟩, rfl⟩ (by simpa using h)
/-- A callee's contract, met in such a world. -/
theorem Calls.bel_of {P : Program} {f : FuncId} {args : Array Value} {w : World} {p : BelBy w} {v : Value}
    (h : Calls P f args p.to fun e w' => e = .returned v ∧ Below p.to.heap.size p.to w') : Calls P f args p.to fun e w'' => e = .returned v ∧ ∃ p' : BelBy w, w'' = p'.to :=
  h.mono fun _ w' ⟨he, hb⟩ => ⟨he, ⟨w', p.bel.trans (hb.mono p.bel.size)⟩, rfl⟩
theorem BelBy.cell {w : World} (p : BelBy w) {a : Addr} {v : Value} (h : w.cell? a = some v) : p.to.cell? a = some v := by
  rw [p.bel.cell (World.block_lt_of_cell? w _ h)]
  exact h
theorem mixB : Tryz.prog.follows .mixedOrders = true := by kernel_rfl

end Oc
end Go.Proofs.YticncpjpkgdnlaaGreatDoor
