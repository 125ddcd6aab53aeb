/-
  Texts held against texts: the law's own 'same'.
-/
import Derived.Test.YtjngpafokkjkdaaGreatDoorToks
set_option linter.unusedVariables false
set_option linter.unusedSimpArgs false
namespace Go.Proofs.YtjngpafokkjkdaaGreatDoor
open Go.RowKit Go.Shelf
namespace Oc

/-- A slice that reads as these texts. -/
def RdS (v : Value) (t : List (List UInt8)) (w : World) : Prop :=
  ∃ a c, v = .slice a t.length c ∧ (t = [] ∨ ∃ g o, a = some ⟨g, o, none⟩ ∧ t.length ≤ c ∧ ∀ j, j < t.length → w.cell? ⟨g, o + j, none⟩ = some (.string (str (t.getD j []))))
theorem OwnS.rd {B : Nat} {v : Value} {t : List (List UInt8)} {w : World} (h : OwnS B v t w) : RdS v t w := by
  obtain ⟨a, c, rfl⟩ := h.form
  refine ⟨a, c, rfl, ?_⟩
  cases t with
  | nil => exact .inl rfl
  | cons x t =>
    right
    obtain ⟨g, e, hc, _⟩ := h.cell 0 (by simp)
    refine ⟨g, 0, e, hc, fun j hj => ?_⟩
    obtain ⟨g', e', _, hcell⟩ := h.cell j hj
    rw [e] at e'
    injection e' with e'
    injection e' with e1
    subst e1
    rw [Nat.zero_add]
    exact hcell
theorem RdS.below {v : Value} {t : List (List UInt8)} {w w' : World} (h : RdS v t w) (b : Below w.heap.size w w') : RdS v t w' := by
  obtain ⟨a, c, rfl, h⟩ := h
  refine ⟨a, c, rfl, ?_⟩
  rcases h with h | ⟨g, o, e, hc, hcell⟩
  · exact .inl h
  · refine .inr ⟨g, o, e, hc, fun j hj => ?_⟩
    have h1 := hcell j hj
    rw [b.cell (p := ⟨g, o + j, none⟩) (World.block_lt_of_cell? w _ h1)]
    exact h1

theorem drawn_again (w : World) (n m : Nat) : Hid (∃ k, w.drewN (n + m) = w.drewN k) := ⟨_, rfl⟩
theorem drawn_twice (w : World) (n m : Nat) : ∃ k, (w.drewN n).drewN m = w.drewN k := ⟨n + m, World.drewN_drewN ..⟩

end Oc
end Go.Proofs.YtjngpafokkjkdaaGreatDoor
