/-
  Parameters held against parameters: the law's own 'alike'.
-/
import Derived.Test.YtifhbjkgdnemjaaGreatDoorSameL
import Derived.Test.YtifhbjkgdnemjaaGreatDoorPar
set_option linter.unusedVariables false
set_option linter.unusedSimpArgs false
namespace Go.Proofs.YtifhbjkgdnemjaaGreatDoor
open Go.RowKit Go.Shelf
namespace Oc

def nth (t : List Prm) (j : Nat) : Prm := t.getD j ([], [], false)
/-- A slice that reads as these parameters. -/
def RdP (v : Value) (t : List Prm) (w : World) : Prop :=
  ∃ a c, v = .slice a t.length c ∧ (t = [] ∨ ∃ g o, a = some ⟨g, o, none⟩ ∧ t.length ≤ c ∧ ∀ j, j < t.length → w.cell? ⟨g, o + j * 3, none⟩ = some (.string (str (nth t j).1)) ∧ w.cell? ⟨g, o + j * 3 + 1, none⟩ = some (.string (str (nth t j).2.1)) ∧ w.cell? ⟨g, o + j * 3 + 2, none⟩ = some (.bool (nth t j).2.2))
theorem encP_at : ∀ (t : List Prm) (j : Nat), j < t.length → (encP t)[j * 3]? = some (.string (str (nth t j).1)) ∧ (encP t)[j * 3 + 1]? = some (.string (str (nth t j).2.1)) ∧ (encP t)[j * 3 + 2]? = some (.bool (nth t j).2.2)
  | [], j, h => by simp at h
  | p :: t, 0, _ => ⟨rfl, rfl, rfl⟩
  | p :: t, j + 1, h => by
    have ih := encP_at t j (by simpa using h)
    have e : encP (p :: t) = [.string (str p.1), .string (str p.2.1), .bool p.2.2] ++ encP t := rfl
    rw [e]
    have n : nth (p :: t) (j + 1) = nth t j := by unfold nth; simp
    rw [n, show (j + 1) * 3 = j * 3 + 3 by omega, show j * 3 + 3 + 1 = (j * 3 + 1) + 3 by omega, show j * 3 + 3 + 2 = (j * 3 + 2) + 3 by omega]
    exact ih
theorem OwnP.rd {T B : Nat} {v : Value} {t : List Prm} {w : World} (h : OwnP T B v t w) : RdP v t w := by
  have hall := h
  rcases h.2 with ⟨rfl, h0⟩ | ⟨g, cap, cur, rfl, _, hg, hn, _⟩
  · exact ⟨none, 0, by rw [h0], .inl (List.length_eq_zero_iff.1 h0)⟩
  · refine ⟨_, _, rfl, .inr ⟨g, 0, rfl, by omega, fun j hj => ?_⟩⟩
    obtain ⟨e0, e1, e2⟩ := encP_at t j hj
    have ea : ∀ k, Addr.add ⟨g, 0, none⟩ k = ⟨g, 0 + k, none⟩ := fun k => by unfold Addr.add; split <;> simp_all
    have c0 := World.ownsRow.cells hall (g := g) rfl _ _ e0
    have c1 := World.ownsRow.cells hall (g := g) rfl _ _ e1
    have c2 := World.ownsRow.cells hall (g := g) rfl _ _ e2
    rw [ea] at c0 c1 c2
    exact ⟨c0, c1, c2⟩
theorem RdP.below {v : Value} {t : List Prm} {w w' : World} (h : RdP v t w) (b : Below w.heap.size w w') : RdP v t w' := by
  obtain ⟨a, c, rfl, h⟩ := h
  refine ⟨a, c, rfl, ?_⟩
  rcases h with h | ⟨g, o, e, hc, hcell⟩
  · exact .inl h
  · refine .inr ⟨g, o, e, hc, fun j hj => ?_⟩
    obtain ⟨h1, h2, h3⟩ := hcell j hj
    rw [b.cell (p := ⟨g, o + j * 3, none⟩) (World.block_lt_of_cell? w _ h1), b.cell (p := ⟨g, o + j * 3 + 1, none⟩) (World.block_lt_of_cell? w _ h2), b.cell (p := ⟨g, o + j * 3 + 2, none⟩) (World.block_lt_of_cell? w _ h3)]
    exact ⟨h1, h2, h3⟩

theorem pgo_short : ∀ (f : Nat) (r : List UInt8) (y : List Prm × Nat), pgo f r = some y → y.1.length ≤ r.length
  | 0, r, y, h => by cases h
  | f + 1, r, y, h => by
    rw [pgo] at h
    cases hp : pstep r with
    | none => rw [hp] at h; cases h
    | some o =>
      rw [hp] at h
      cases o with
      | none => cases h; exact Nat.zero_le _
      | some x =>
        have hx := pstep_le r x hp
        obtain ⟨z, hz, e⟩ := Option.map_eq_some_iff.1 h
        have ih := pgo_short f _ z hz
        rw [List.length_drop] at ih
        cases e
        show (x.2 ++ z.1).length ≤ _
        rw [List.length_append]
        omega
theorem paramsR_short (l : List UInt8) : (paramsR l).1.length ≤ l.length := by
  unfold paramsR
  cases h : prm l with
  | none => exact Nat.zero_le _
  | some y => exact pgo_short _ _ _ h

end Oc
end Go.Proofs.YtifhbjkgdnemjaaGreatDoor
