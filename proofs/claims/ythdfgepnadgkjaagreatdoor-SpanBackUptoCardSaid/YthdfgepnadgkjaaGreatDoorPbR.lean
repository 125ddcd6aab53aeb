/-
  span: rows of pieces, to read.
-/
import Derived.Test.YthdfgepnadgkjaaGreatDoorPcE
set_option linter.unusedVariables false
set_option linter.unusedSimpArgs false
namespace Go.Proofs.YthdfgepnadgkjaaGreatDoor
open Go.RowKit Go.Shelf
namespace Sn
open Oc Tg Ac

def nthC9 (ps : List Pc) (k : Nat) : Pc := ps.getD k noPc
theorem encC9_at : ∀ (ps : List Pc) (j : Nat), j < ps.length → ∀ k, k < 5 → (encC ps)[j * 5 + k]? = (encC1 (nthC9 ps j))[k]?
  | [], j, hj, _, _ => by simp at hj
  | p :: ps, 0, hj, k, hk => by
    unfold encC
    rw [List.flatMap_cons, List.getElem?_append_left (by unfold encC1; simp; omega)]
    simp [nthC9]
  | p :: ps, j + 1, hj, k, hk => by
    have ih := encC9_at ps j (by simpa using hj) k hk
    unfold encC at *
    rw [List.flatMap_cons, List.getElem?_append_right (by unfold encC1; simp; omega), show (j + 1) * 5 + k - (encC1 p).length = j * 5 + k by unfold encC1; simp; omega, ih]
    simp [nthC9]
/-- A slice of pieces, to read. -/
def RdC9 (v : Value) (t : List Pc) (w : World) : Prop := ∃ a c, v = .slice a t.length c ∧ (t = [] ∨ ∃ g, a = some ⟨g, 0, none⟩ ∧ t.length ≤ c ∧ ∀ j, j < t.length → w.cell? ⟨g, j * 5, none⟩ = some (.string (str (nthC9 t j).media)) ∧ w.cell? ⟨g, j * 5 + 1, none⟩ = some (.int .i64 (nthC9 t j).sp.1) ∧ w.cell? ⟨g, j * 5 + 2, none⟩ = some (.int .i64 (nthC9 t j).sp.2) ∧ w.cell? ⟨g, j * 5 + 3, none⟩ = some (.int .i64 (nthC9 t j).size) ∧ w.cell? ⟨g, j * 5 + 4, none⟩ = some (.string (str (nthC9 t j).body)))
theorem OwnC.rd9 {T B : Nat} {v : Value} {t : List Pc} {w : World} (h : OwnC T B v t w) : RdC9 v t w := by
  have hall := h
  rcases h.2 with ⟨rfl, h0⟩ | ⟨g, cap, cur, rfl, _, hg, hn, _⟩
  · exact ⟨none, 0, by rw [h0], .inl (List.length_eq_zero_iff.1 h0)⟩
  · refine ⟨_, _, rfl, .inr ⟨g, rfl, by omega, fun j hj => ?_⟩⟩
    have ea : ∀ k, Addr.add ⟨g, 0, none⟩ k = ⟨g, 0 + k, none⟩ := fun k => by unfold Addr.add; split <;> simp_all
    have e := encC9_at t j hj
    have c : ∀ k x, k < 5 → (encC1 (nthC9 t j))[k]? = some x → w.cell? ⟨g, j * 5 + k, none⟩ = some x := fun k x hk hx => by
      have := World.ownsRow.cells hall (g := g) rfl _ _ ((e k hk).trans hx)
      rw [ea, Nat.zero_add] at this
      exact this
    exact ⟨c 0 _ (by decide) rfl, c 1 _ (by decide) rfl, c 2 _ (by decide) rfl, c 3 _ (by decide) rfl, c 4 _ (by decide) rfl⟩
theorem RdC9.below {v : Value} {t : List Pc} {w w' : World} (h : RdC9 v t w) (b : Below w.heap.size w w') : RdC9 v t w' := by
  obtain ⟨a, c, rfl, h⟩ := h
  refine ⟨a, c, rfl, ?_⟩
  rcases h with h | ⟨g, e, hc, hcell⟩
  · exact .inl h
  · refine .inr ⟨g, e, hc, fun j hj => ?_⟩
    obtain ⟨c0, c1, c2, c3, c4⟩ := hcell j hj
    have hg : g < w.heap.size := World.block_lt_of_cell? w _ c0
    exact ⟨(b.cell (p := ⟨g, j * 5, none⟩) hg).trans c0, (b.cell (p := ⟨g, j * 5 + 1, none⟩) hg).trans c1, (b.cell (p := ⟨g, j * 5 + 2, none⟩) hg).trans c2, (b.cell (p := ⟨g, j * 5 + 3, none⟩) hg).trans c3, (b.cell (p := ⟨g, j * 5 + 4, none⟩) hg).trans c4⟩

end Sn
end Go.Proofs.YthdfgepnadgkjaaGreatDoor
