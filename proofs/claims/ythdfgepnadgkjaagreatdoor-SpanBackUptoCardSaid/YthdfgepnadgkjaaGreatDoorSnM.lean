/-
  span: the document's strict, Told.
-/
import Derived.Test.YthdfgepnadgkjaaGreatDoorZzL
set_option linter.unusedVariables false
set_option linter.unusedSimpArgs false
namespace Go.Proofs.YthdfgepnadgkjaaGreatDoor
open Go.RowKit Go.Shelf
open Go.Sort (grow alloc_eq_grow grow_grow grow_empty)
namespace Sn
open Oc Tg Ac

theorem eq_lit (l k : List UInt8) : ((str l).toList == k) = decide (l = k) := by
  rw [ByteArray.toList_eq, str_list, Bool.eq_iff_iff]
  simp

/-- Where a sign was seen first, so far. -/
def FSt (L : List UInt8) (b : UInt8) (a : Int) (k : Nat) : Prop := (a = -1 ∧ ∀ i, i < k → L.getD i 0 ≠ b) ∨ (0 ≤ a ∧ a < k ∧ L.getD a.toNat 0 = b ∧ ∀ i, i < a.toNat → L.getD i 0 ≠ b)
theorem FSt.start (L : List UInt8) (b : UInt8) : FSt L b (-1) 0 := .inl ⟨rfl, fun i hi => by omega⟩
theorem FSt.hit {L : List UInt8} {b : UInt8} {a : Int} {k : Nat} (h : FSt L b a k) (ha : a < 0) (hb : L.getD k 0 = b) : FSt L b (k : Int) (k + 1) := by
  rcases h with ⟨_, h⟩ | ⟨h, _⟩
  · exact .inr ⟨by omega, by omega, by simpa using hb, by simpa using h⟩
  · omega
theorem FSt.miss {L : List UInt8} {b : UInt8} {a : Int} {k : Nat} (h : FSt L b a k) (hb : L.getD k 0 ≠ b) : FSt L b a (k + 1) := by
  rcases h with ⟨e, h⟩ | ⟨h1, h2, h3⟩
  · refine .inl ⟨e, fun i hi => ?_⟩
    by_cases hik : i = k
    · subst hik; exact hb
    · exact h i (by omega)
  · exact .inr ⟨h1, by omega, h3⟩
theorem FSt.keep {L : List UInt8} {b : UInt8} {a : Int} {k : Nat} (h : FSt L b a k) (ha : 0 ≤ a) : FSt L b a (k + 1) := by
  rcases h with ⟨e, h⟩ | ⟨h1, h2, h3⟩
  · omega
  · exact .inr ⟨h1, by omega, h3⟩
theorem FSt.bd {L : List UInt8} {b : UInt8} {a : Int} {k : Nat} (h : FSt L b a k) : a = -1 ∨ (0 ≤ a ∧ a < k) := by
  rcases h with ⟨e, _⟩ | ⟨h1, h2, _⟩
  · exact .inl e
  · exact .inr ⟨h1, h2⟩
theorem getD_take {L : List UInt8} {i j : Nat} (h : i < j) : (L.take j).getD i 0 = L.getD i 0 := by
  rw [List.getD_eq_getElem?_getD, List.getD_eq_getElem?_getD, List.getElem?_take, if_pos h]

end Sn
end Go.Proofs.YthdfgepnadgkjaaGreatDoor
