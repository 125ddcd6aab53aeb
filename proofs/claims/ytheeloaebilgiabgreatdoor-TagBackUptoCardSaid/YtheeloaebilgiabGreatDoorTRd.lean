/-
  The document's read.
-/
import Derived.Test.YtheeloaebilgiabGreatDoorTFr
set_option linter.unusedVariables false
set_option linter.unusedSimpArgs false
namespace Go.Proofs.YtheeloaebilgiabGreatDoor
open Go.RowKit
namespace Tt
open Oc

theorem front_nil (l : List UInt8) (a : Nat) (h : l.length ≤ a) : frontR (l.drop a) = ((false, []), 0, false) := by rw [List.drop_eq_nil_of_le h]; rfl
theorem drop_at (l : List UInt8) (a : Nat) (h : a < l.length) : l.drop a = l.getD a 0 :: l.drop (a + 1) := by
  rw [List.drop_eq_getElem_cons h, List.getD_eq_getElem?_getD, List.getElem?_eq_getElem h]
  rfl
theorem two_tags (w : World) (T : Nat) (x : Bool) : TB T ((w.alloc (.cells #[.bool false, .string ⟨#[]⟩] T)).alloc (.cells #[.bool x, .string ⟨#[]⟩] T)) w.heap.size (false, []) ∧ TB T ((w.alloc (.cells #[.bool false, .string ⟨#[]⟩] T)).alloc (.cells #[.bool x, .string ⟨#[]⟩] T)) (w.heap.size + 1) (x, []) ∧ Below w.heap.size w ((w.alloc (.cells #[.bool false, .string ⟨#[]⟩] T)).alloc (.cells #[.bool x, .string ⟨#[]⟩] T)) := by
  refine ⟨?_, ?_, ((Below.refl _ w).alloc (Nat.le_refl _) _).alloc (by simp) _⟩
  · have h1 : TB T (w.alloc (.cells #[.bool false, .string ⟨#[]⟩] T)) w.heap.size (false, []) := heap_alloc_new w _
    exact h1.alloc _
  · have z1 : (w.alloc (.cells #[.bool false, .string ⟨#[]⟩] T)).heap.size = w.heap.size + 1 := by simp
    rw [← z1]
    exact heap_alloc_new _ _

end Tt
end Go.Proofs.YtheeloaebilgiabGreatDoor
