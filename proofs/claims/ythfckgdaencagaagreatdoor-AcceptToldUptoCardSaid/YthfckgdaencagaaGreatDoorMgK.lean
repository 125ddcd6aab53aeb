/- Several texts as one. -/
import Derived.Test.YthfckgdaencagaaGreatDoorMgJ
import Derived.Test.YthfckgdaencagaaGreatDoorMgF
/-
  Texts held against texts: the law's own 'same'.
-/
set_option linter.unusedVariables false
set_option linter.unusedSimpArgs false
namespace Go.Proofs.YthfckgdaencagaaGreatDoor
open Go.RowKit Go.Shelf
namespace Oc

/-- A slice that reads as these texts. -/
def RdS (v : Value) (t : List (List UInt8)) (w : World) : Prop :=
  ∃ a c, v = .slice a t.length c ∧ (t = [] ∨ ∃ g o, a = some ⟨g, o, none⟩ ∧ t.length ≤ c ∧ ∀ j, j < t.length → w.cell? ⟨g, o + j, none⟩ = some (.string (str (t.getD j []))))
theorem OwnS.rd {B : Nat} {v : Value} {t : List (List UInt8)} {w : World} (h : OwnS B v t w) : RdS v t w := by
  obtain ⟨a, c, rfl⟩ := h.form
  refine ⟨a, c, rfl, ?_⟩
  cases t with
  | nil => exact .inl rfl
  | cons x t =>
    right
    obtain ⟨g, e, hc, _⟩ := h.cell 0 (by simp)
    refine ⟨g, 0, e, hc, fun j hj => ?_⟩
    obtain ⟨g', e', _, hcell⟩ := h.cell j hj
    rw [e] at e'
    injection e' with e'
    injection e' with e1
    subst e1
    rw [Nat.zero_add]
    exact hcell
theorem RdS.below {v : Value} {t : List (List UInt8)} {w w' : World} (h : RdS v t w) (b : Below w.heap.size w w') : RdS v t w' := by
  obtain ⟨a, c, rfl, h⟩ := h
  refine ⟨a, c, rfl, ?_⟩
  rcases h with h | ⟨g, o, e, hc, hcell⟩
  · exact .inl h
  · refine .inr ⟨g, o, e, hc, fun j hj => ?_⟩
    have h1 := hcell j hj
    rw [b.cell (p := ⟨g, o + j, none⟩) (World.block_lt_of_cell? w _ h1)]
    exact h1

theorem drawn_again (w : World) (n m : Nat) : Hid (∃ k, w.drewN (n + m) = w.drewN k) := ⟨_, rfl⟩
theorem drawn_twice (w : World) (n m : Nat) : ∃ k, (w.drewN n).drewN m = w.drewN k := ⟨n + m, World.drewN_drewN ..⟩

end Oc
end Go.Proofs.YthfckgdaencagaaGreatDoor

/-
  Texts with commas between.
-/
set_option linter.unusedVariables false
namespace Go.Proofs.YthfckgdaencagaaGreatDoor
namespace Oc

def joinF : List (List UInt8) → List UInt8
  | [] => []
  | [x] => x
  | x :: y :: r => x ++ 44 :: 32 :: joinF (y :: r)
def sumL (t : List (List UInt8)) : Nat := (t.map List.length).sum
def jp (t : List (List UInt8)) (k : Nat) : List UInt8 := joinF (t.take k)
theorem joinF_snoc : ∀ (t : List (List UInt8)) (y : List UInt8), t ≠ [] → joinF (t ++ [y]) = joinF t ++ [44, 32] ++ y
  | [], y, h => absurd rfl h
  | [x], y, _ => by show x ++ 44 :: 32 :: y = x ++ [44, 32] ++ y; simp
  | x :: z :: r, y, _ => by
    have ih := joinF_snoc (z :: r) y (by simp)
    show x ++ 44 :: 32 :: joinF (z :: (r ++ [y])) = (x ++ 44 :: 32 :: joinF (z :: r)) ++ [44, 32] ++ y
    rw [show z :: (r ++ [y]) = (z :: r) ++ [y] from rfl, ih]
    simp
theorem joinF_len : ∀ t : List (List UInt8), (joinF t).length ≤ sumL t + 2 * t.length
  | [] => by simp [joinF]
  | [x] => by simp [joinF, sumL]
  | x :: y :: r => by
    have ih := joinF_len (y :: r)
    show (x ++ 44 :: 32 :: joinF (y :: r)).length ≤ x.length + sumL (y :: r) + 2 * ((y :: r).length + 1)
    rw [List.length_append, List.length_cons, List.length_cons]
    omega
theorem take_succ (t : List (List UInt8)) (k : Nat) (h : k < t.length) : t.take (k + 1) = t.take k ++ [t.getD k []] := by
  rw [List.take_add_one, List.getElem?_eq_getElem h, List.getD_eq_getElem?_getD, List.getElem?_eq_getElem h]; rfl
theorem sumL_append (a b : List (List UInt8)) : sumL (a ++ b) = sumL a + sumL b := by simp [sumL]
theorem sumL_succ (t : List (List UInt8)) (k : Nat) (h : k < t.length) : sumL (t.take (k + 1)) = sumL (t.take k) + (t.getD k []).length := by
  rw [take_succ t k h, sumL_append]; simp [sumL]
theorem sumL_take (t : List (List UInt8)) (k : Nat) : sumL (t.take k) ≤ sumL t := by
  have := sumL_append (t.take k) (t.drop k)
  rw [List.take_append_drop] at this
  omega
theorem jp_len (t : List (List UInt8)) (k : Nat) : (jp t k).length ≤ sumL t + 2 * t.length := by
  have h1 := joinF_len (t.take k)
  have h2 := sumL_take t k
  rw [List.length_take] at h1
  show (joinF (t.take k)).length ≤ _
  omega
theorem jp_one (t : List (List UInt8)) (h : 0 < t.length) : jp t 1 = t.getD 0 [] := by
  cases t with
  | nil => simp at h
  | cons x t => rfl
theorem jp_succ (t : List (List UInt8)) (k : Nat) (h : k < t.length) (h0 : 0 < k) : jp t (k + 1) = jp t k ++ [44, 32] ++ t.getD k [] := by
  unfold jp
  rw [take_succ t k h]
  exact joinF_snoc _ _ (fun e => by
    have := congrArg List.length e
    rw [List.length_take, List.length_nil] at this
    omega)
theorem jp_all (t : List (List UInt8)) : jp t t.length = joinF t := by unfold jp; rw [List.take_length]

end Oc
end Go.Proofs.YthfckgdaencagaaGreatDoor
