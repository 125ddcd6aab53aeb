/-
  Texts with commas between.
-/
import Derived.Test.YticncpjpkgdnlaaGreatDoorMgG
set_option linter.unusedVariables false
namespace Go.Proofs.YticncpjpkgdnlaaGreatDoor
namespace Oc

def joinF : List (List UInt8) → List UInt8
  | [] => []
  | [x] => x
  | x :: y :: r => x ++ 44 :: 32 :: joinF (y :: r)
def sumL (t : List (List UInt8)) : Nat := (t.map List.length).sum
def jp (t : List (List UInt8)) (k : Nat) : List UInt8 := joinF (t.take k)
theorem joinF_snoc : ∀ (t : List (List UInt8)) (y : List UInt8), t ≠ [] → joinF (t ++ [y]) = joinF t ++ [44, 32] ++ y
  | [], y, h => absurd rfl h
  | [x], y, _ => by show x ++ 44 :: 32 :: y = x ++ [44, 32] ++ y; simp
  | x :: z :: r, y, _ => by
    have ih := joinF_snoc (z :: r) y (by simp)
    show x ++ 44 :: 32 :: joinF (z :: (r ++ [y])) = (x ++ 44 :: 32 :: joinF (z :: r)) ++ [44, 32] ++ y
    rw [show z :: (r ++ [y]) = (z :: r) ++ [y] from rfl, ih]
    simp
theorem joinF_len : ∀ t : List (List UInt8), (joinF t).length ≤ sumL t + 2 * t.length
  | [] => by simp [joinF]
  | [x] => by simp [joinF, sumL]
  | x :: y :: r => by
    have ih := joinF_len (y :: r)
    show (x ++ 44 :: 32 :: joinF (y :: r)).length ≤ x.length + sumL (y :: r) + 2 * ((y :: r).length + 1)
    rw [List.length_append, List.length_cons, List.length_cons]
    omega
theorem take_succ (t : List (List UInt8)) (k : Nat) (h : k < t.length) : t.take (k + 1) = t.take k ++ [t.getD k []] := by
  rw [List.take_add_one, List.getElem?_eq_getElem h, List.getD_eq_getElem?_getD, List.getElem?_eq_getElem h]; rfl
theorem sumL_append (a b : List (List UInt8)) : sumL (a ++ b) = sumL a + sumL b := by simp [sumL]
theorem sumL_succ (t : List (List UInt8)) (k : Nat) (h : k < t.length) : sumL (t.take (k + 1)) = sumL (t.take k) + (t.getD k []).length := by
  rw [take_succ t k h, sumL_append]; simp [sumL]
theorem sumL_take (t : List (List UInt8)) (k : Nat) : sumL (t.take k) ≤ sumL t := by
  have := sumL_append (t.take k) (t.drop k)
  rw [List.take_append_drop] at this
  omega
theorem jp_len (t : List (List UInt8)) (k : Nat) : (jp t k).length ≤ sumL t + 2 * t.length := by
  have h1 := joinF_len (t.take k)
  have h2 := sumL_take t k
  rw [List.length_take] at h1
  show (joinF (t.take k)).length ≤ _
  omega
theorem jp_one (t : List (List UInt8)) (h : 0 < t.length) : jp t 1 = t.getD 0 [] := by
  cases t with
  | nil => simp at h
  | cons x t => rfl
theorem jp_succ (t : List (List UInt8)) (k : Nat) (h : k < t.length) (h0 : 0 < k) : jp t (k + 1) = jp t k ++ [44, 32] ++ t.getD k [] := by
  unfold jp
  rw [take_succ t k h]
  exact joinF_snoc _ _ (fun e => by
    have := congrArg List.length e
    rw [List.length_take, List.length_nil] at this
    omega)
theorem jp_all (t : List (List UInt8)) : jp t t.length = joinF t := by unfold jp; rw [List.take_length]

end Oc
end Go.Proofs.YticncpjpkgdnlaaGreatDoor
