/-
  Plain: a path up to its last slash; where a reference leads to.
-/
import Derived.Test.YtpoefoepmigbeaaDoorGPl4
set_option linter.unusedVariables false
set_option linter.unusedSimpArgs false
namespace Go.Proofs.YtpoefoepmigbeaaDoor
namespace Tg

def dirL (p : List UInt8) : List UInt8 := (p.reverse.dropWhile (· != 47)).reverse
def resR (p r : List UInt8) : List UInt8 × Int := if isPath p then (if r = [] then normR p else if r.head? = some 47 then normR r else normR (dirL p ++ r)) else ([], 53)
theorem dirL_eq (a b : List UInt8) (h : 47 ∉ b) : dirL (a ++ 47 :: b) = a ++ [47] := by
  unfold dirL
  rw [List.reverse_append, List.reverse_cons, List.append_assoc]
  rw [List.dropWhile_append_of_pos (by intro x hx; simp; intro e; exact h (by rw [← e]; simpa using hx))]
  simp
theorem allOk_nil (ok : UInt8 → Bool) : allOk ok [] = true := by unfold allOk; rw [zs_nil]; rfl
theorem path_split (a b : List UInt8) (h : allOk pathOk (a ++ 47 :: b) = true) : allOk pathOk (a ++ [47]) = true ∧ whole (a ++ [47]) = true ∧ allOk pathOk b = true := by
  have hw := whole_of pathOk path37 _ h
  have ha := whole_left a b hw
  have w47 : whole [47] = true := by unfold whole; rw [zs_one 47 [] rfl, zs_nil]; rfl
  have o47 : allOk pathOk [47] = true := by unfold allOk; rw [zs_one 47 [] rfl, zs_nil]; decide +kernel
  have e : a ++ 47 :: b = a ++ ([47] ++ b) := by simp
  rw [e, allOk_append _ _ _ ha, allOk_append _ _ _ w47, Bool.and_eq_true, Bool.and_eq_true] at h
  refine ⟨?_, ?_, h.2.2⟩
  · rw [allOk_append _ _ _ ha, h.1, o47]; rfl
  · rw [whole_append _ _ ha]; exact w47
theorem res_bad (a b r : List UInt8) (h : allOk pathOk (a ++ 47 :: b) = true) (hb : 47 ∉ b) (hr : allOk pathOk r = false) : isPath (dirL (a ++ 47 :: b) ++ r) = false := by
  obtain ⟨h1, h2, _⟩ := path_split a b h
  rw [dirL_eq a b hb]
  unfold isPath
  rw [allOk_append _ _ _ h2, hr, Bool.and_false, Bool.and_false]

end Tg
end Go.Proofs.YtpoefoepmigbeaaDoor
