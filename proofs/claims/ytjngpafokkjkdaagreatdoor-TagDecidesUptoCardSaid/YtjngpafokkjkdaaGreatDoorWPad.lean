/-
  Numbers in so many digits.
-/
import Derived.Test.YtjngpafokkjkdaaGreatDoorPFo
import Derived.Test.YtjngpafokkjkdaaGreatDoorWPlain4
set_option linter.unusedVariables false
set_option linter.unusedSimpArgs false
namespace Go.Proofs.YtjngpafokkjkdaaGreatDoor
open Go.RowKit Go.Shelf
open Go.Sort (grow)
namespace Bs

theorem dec1 {n : Nat} (h : n < 10) : Lib.decDigits n = [dg n] := by
  rw [Lib.decDigits, dif_pos h]
  unfold dg
  rw [Nat.mod_eq_of_lt h]
theorem dec_step {n : Nat} (h : 10 ≤ n) : Lib.decDigits n = Lib.decDigits (n / 10) ++ [dg n] := by
  conv => lhs; rw [Lib.decDigits, dif_neg (by omega)]
  rfl
theorem dec2 {n : Nat} (h : 10 ≤ n) (h2 : n < 100) : Lib.decDigits n = d2 n := by
  rw [dec_step h, dec1 (by omega)]
  rfl
theorem dec3 {n : Nat} (h : 100 ≤ n) (h2 : n < 1000) : Lib.decDigits n = [dg (n / 100), dg (n / 10), dg n] := by
  rw [dec_step (by omega), dec2 (by omega) (by omega)]
  unfold d2
  rw [Nat.div_div_eq_div_mul]
  rfl
theorem dec4 {n : Nat} (h : 1000 ≤ n) (h2 : n < 10000) : Lib.decDigits n = d4 n := by
  rw [dec_step (by omega), dec3 (by omega) (by omega)]
  unfold d4
  rw [Nat.div_div_eq_div_mul, Nat.div_div_eq_div_mul]
  rfl
theorem dg_zero {n : Nat} (h : n = 0) : dg n = 48 := by subst h; rfl

theorem d4_pad {n : Nat} (h : n < 10000) : List.replicate (4 - (Lib.decDigits n).length) 48 ++ Lib.decDigits n = d4 n ∧ 1 ≤ (Lib.decDigits n).length ∧ (Lib.decDigits n).length ≤ 4 := by
  rcases (by omega : n < 10 ∨ (10 ≤ n ∧ n < 100) ∨ (100 ≤ n ∧ n < 1000) ∨ 1000 ≤ n) with h1 | ⟨h1, h2⟩ | ⟨h1, h2⟩ | h1
  · rw [dec1 h1]
    unfold d4
    rw [dg_zero (n := n / 1000) (by omega), dg_zero (n := n / 100) (by omega), dg_zero (n := n / 10) (by omega)]
    exact ⟨rfl, by simp, by simp⟩
  · rw [dec2 h1 h2]
    unfold d4 d2
    rw [dg_zero (n := n / 1000) (by omega), dg_zero (n := n / 100) (by omega)]
    exact ⟨rfl, by simp, by simp⟩
  · rw [dec3 h1 h2]
    unfold d4
    rw [dg_zero (n := n / 1000) (by omega)]
    exact ⟨rfl, by simp, by simp⟩
  · rw [dec4 h1 h]
    exact ⟨rfl, by simp [d4], by simp [d4]⟩

end Bs
end Go.Proofs.YtjngpafokkjkdaaGreatDoor
