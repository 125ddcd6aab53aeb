/-
  Qualities printed, plainly.
-/
import Derived.Test.YthaokkdcebmcpaaDoorAPl
import Derived.Test.YthaokkdcebmcpaaDoorDig
import Derived.Lib.TrimByte
set_option linter.unusedVariables false
set_option linter.unusedSimpArgs false
namespace Go.Proofs.YthaokkdcebmcpaaDoor
namespace Ac
open Oc Tg

def dgt (n : Nat) : UInt8 := UInt8.ofNat (48 + n)
/-- Three digits behind the dot. -/
def three (q : Nat) : List UInt8 := [dgt (q % 1000 / 100), dgt (q % 1000 / 10 % 10), dgt (q % 1000 % 10)]
/-- A quality as text, as the program makes it. -/
def pq (q : Nat) : List UInt8 := Lib.trimSuffix ([dgt (q / 1000)] ++ [46] ++ Lib.trimRightB (three q) 48) [46]
/-- Zeros at the end left out, one after the other. -/
def five (q : Nat) : List UInt8 := [48, 46, dgt (q / 100), dgt (q / 10 % 10), dgt (q % 10)]
def okQ (q : Nat) : Bool :=
  decide (qual (pq q) = ((q : Int), 0)) && !(pq q).isEmpty && decide (qual ((pq q).take ((pq q).length - 1)) ≠ ((q : Int), 0)) &&
  (if q % 1000 = 0 then decide (pq q = [dgt (q / 1000)]) else decide (pq q = (Lib.trimRightB (five q) 48)) && decide (2 ≤ (Lib.trimRightB (five q) 48).length)) && decide ((pq q).length ≤ 5)

set_option maxRecDepth 100000 in
theorem okQ_all : (List.range 1001).all okQ = true := by decide +kernel
theorem okQ_at (q : Nat) (h : q ≤ 1000) : okQ q = true := List.all_eq_true.1 okQ_all q (by simp; omega)
theorem pq_facts (q : Nat) (h : q ≤ 1000) : qual (pq q) = ((q : Int), 0) ∧ pq q ≠ [] ∧ qual ((pq q).take ((pq q).length - 1)) ≠ ((q : Int), 0) ∧ (q % 1000 = 0 → pq q = [dgt (q / 1000)]) ∧ (q % 1000 ≠ 0 → pq q = Lib.trimRightB (five q) 48) ∧ (pq q).length ≤ 5 := by
  have hk := okQ_at q h
  unfold okQ at hk
  rw [Bool.and_eq_true, Bool.and_eq_true, Bool.and_eq_true, Bool.and_eq_true] at hk
  obtain ⟨⟨⟨⟨a, b⟩, c⟩, d⟩, e⟩ := hk
  refine ⟨of_decide_eq_true a, (fun hn => by rw [hn] at b; cases b), of_decide_eq_true c, fun h0 => ?_, fun h0 => ?_, of_decide_eq_true e⟩
  · rw [if_pos h0] at d
    exact of_decide_eq_true d
  · rw [if_neg h0, Bool.and_eq_true] at d
    exact of_decide_eq_true d.1
def mq (q : Nat) : Nat := (Lib.trimRightB (five q) 48).length
def okF (q : Nat) : Bool := decide (q % 1000 = 0) || (decide (2 ≤ mq q) && decide (mq q ≤ 5) && decide (Lib.trimRightB (five q) 48 = (five q).take (mq q)) && (List.range 5).all (fun j => decide (j < mq q) || decide ((five q).getD j 0 = 48)) && decide ((five q).getD (mq q - 1) 0 ≠ 48))
set_option maxRecDepth 100000 in
theorem okF_all : (List.range 1001).all okF = true := by decide +kernel
theorem mq_facts (q : Nat) (h : q ≤ 1000) (h0 : q % 1000 ≠ 0) : 2 ≤ mq q ∧ mq q ≤ 5 ∧ Lib.trimRightB (five q) 48 = (five q).take (mq q) ∧ (∀ j, mq q ≤ j → j < 5 → (five q).getD j 0 = 48) ∧ (five q).getD (mq q - 1) 0 ≠ 48 := by
  have hk := List.all_eq_true.1 okF_all q (by simp; omega)
  unfold okF at hk
  rw [decide_eq_false h0, Bool.false_or, Bool.and_eq_true, Bool.and_eq_true, Bool.and_eq_true, Bool.and_eq_true] at hk
  obtain ⟨⟨⟨⟨a, b⟩, c⟩, d⟩, e⟩ := hk
  refine ⟨of_decide_eq_true a, of_decide_eq_true b, of_decide_eq_true c, fun j h1 h2 => ?_, of_decide_eq_true e⟩
  have := List.all_eq_true.1 d j (by simp; omega)
  rw [decide_eq_false (by omega), Bool.false_or] at this
  exact of_decide_eq_true this
theorem itoa_one (d : Nat) (h : d < 10) : Lib.itoa (d : Int) = [dgt d] := by
  unfold Lib.itoa
  rw [if_neg (by omega)]
  simp only [Int.toNat_natCast]
  exact Lib.decDigits_one h
theorem itoa_four (r : Nat) (h : r < 1000) : Lib.itoa (1000 + (r : Int)) = 49 :: [dgt (r / 100), dgt (r / 10 % 10), dgt (r % 10)] := by
  unfold Lib.itoa
  rw [if_neg (by omega), show (1000 + (r : Int)).toNat = 1000 + r by omega]
  have e : ∀ u, u ≠ 0 → decD u = Lib.decDigits u := fun u hu => by unfold decD; rw [if_neg hu]
  rw [← e _ (by omega), decD_step _ (by omega), decD_step _ (by omega), decD_step _ (by omega), decD_step _ (by omega)]
  have z : decD ((1000 + r) / 10 / 10 / 10 / 10) = [] := by unfold decD; rw [if_pos (by omega)]
  rw [z]
  show [UInt8.ofNat (48 + (1000 + r) / 10 / 10 / 10 % 10), UInt8.ofNat (48 + (1000 + r) / 10 / 10 % 10), UInt8.ofNat (48 + (1000 + r) / 10 % 10), UInt8.ofNat (48 + (1000 + r) % 10)] = _
  rw [show (1000 + r) / 10 / 10 / 10 % 10 = 1 by omega, show (1000 + r) / 10 / 10 % 10 = r / 100 by omega, show (1000 + r) / 10 % 10 = r / 10 % 10 by omega, show (1000 + r) % 10 = r % 10 by omega]
  rfl

end Ac
end Go.Proofs.YthaokkdcebmcpaaDoor
