/-
  target: the pairs of a query, plain.
-/
import Derived.Test.YtpoefoepmigbeaaDoorGPl4
import Derived.Lib.Replace
import Derived.Lib.CountLaws
set_option linter.unusedVariables false
set_option linter.unusedSimpArgs false
namespace Go.Proofs.YtpoefoepmigbeaaDoor
namespace Tg
open Oc

def sp (c : UInt8) : UInt8 := if c = 43 then 32 else c
def spd (l : List UInt8) : List UInt8 := (decR (l.map sp)).1
/-- A pair, as its cells say it: name, value, has. -/
def pairR (l : List UInt8) : List UInt8 × List UInt8 × Bool := (spd (cutA 61 l), spd (cutB 61 l), has 61 l)
def pairsR (l : List UInt8) : List (List UInt8 × List UInt8 × Bool) := ((splitB 38 l).filter fun z => decide (z ≠ [])).map pairR

theorem sp_none (b : UInt8) : ∀ l : List UInt8, has 43 l = false → l.map sp = l := by
  intro l h
  have h2 : ∀ c ∈ l, c ≠ 43 := by
    intro c hc e
    subst e
    unfold has at h
    rw [List.contains_iff_mem.2 hc] at h
    cases h
  conv => rhs; rw [← List.map_id l]
  refine List.map_congr_left fun c hc => ?_
  unfold sp
  rw [if_neg (h2 c hc)]
  rfl
theorem cutA_no (b : UInt8) (l : List UInt8) : has b (cutA b l) = false := by
  unfold has cutA
  induction l with
  | nil => rfl
  | cons c t ih =>
    rw [List.takeWhile_cons]
    by_cases h : c = b
    · subst h; simp
    · rw [if_pos (by simpa using h), List.contains_cons, ih, show (b == c) = false from by simpa using fun e : b = c => h e.symm]
      rfl

theorem replace_go : ∀ (n : Nat) (l : List UInt8), l.length ≤ n → Lib.replaceK [43] [32] (Lib.count l [43]) l = l.map sp := by
  intro n
  induction n with
  | zero =>
    intro l hl
    obtain rfl : l = [] := List.length_eq_zero_iff.1 (by omega)
    rfl
  | succ n ih =>
    intro l hl
    have hi := index_one 43 l
    cases h : has 43 l with
    | false =>
      rw [h, if_neg (by simp)] at hi
      rw [Lib.count_miss hi, sp_none 43 l h]
      rfl
    | true =>
      rw [h, if_pos rfl] at hi
      rw [Lib.count_hit (by simp) hi, Nat.add_comm 1, Lib.replaceK_hit _ _ _ _ _ hi]
      have e := cut_app 43 l h
      have hA := cutA_no 43 l
      generalize cutA 43 l = A at *
      generalize cutB 43 l = B at *
      subst e
      have e1 : (A ++ 43 :: B).drop (A.length + 1) = B := by
        rw [List.drop_append]
        simp
      have e2 : (A ++ 43 :: B).take A.length = A := by simp
      rw [show ([43] : List UInt8).length = 1 from rfl, e1, e2, ih B (by simp at hl; omega), List.map_append, List.map_cons, sp_none 43 A hA]
      simp [sp]
theorem replace_sp (l : List UInt8) : Lib.replaceAll l [43] [32] = l.map sp := by
  unfold Lib.replaceAll Lib.replace Lib.replaceNum
  rw [if_neg (by decide), if_pos (Or.inl (by decide))]
  exact replace_go l.length l (Nat.le_refl _)

end Tg
end Go.Proofs.YtpoefoepmigbeaaDoor
