/-
  The elements of several values are those of one with all of them, plain.
-/
import Derived.Test.YtojahhmdfbfnfabDoorFLs
set_option linter.unusedVariables false
set_option linter.unusedSimpArgs false
namespace Go.Proofs.YtojahhmdfbfnfabDoor
open Go.RowKit Go.Shelf
namespace Fd
open Oc Tg

theorem lst_blank : ∀ (m : Nat) (r cur : List UInt8), r.length ≤ m → lst (32 :: cur) r = lst cur r
  | m, [], cur, _ => by
    rw [lst_nil, lst_nil]
    unfold trim
    rw [trimL_cons, show blankB 32 = true by decide +kernel, if_pos rfl]
  | 0, c :: r, cur, h => by simp at h
  | m + 1, c :: r, cur, h => by
    have hl : r.length ≤ m := by simpa using h
    by_cases h44 : c = 44
    · rw [lst_comma _ _ _ h44, lst_comma _ _ _ h44]
      unfold trim
      rw [trimL_cons, show blankB 32 = true by decide +kernel, if_pos rfl]
    · by_cases h34 : c = 34
      · by_cases hq : qlen (c :: r) = 0
        · rw [lst_bad _ _ _ h34 hq, lst_bad _ _ _ h34 hq]
        · rw [lst_quote _ _ _ h34 hq, lst_quote _ _ _ h34 hq]
          have hd : ((c :: r).drop (qlen (c :: r))).length ≤ m := by
            rw [List.length_drop]
            simp
            omega
          exact lst_blank m _ _ hd
      · rw [lst_on _ _ _ h44 h34, lst_on _ _ _ h44 h34]
        exact lst_blank m r _ hl
theorem listR_blank (b : List UInt8) : listR (32 :: b) = listR b := by
  unfold listR
  rw [lst_on [] b 32 (by decide) (by decide), show ([] ++ [32] : List UInt8) = 32 :: [] from rfl, lst_blank b.length b [] (Nat.le_refl _)]
theorem listV_acc : ∀ (t acc : List (List UInt8)), (listV t acc).2 = (listV t []).2 ∧ ((listV t acc).2 = 0 → (listV t acc).1 = acc ++ (listV t []).1) ∧ ((listV t acc).2 ≠ 0 → (listV t acc).1 = [] ∧ (listV t acc).2 = 14)
  | [], acc => by simp [listV]
  | v :: r, acc => by
    unfold listV
    by_cases h : (listR v).2 = 0
    · rw [if_pos h, if_pos h]
      obtain ⟨a1, a2, a3⟩ := listV_acc r (acc ++ (listR v).1)
      obtain ⟨b1, b2, b3⟩ := listV_acc r ([] ++ (listR v).1)
      refine ⟨by rw [a1, b1], fun h0 => ?_, a3⟩
      rw [a2 h0, b2 (by rw [b1, ← a1]; exact h0)]
      simp
    · rw [if_neg h, if_neg h]
      refine ⟨rfl, fun h0 => absurd h0 h, fun _ => ⟨rfl, ?_⟩⟩
      rcases listR_err v with h1 | ⟨_, h1⟩
      · exact absurd h1 h
      · exact h1
theorem listV_bad14 (t : List (List UInt8)) (h : (listV t []).2 ≠ 0) : listV t [] = ([], 14) := by
  obtain ⟨h1, h2⟩ := (listV_acc t []).2.2 h
  exact Prod.ext h1 h2
theorem list_join : ∀ (t : List (List UInt8)), t ≠ [] → (listV t []).2 = 0 → listR (joinF t) = ((listV t []).1, 0)
  | [], h, _ => absurd rfl h
  | [x], _, h => by
    unfold listV at h ⊢
    by_cases hx : (listR x).2 = 0
    · rw [if_pos hx]
      show listR x = ([] ++ (listR x).1, 0)
      exact Prod.ext rfl hx
    · rw [if_neg hx] at h
      exact absurd h hx
  | x :: y :: r, _, h => by
    have ih := list_join (y :: r) (by simp)
    unfold listV at h ⊢
    by_cases hx : (listR x).2 = 0
    · rw [if_pos hx] at h ⊢
      obtain ⟨a1, a2, a3⟩ := listV_acc (y :: r) ([] ++ (listR x).1)
      have h0 : (listV (y :: r) []).2 = 0 := by rw [← a1]; exact h
      have ih := ih h0
      have hb : (listR (32 :: joinF (y :: r))).2 = 0 := by rw [listR_blank, ih]
      show listR (x ++ 44 :: (32 :: joinF (y :: r))) = _
      rw [listR_split hx hb, listR_blank, ih, a2 h]
      simp
    · rw [if_neg hx] at h
      exact absurd h hx
theorem vals_one (s v : List UInt8) : vals s [(s, v)] = [v] := by
  unfold vals
  rw [List.filter_cons, if_pos (by unfold alike; simp)]
  rfl

end Fd
end Go.Proofs.YtojahhmdfbfnfabDoor
