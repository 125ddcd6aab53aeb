/-
  Plain: other fields, and the case of names, have no part in what is decided.
-/
import Derived.Test.YtjngpafokkjkdaaGreatDoorTDu
set_option linter.unusedVariables false
set_option linter.unusedSimpArgs false
set_option maxRecDepth 100000
namespace Go.Proofs.YtjngpafokkjkdaaGreatDoor
namespace Tt
open Oc

def four : List (List UInt8) := [sMatch, sNone, sUnmod, sMod]
def mineB (n : List UInt8) : Bool := four.any fun s => decide (lower n = lower s)
def fewF (fs : List Fd.Fl) : List Fd.Fl := (fs.filter fun p => mineB p.1).map fun p => (lower p.1, p.2)

theorem lowB_idem (c : UInt8) : lowB (lowB c) = lowB c := by
  have h : ∀ n : Nat, n < 256 → lowB (lowB (UInt8.ofNat n)) = lowB (UInt8.ofNat n) := by decide +kernel
  have := h c.toNat c.toNat_lt
  rwa [UInt8.ofNat_toNat] at this
theorem lower_idem (l : List UInt8) : lower (lower l) = lower l := by
  unfold lower; rw [List.map_map]; exact List.map_congr_left fun c _ => lowB_idem c
theorem mine_of {s n : List UInt8} (hs : s ∈ four) (h : lower n = lower s) : mineB n = true := by
  unfold mineB
  rw [List.any_eq_true]
  exact ⟨s, hs, decide_eq_true h⟩
theorem vals_few (s : List UInt8) (hs : s ∈ four) (fs : List Fd.Fl) : Fd.vals s (fewF fs) = Fd.vals s fs := by
  unfold Fd.vals fewF
  induction fs with
  | nil => rfl
  | cons p t ih =>
    cases hm : mineB p.1 with
    | true =>
      rw [List.filter_cons_of_pos (by exact hm), List.map_cons]
      have e : Fd.alike s (lower p.1, p.2) = Fd.alike s p := by unfold Fd.alike; rw [lower_idem]
      cases ha : Fd.alike s p with
      | true =>
        rw [List.filter_cons_of_pos (by rw [e]; exact ha), List.filter_cons_of_pos (by exact ha), List.map_cons, List.map_cons, ih]
      | false =>
        rw [List.filter_cons_of_neg (by rw [e, ha]; decide), List.filter_cons_of_neg (by rw [ha]; decide), ih]
    | false =>
      have ha : Fd.alike s p = false := by
        cases ha : Fd.alike s p with
        | false => rfl
        | true =>
          have := mine_of hs (of_decide_eq_true ha)
          rw [hm] at this
          cases this
      rw [List.filter_cons_of_neg (by rw [hm]; decide), List.filter_cons_of_neg (by rw [ha]; decide), ih]
theorem has_vals (s : List UInt8) (fs : List Fd.Fl) : hasF s fs = decide (Fd.vals s fs ≠ []) := by
  unfold hasF Fd.findF Fd.vals
  induction fs with
  | nil => rfl
  | cons p t ih =>
    cases ha : Fd.alike s p with
    | true => rw [List.find?_cons_of_pos ha, List.filter_cons_of_pos ha]; rfl
    | false => rw [List.find?_cons_of_neg (by rw [ha]; decide), List.filter_cons_of_neg (by rw [ha]; decide)]; exact ih
theorem has_few (s : List UInt8) (hs : s ∈ four) (fs : List Fd.Fl) : hasF s (fewF fs) = hasF s fs := by
  rw [has_vals, has_vals, vals_few s hs]
theorem decide_few (m : List UInt8) (fs : List Fd.Fl) (s : St) (now : Int) : decideV m (fewF fs) s now = decideV m fs s now := by
  have h1 := vals_few sMatch (by decide) fs
  have h2 := vals_few sNone (by decide) fs
  have h3 := vals_few sUnmod (by decide) fs
  have h4 := vals_few sMod (by decide) fs
  have k1 := has_few sMatch (by decide) fs
  have k2 := has_few sNone (by decide) fs
  unfold decideV matchV unmodV noneV modV meetsF dateV
  rw [h1, h2, h3, h4, k1, k2]
theorem decide_three (m : List UInt8) (fs : List Fd.Fl) (s : St) (now : Int) : decideV m fs s now = 0 ∨ decideV m fs s now = 412 ∨ (decideV m fs s now = 304 ∧ readsM m = true) := by
  have a : matchV fs s = 0 ∨ matchV fs s = 412 := by unfold matchV; split; exact .inr rfl; exact .inl rfl
  have u : unmodV fs s now = 0 ∨ unmodV fs s now = 412 := by unfold unmodV; split; exact .inr rfl; exact .inl rfl
  have b : noneV m fs s = 0 ∨ noneV m fs s = 412 ∨ (noneV m fs s = 304 ∧ readsM m = true) := by
    unfold noneV
    split
    · split
      · rename_i h; exact .inr (.inr ⟨rfl, h⟩)
      · exact .inr (.inl rfl)
    · exact .inl rfl
  have d : modV m fs s now = 0 ∨ (modV m fs s now = 304 ∧ readsM m = true) := by
    unfold modV
    split
    · rename_i h
      refine .inr ⟨rfl, ?_⟩
      rw [Bool.and_eq_true, Bool.and_eq_true, Bool.and_eq_true] at h
      exact h.2.2.1
    · exact .inl rfl
  unfold decideV decideG
  rcases a with a | a
  · rw [a, if_neg (fun h => h rfl)]
    rcases u with u | u
    · rw [u, if_neg (fun h => h rfl)]
      rcases b with b | b | b
      · rw [b, if_neg (fun h => h rfl)]
        rcases d with d | d
        · exact .inl d
        · exact .inr (.inr d)
      · rw [b, if_pos (by decide)]; exact .inr (.inl rfl)
      · rw [b.1, if_pos (by decide)]; exact .inr (.inr ⟨rfl, b.2⟩)
    · rw [u, if_pos (by decide)]; exact .inr (.inl rfl)
  · rw [a, if_pos (by decide)]; exact .inr (.inl rfl)
theorem decide_nil (m : List UInt8) (s : St) (now : Int) : decideV m [] s now = 0 := by
  have e1 : (listT []).1 = [] := by decide +kernel
  have e2 : (listT []).2.1 = false := by decide +kernel
  have v : ∀ n, Fd.vals n [] = [] := fun n => rfl
  have h : ∀ n, hasF n [] = false := fun n => rfl
  have j : joinF [] = [] := by decide +kernel
  have dt : ∀ n, (dateV n [] s now).2 = false := by
    intro n
    unfold dateV
    rw [v]
    rfl
  unfold decideV matchV unmodV noneV modV meetsF meetsV
  rw [dt sUnmod, dt sMod, v sMatch, v sNone, h sMatch, j, e1, e2]
  simp [decideG]
theorem few_sum (fs : List Fd.Fl) : Fd.sumF (fewF fs) ≤ Fd.sumF fs := by
  unfold Fd.sumF fewF
  induction fs with
  | nil => exact Nat.le_refl _
  | cons p t ih =>
    cases hm : mineB p.1 with
    | true =>
      rw [List.filter_cons_of_pos (by exact hm)]
      simp only [List.map_cons, List.sum_cons]
      have e : Fd.szF (lower p.1, p.2) = Fd.szF p := by simp [Fd.szF, lower]
      rw [e]
      omega
    | false =>
      rw [List.filter_cons_of_neg (by rw [hm]; decide)]
      simp only [List.map_cons, List.sum_cons]
      omega
theorem few_take (fs : List Fd.Fl) (k : Nat) (h : k < fs.length) : fewF (fs.take (k + 1)) = fewF (fs.take k) ++ (if mineB (Fd.nth fs k).1 then [(lower (Fd.nth fs k).1, (Fd.nth fs k).2)] else []) := by
  unfold fewF Fd.nth
  rw [List.take_succ_eq_append_getElem h, List.filter_append, List.map_append, List.getD_eq_getElem?_getD, List.getElem?_eq_getElem h]
  congr 1
  cases hm : mineB fs[k].1 with
  | true => rw [List.filter_cons_of_pos (by exact hm)]; simp [hm]
  | false => rw [List.filter_cons_of_neg (by rw [hm]; decide)]; simp [hm]

end Tt
end Go.Proofs.YtjngpafokkjkdaaGreatDoor
