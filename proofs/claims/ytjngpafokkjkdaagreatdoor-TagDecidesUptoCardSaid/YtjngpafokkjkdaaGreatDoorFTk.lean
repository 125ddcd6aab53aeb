/-
  field: Tokens, Has.
-/
import Derived.Test.YtjngpafokkjkdaaGreatDoorFLs
set_option linter.unusedVariables false
set_option linter.unusedSimpArgs false
namespace Go.Proofs.YtjngpafokkjkdaaGreatDoor
open Go.RowKit Go.Shelf
namespace Fd
open Oc Tg

def tokV (L : List (List UInt8)) : List (List UInt8) × Int := if L.all isTok then (L.map lower, 0) else ([], 10)
def tokensF (s : List UInt8) (t : List Fl) : List (List UInt8) × Int := if (listF s t).2 = 0 then tokV (listF s t).1 else ([], (listF s t).2)
theorem listV_short (M : Nat) : ∀ (T acc : List (List UInt8)), (∀ x ∈ acc, x.length ≤ M) → (∀ x ∈ T, x.length ≤ M) → ∀ x ∈ (listV T acc).1, x.length ≤ M
  | [], acc, ha, _, x, hx => ha x hx
  | v :: r, acc, ha, hT, x, hx => by
    unfold listV at hx
    split at hx
    · refine listV_short M r _ (fun y hy => ?_) (fun y hy => hT y (by simp [hy])) x hx
      rcases List.mem_append.1 hy with h | h
      · exact ha y h
      · exact Nat.le_trans ((listR_short v).2 y h) (hT v (by simp))
    · simp at hx
theorem listV_len : ∀ (T acc : List (List UInt8)), (listV T acc).1.length ≤ acc.length + sumV T
  | [], acc => by simp [listV, sumV]
  | x :: T, acc => by
    unfold listV
    split
    · have := listV_len T (acc ++ (listR x).1)
      have h2 := (listR_short x).1
      simp only [sumV, List.map_cons, List.sum_cons, List.length_append] at this ⊢
      omega
    · simp
theorem vals_short {M : Nat} {t : List Fl} (h : Each M t) (s : List UInt8) : ∀ x ∈ vals s t, x.length ≤ M := fun x hx => by
  unfold vals at hx
  obtain ⟨p, hp, rfl⟩ := List.mem_map.1 hx
  exact (h.filter _ p hp).2
def lowd (L : List (List UInt8)) (k : Nat) : List (List UInt8) := (L.take k).map lower ++ L.drop k
theorem lowd_len (L : List (List UInt8)) (k : Nat) : (lowd L k).length = L.length := by unfold lowd; simp; omega
theorem lowd_at (L : List (List UInt8)) (k : Nat) (h : k < L.length) : (lowd L k).getD k [] = L.getD k [] := by
  unfold lowd
  have hl : ((L.take k).map lower).length = k := by simp; omega
  rw [List.getD_eq_getElem?_getD, List.getD_eq_getElem?_getD, List.getElem?_append_right (by omega), hl, Nat.sub_self, List.getElem?_drop]
  simp
theorem lowd_set (L : List (List UInt8)) (k : Nat) (h : k < L.length) : (lowd L k).set k (lower (L.getD k [])) = lowd L (k + 1) := by
  unfold lowd
  have hl : ((L.take k).map lower).length = k := by simp; omega
  have e : L.take (k + 1) = L.take k ++ [L.getD k []] := by
    rw [List.take_add_one, List.getElem?_eq_getElem h, List.getD_eq_getElem?_getD, List.getElem?_eq_getElem h]; rfl
  rw [List.set_append, if_neg (by omega), hl, Nat.sub_self, dropS L k h, List.set_cons_zero, e, List.map_append]
  simp
theorem lowS_str (x : List UInt8) : lowS (str x) = str (lower x) := by unfold lowS; rw [str_list]

end Fd
end Go.Proofs.YtjngpafokkjkdaaGreatDoor
