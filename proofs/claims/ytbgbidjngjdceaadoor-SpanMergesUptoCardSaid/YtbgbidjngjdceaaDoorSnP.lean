/-
  span, plainly: what a range header asks for.
-/
import Derived.Test.YtbgbidjngjdceaaDoorSnA
set_option linter.unusedVariables false
set_option linter.unusedSimpArgs false
namespace Go.Proofs.YtbgbidjngjdceaaDoor
open Go.RowKit Go.Shelf
namespace Sn
open Oc Tg Ac

theorem numOf_nonneg : ∀ (l : List UInt8) (n : Int), 0 ≤ n → 0 ≤ l.foldl (fun n c => n * 10 + valI (c.toNat : Int)) n
  | [], n, h => h
  | c :: l, n, h => by
    rw [List.foldl_cons]
    refine numOf_nonneg l _ ?_
    have := (valI_bd (c := (c.toNat : Int)) (by omega)).1
    omega
theorem numR_bd (l : List UInt8) (m : Int) (hm : 0 ≤ m) : 0 ≤ (numR 10 l m).1 ∧ (numR 10 l m).1 ≤ m ∧ ((numR 10 l m).2 = 0 ∨ (numR 10 l m).2 = 11 ∨ (numR 10 l m).2 = 12) := by
  unfold numR
  split
  · exact ⟨Int.le_refl _, hm, .inr (.inl rfl)⟩
  · split
    · exact ⟨Int.le_refl _, hm, .inr (.inr rfl)⟩
    · rename_i h
      exact ⟨numOf_nonneg l 0 (Int.le_refl _), by show numOf 10 l ≤ m; omega, .inl rfl⟩

/-- The number that digits say, as far as it counts. -/
def cnt (l : List UInt8) : Int × Bool := if (numR 10 l 4611686018427387904).2 = 12 then (4611686018427387904, true) else ((numR 10 l 4611686018427387904).1, decide ((numR 10 l 4611686018427387904).2 = 0))
theorem cnt_bd (l : List UInt8) : 0 ≤ (cnt l).1 ∧ (cnt l).1 ≤ 4611686018427387904 := by
  unfold cnt
  have := numR_bd l 4611686018427387904 (by omega)
  split <;> dsimp only <;> omega
/-- What an element asks for; whether it is one. -/
def askP (l : List UInt8) (size : Int) : Sp × Bool :=
  if has 45 l = false then ((0, 0), false)
  else if cutA 45 l = [] then ((size - (cnt (cutB 45 l)).1, size), (cnt (cutB 45 l)).2)
  else if cutB 45 l = [] then (((cnt (cutA 45 l)).1, size), (cnt (cutA 45 l)).2)
  else (((cnt (cutA 45 l)).1, (cnt (cutB 45 l)).1 + 1), ((cnt (cutA 45 l)).2 && (cnt (cutB 45 l)).2) && decide ((cnt (cutA 45 l)).1 ≤ (cnt (cutB 45 l)).1))
/-- What of a span lies in a body. -/
def wth (x : Sp) (size : Int) : Sp := (max x.1 0, min x.2 size)
def emp (x : Sp) : Bool := decide (x.2 ≤ x.1)
/-- The elements behind the unit; whether there are any. -/
def elR (l : List UInt8) : List (List UInt8) × Bool := if lower (cutA 61 l) = [98, 121, 116, 101, 115] then ((listR (cutB 61 l)).1, decide ((listR (cutB 61 l)).2 = 0) && decide (0 < (listR (cutB 61 l)).1.length)) else ([], false)
def keepN (size : Int) (x : List UInt8) : Option Sp := if emp (wth (askP x size).1 size) then none else some (wth (askP x size).1 size)
def ansR (size : Int) (t : List (List UInt8)) : List Sp × Int := if t.all (fun x => (askP x size).2) then (if (t.filterMap (keepN size)).length = 0 then ([], 91) else (t.filterMap (keepN size), 0)) else ([], 90)
/-- What a range header says. -/
def parR (l : List UInt8) (size : Int) : List Sp × Int := if size < 0 then ([], 1) else if (elR l).2 = false then ([], 90) else ansR size (elR l).1

theorem ansR_bad {size : Int} {t : List (List UInt8)} (k : Nat) (hk : k < t.length) (h : (askP (t.getD k []) size).2 = false) : ansR size t = ([], 90) := by
  unfold ansR
  rw [if_neg]
  intro hall
  rw [List.all_eq_true] at hall
  have := hall (t.getD k []) (by rw [List.getD_eq_getElem?_getD, List.getElem?_eq_getElem hk]; exact List.getElem_mem _)
  rw [h] at this
  cases this
theorem all_getD {t : List (List UInt8)} {p : List UInt8 → Bool} (h : ∀ j, j < t.length → p (t.getD j []) = true) : t.all p = true := by
  rw [List.all_eq_true]
  intro x hx
  obtain ⟨k, hk, rfl⟩ := List.mem_iff_getElem.1 hx
  have := h k hk
  rw [List.getD_eq_getElem?_getD, List.getElem?_eq_getElem hk] at this
  exact this
theorem ansR_ok {size : Int} {t : List (List UInt8)} (h : ∀ j, j < t.length → (askP (t.getD j []) size).2 = true) : ansR size t = (if (t.filterMap (keepN size)).length = 0 then ([], 91) else (t.filterMap (keepN size), 0)) := by
  unfold ansR
  rw [if_pos (all_getD (p := fun x => (askP x size).2) h)]
theorem take_keep (size : Int) (t : List (List UInt8)) (k : Nat) (hk : k < t.length) : (t.take (k + 1)).filterMap (keepN size) = (t.take k).filterMap (keepN size) ++ (keepN size (t.getD k [])).toList := by
  rw [List.take_succ_eq_append_getElem hk, List.filterMap_append, List.getD_eq_getElem?_getD, List.getElem?_eq_getElem hk]
  simp [List.filterMap_cons]
  cases keepN size t[k] <;> rfl
theorem keep_len (size : Int) (t : List (List UInt8)) (k : Nat) : ((t.take k).filterMap (keepN size)).length ≤ k := by
  have h := List.length_filterMap_le (keepN size) (t.take k)
  rw [List.length_take] at h
  omega

/-- What the document has of an element: a span, whether it can be met, whether it is one. -/
def oneR (l : List UInt8) (size : Int) : Sp × Bool × Bool :=
  if has 45 l = false then ((0, 0), false, false)
  else if cutA 45 l = [] then (if (cnt (cutB 45 l)).2 = false then ((0, 0), false, false) else ((if size - (cnt (cutB 45 l)).1 < 0 then 0 else size - (cnt (cutB 45 l)).1, size), decide (0 < size) && decide (0 < (cnt (cutB 45 l)).1), true))
  else if (cnt (cutA 45 l)).2 = false ∨ (cutB 45 l ≠ [] ∧ ((cnt (cutB 45 l)).2 = false ∨ (cnt (cutB 45 l)).1 < (cnt (cutA 45 l)).1)) then ((0, 0), false, false)
  else (((cnt (cutA 45 l)).1, if cutB 45 l ≠ [] ∧ (cnt (cutB 45 l)).1 < size then (cnt (cutB 45 l)).1 + 1 else size), decide ((cnt (cutA 45 l)).1 < size), true)
theorem oneR_ok (l : List UInt8) (size : Int) : (oneR l size).2.2 = (askP l size).2 := by
  unfold oneR askP
  by_cases h1 : has 45 l = false
  · rw [if_pos h1, if_pos h1]
  rw [if_neg h1, if_neg h1]
  by_cases h2 : cutA 45 l = []
  · rw [if_pos h2, if_pos h2]
    by_cases h3 : (cnt (cutB 45 l)).2 = false
    · rw [if_pos h3, h3]
    · rw [if_neg h3]
      simp at h3
      rw [h3]
  rw [if_neg h2, if_neg h2]
  by_cases h4 : cutB 45 l = []
  · rw [if_pos h4]
    cases h5 : (cnt (cutA 45 l)).2 with
    | false => rw [if_pos (.inl rfl)]
    | true => rw [if_neg]; rintro (h | ⟨h, _⟩); cases h; exact h h4
  · rw [if_neg h4]
    cases h5 : (cnt (cutA 45 l)).2 with
    | false => rw [if_pos (.inl rfl)]; rfl
    | true =>
      cases h6 : (cnt (cutB 45 l)).2 with
      | false => rw [if_pos (.inr ⟨h4, .inl rfl⟩)]; rfl
      | true =>
        by_cases h7 : (cnt (cutB 45 l)).1 < (cnt (cutA 45 l)).1
        · rw [if_pos (.inr ⟨h4, .inr h7⟩)]
          simp; omega
        · rw [if_neg]
          · simp; omega
          · rintro (h | ⟨_, h | h⟩)
            · cases h
            · cases h
            · exact h7 h
theorem oneR_keep (l : List UInt8) (size : Int) (h0 : 0 ≤ size) (h : (askP l size).2 = true) : (if (oneR l size).2.1 then some (oneR l size).1 else none) = keepN size l := by
  obtain ⟨a0, a1⟩ := cnt_bd (cutA 45 l)
  obtain ⟨b0, b1⟩ := cnt_bd (cutB 45 l)
  unfold keepN emp wth
  by_cases h1 : has 45 l = false
  · unfold askP at h; rw [if_pos h1] at h; cases h
  by_cases h2 : cutA 45 l = []
  · have e2 : askP l size = ((size - (cnt (cutB 45 l)).1, size), (cnt (cutB 45 l)).2) := by unfold askP; rw [if_neg h1, if_pos h2]
    rw [e2] at h ⊢
    have e1 : oneR l size = ((if size - (cnt (cutB 45 l)).1 < 0 then 0 else size - (cnt (cutB 45 l)).1, size), decide (0 < size) && decide (0 < (cnt (cutB 45 l)).1), true) := by
      unfold oneR; rw [if_neg h1, if_pos h2, if_neg (by rw [h]; simp)]
    rw [e1]
    dsimp only at h ⊢
    generalize (cnt (cutB 45 l)).1 = c at *
    by_cases h3 : 0 < size
    · by_cases h4 : 0 < c
      · rw [if_pos (by simp [h3, h4]), if_neg (show ¬ decide (min size size ≤ max (size - c) 0) = true by simp; omega)]
        congr 2
        · rw [Int.max_def]; split <;> split <;> omega
        · simp
      · rw [if_neg (by simp [h4]), if_pos (by simp; omega)]
    · rw [if_neg (by simp [h3]), if_pos (by simp; omega)]
  by_cases h4 : cutB 45 l = []
  · have e2 : askP l size = (((cnt (cutA 45 l)).1, size), (cnt (cutA 45 l)).2) := by unfold askP; rw [if_neg h1, if_neg h2, if_pos h4]
    rw [e2] at h ⊢
    have e1 : oneR l size = (((cnt (cutA 45 l)).1, size), decide ((cnt (cutA 45 l)).1 < size), true) := by
      unfold oneR
      rw [if_neg h1, if_neg h2, if_neg (by rintro (h' | h'); (rw [h] at h'; cases h'); exact h'.1 h4), if_neg (fun h' => h'.1 h4)]
    rw [e1]
    dsimp only at h ⊢
    generalize (cnt (cutA 45 l)).1 = c at *
    by_cases h5 : c < size
    · rw [if_pos (by simp [h5]), if_neg (by simp; omega)]
      congr 2
      · rw [Int.max_eq_left a0]
      · simp
    · rw [if_neg (by simp [h5]), if_pos (by simp; omega)]
  · have e2 : askP l size = (((cnt (cutA 45 l)).1, (cnt (cutB 45 l)).1 + 1), ((cnt (cutA 45 l)).2 && (cnt (cutB 45 l)).2) && decide ((cnt (cutA 45 l)).1 ≤ (cnt (cutB 45 l)).1)) := by unfold askP; rw [if_neg h1, if_neg h2, if_neg h4]
    rw [e2] at h ⊢
    simp only [Bool.and_eq_true, decide_eq_true_eq] at h
    obtain ⟨⟨k1, k2⟩, k3⟩ := h
    have e1 : oneR l size = (((cnt (cutA 45 l)).1, if cutB 45 l ≠ [] ∧ (cnt (cutB 45 l)).1 < size then (cnt (cutB 45 l)).1 + 1 else size), decide ((cnt (cutA 45 l)).1 < size), true) := by
      unfold oneR
      rw [if_neg h1, if_neg h2, if_neg (by rintro (h' | ⟨_, h' | h'⟩); (rw [k1] at h'; cases h'); (rw [k2] at h'; cases h'); omega)]
    rw [e1]
    dsimp only
    generalize (cnt (cutA 45 l)).1 = c at *
    generalize (cnt (cutB 45 l)).1 = d at *
    by_cases h5 : c < size
    · rw [if_pos (by simp [h5]), if_neg (show ¬ decide (min (d + 1) size ≤ max c 0) = true by simp; omega)]
      congr 2
      · rw [Int.max_eq_left a0]
      · by_cases h6 : d < size
        · rw [if_pos ⟨h4, h6⟩, Int.min_eq_left (by omega)]
        · rw [if_neg (fun h => h6 h.2), Int.min_eq_right (by omega)]
    · rw [if_neg (by simp [h5]), if_pos (by simp; omega)]

end Sn
end Go.Proofs.YtbgbidjngjdceaaDoor
