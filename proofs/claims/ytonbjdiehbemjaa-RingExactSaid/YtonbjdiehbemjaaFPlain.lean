/-
  Where a list stands in another: in two pieces, and over the seam between them.
-/
import Derived.Lib.Index
set_option linter.unusedVariables false
set_option linter.unusedSimpArgs false
namespace Go.Proofs.Ytonbjdiehbemjaa
namespace Rg

/-- p stands in L at i. -/
def At (L p : List UInt8) (i : Nat) : Prop := i + p.length ≤ L.length ∧ ∀ k, k < p.length → L[i + k]? = p[k]?

theorem occ_iff (L p : List UInt8) (i : Nat) (hi : i ≤ L.length) : Lib.occAt L p i = true ↔ At L p i := by
  unfold Lib.occAt At
  rw [List.isPrefixOf_iff_prefix, List.prefix_iff_getElem?]
  constructor
  · intro h
    constructor
    · by_cases c : p.length = 0
      · omega
      · have := h (p.length - 1) (by omega)
        rw [List.getElem?_drop] at this
        have := (List.getElem?_eq_some_iff.1 this).1
        omega
    · intro k hk
      rw [← List.getElem?_drop, h k hk, List.getElem?_eq_getElem hk]
  · rintro ⟨_, h⟩ k hk
    rw [List.getElem?_drop, h k hk, List.getElem?_eq_getElem hk]

theorem index_cases (L p : List UInt8) : (∃ i : Nat, Lib.index L p = i ∧ At L p i ∧ ∀ j, j < i → ¬ At L p j) ∨ (Lib.index L p = -1 ∧ ∀ j, ¬ At L p j) := by
  by_cases c : ∃ n, n ≤ L.length ∧ At L p n
  · left
    obtain ⟨n, hn, ha⟩ := c
    have : ∀ m, (∃ n, n ≤ m ∧ At L p n) → ∃ i, At L p i ∧ ∀ j, j < i → ¬ At L p j := by
      intro m
      induction m with
      | zero =>
        rintro ⟨n, hn, ha⟩
        obtain rfl : n = 0 := by omega
        exact ⟨0, ha, fun j hj => by omega⟩
      | succ m ih =>
        rintro ⟨n, hn, ha⟩
        by_cases c : ∃ n, n ≤ m ∧ At L p n
        · exact ih c
        · refine ⟨n, ha, fun j hj hj2 => c ⟨j, by omega, hj2⟩⟩
    obtain ⟨i, h1, h2⟩ := this n ⟨n, Nat.le_refl _, ha⟩
    have hi : i ≤ L.length := by have := h1.1; omega
    refine ⟨i, Lib.index_first hi ((occ_iff L p i hi).2 h1) (fun j hj => ?_), h1, h2⟩
    cases h : Lib.occAt L p j with
    | false => rfl
    | true => exact absurd ((occ_iff L p j (by omega)).1 h) (h2 j hj)
  · right
    have hno : ∀ j, ¬ At L p j := fun j hj => c ⟨j, by have := hj.1; omega, hj⟩
    refine ⟨Lib.index_none (fun j hj => ?_), hno⟩
    cases h : Lib.occAt L p j with
    | false => rfl
    | true => exact absurd ((occ_iff L p j hj).1 h) (hno j)
theorem index_is {L p : List UInt8} {i : Nat} (h : At L p i) (hn : ∀ j, j < i → ¬ At L p j) : Lib.index L p = i := by
  rcases index_cases L p with ⟨i', e, h1, h2⟩ | ⟨_, h1⟩
  · rw [e]
    have : i' = i := by
      rcases Nat.lt_trichotomy i' i with h' | h' | h'
      · exact absurd h1 (hn _ h')
      · exact h'
      · exact absurd h (h2 _ h')
    rw [this]
  · exact absurd h (h1 i)
theorem index_no {L p : List UInt8} (hn : ∀ j, ¬ At L p j) : Lib.index L p = -1 := by
  rcases index_cases L p with ⟨i', e, h1, h2⟩ | ⟨e, _⟩
  · exact absurd h1 (hn _)
  · exact e

theorem at_left {A B p : List UInt8} {i : Nat} (h : i + p.length ≤ A.length) : At (A ++ B) p i ↔ At A p i := by
  unfold At
  rw [List.length_append]
  constructor
  · rintro ⟨_, h2⟩
    exact ⟨h, fun k hk => by rw [← h2 k hk, List.getElem?_append_left (by omega)]⟩
  · rintro ⟨_, h2⟩
    exact ⟨by omega, fun k hk => by rw [← h2 k hk, List.getElem?_append_left (by omega)]⟩
theorem at_right {A B p : List UInt8} {i : Nat} (h : A.length ≤ i) : At (A ++ B) p i ↔ At B p (i - A.length) := by
  unfold At
  rw [List.length_append]
  constructor
  · rintro ⟨h1, h2⟩
    exact ⟨by omega, fun k hk => by rw [← h2 k hk, List.getElem?_append_right (by omega)]; congr 1; omega⟩
  · rintro ⟨h1, h2⟩
    exact ⟨by omega, fun k hk => by rw [← h2 k hk, List.getElem?_append_right (by omega)]; congr 1; omega⟩
/-- The seam: what can hold a p that begins in A and ends in B. -/
theorem at_seam {A B p : List UInt8} {o m i : Nat} (ho : o ≤ A.length) (hm : m ≤ B.length) (h1 : o ≤ i) (h2 : i + p.length ≤ A.length + m) : At (A ++ B) p i ↔ At (A.drop o ++ B.take m) p (i - o) := by
  have hg : ∀ k, k < p.length → (A ++ B)[i + k]? = (A.drop o ++ B.take m)[i - o + k]? := by
    intro k hk
    rw [List.getElem?_append, List.getElem?_append, List.length_drop]
    by_cases c : i + k < A.length
    · rw [if_pos c, if_pos (by omega), List.getElem?_drop]
      congr 1
      omega
    · rw [if_neg c, if_neg (by omega), List.getElem?_take_of_lt (by omega)]
      congr 1
      omega
  unfold At
  rw [List.length_append, List.length_append, List.length_drop, List.length_take]
  constructor
  · rintro ⟨_, h⟩
    exact ⟨by omega, fun k hk => by rw [← hg k hk]; exact h k hk⟩
  · rintro ⟨_, h⟩
    exact ⟨by omega, fun k hk => by rw [hg k hk]; exact h k hk⟩

/-- How many bytes of the first piece lie ahead of the seam's. -/
def sk (A p : List UInt8) : Nat := A.length - (p.length - 1)
def seamL (A B p : List UInt8) : List UInt8 := A.drop (sk A p) ++ B.take (min B.length (p.length - 1))
/-- What seam answers. -/
def seamR (A B p : List UInt8) : Int := if Lib.index (seamL A B p) p < 0 then -1 else ((sk A p : Nat) : Int) + Lib.index (seamL A B p) p

theorem find_first {A B p : List UInt8} (h : 0 ≤ Lib.index A p) : Lib.index (A ++ B) p = Lib.index A p := by
  rcases index_cases A p with ⟨i, e, h1, h2⟩ | ⟨e, _⟩
  · rw [e]
    have hl := h1.1
    exact index_is ((at_left hl).2 h1) (fun j hj hj2 => h2 j hj ((at_left (by omega)).1 hj2))
  · rw [e] at h; omega
theorem find_seam {A B p : List UInt8} (h : Lib.index A p < 0) : 0 < p.length ∧ (0 ≤ seamR A B p → Lib.index (A ++ B) p = seamR A B p) ∧
    (seamR A B p < 0 → Lib.index (A ++ B) p = if Lib.index B p < 0 then -1 else (A.length : Int) + Lib.index B p) := by
  rcases index_cases A p with ⟨i, e, _⟩ | ⟨e, hA⟩
  · rw [e] at h; omega
  have hp : 0 < p.length := by
    by_cases c : p.length = 0
    · exact absurd (show At A p 0 from ⟨by omega, fun k hk => by omega⟩) (hA 0)
    · omega
  have hso : sk A p ≤ A.length := by unfold sk; omega
  have hseam : ∀ i, i < A.length → (At (A ++ B) p i ↔ (sk A p ≤ i ∧ At (seamL A B p) p (i - sk A p))) := by
    intro i hi
    by_cases c : i + p.length ≤ A.length
    · constructor
      · intro h2; exact absurd ((at_left c).1 h2) (hA i)
      · rintro ⟨h2, h3⟩
        have h4 : i - sk A p + p.length ≤ (A.drop (sk A p)).length := by rw [List.length_drop]; omega
        have := (at_left h4).1 h3
        exfalso
        have := this.1
        rw [List.length_drop] at this
        unfold sk at *
        omega
    · constructor
      · intro h2
        have hl := h2.1
        rw [List.length_append] at hl
        have h1 : sk A p ≤ i := by unfold sk; omega
        refine ⟨h1, ?_⟩
        exact (at_seam hso (by omega) h1 (by omega)).1 h2
      · rintro ⟨h2, h3⟩
        have hl := h3.1
        unfold seamL at hl
        rw [List.length_append, List.length_drop, List.length_take] at hl
        exact (at_seam hso (by omega) h2 (by omega)).2 h3
  refine ⟨hp, fun hs => ?_, fun hs => ?_⟩
  · rcases index_cases (seamL A B p) p with ⟨s, e2, s1, s2⟩ | ⟨e2, _⟩
    · have hR : seamR A B p = ((sk A p + s : Nat) : Int) := by unfold seamR; rw [e2, if_neg (by omega)]; omega
      rw [hR]
      have hl := s1.1
      unfold seamL at hl
      rw [List.length_append, List.length_drop, List.length_take] at hl
      have hlt : sk A p + s < A.length := by unfold sk at *; omega
      refine index_is ((hseam _ hlt).2 ⟨by omega, by rw [Nat.add_sub_cancel_left]; exact s1⟩) (fun j hj hj2 => ?_)
      obtain ⟨h1, h2⟩ := (hseam j (by omega)).1 hj2
      exact s2 (j - sk A p) (by omega) h2
    · unfold seamR at hs
      rw [e2, if_pos (by omega)] at hs
      omega
  · have hno : ∀ j, ¬ At (seamL A B p) p j := by
      rcases index_cases (seamL A B p) p with ⟨s, e2, s1, s2⟩ | ⟨e2, h⟩
      · unfold seamR at hs
        rw [e2, if_neg (by omega)] at hs
        omega
      · exact h
    have hlow : ∀ j, j < A.length → ¬ At (A ++ B) p j := fun j hj hj2 => hno _ ((hseam j hj).1 hj2).2
    rcases index_cases B p with ⟨b, e2, s1, s2⟩ | ⟨e2, hB⟩
    · rw [e2, if_neg (by omega), show (A.length : Int) + (b : Int) = ((A.length + b : Nat) : Int) by omega]
      refine index_is ((at_right (by omega)).2 (by rw [Nat.add_sub_cancel_left]; exact s1)) (fun j hj hj2 => ?_)
      by_cases c : j < A.length
      · exact hlow j c hj2
      · exact s2 (j - A.length) (by omega) ((at_right (by omega)).1 hj2)
    · rw [e2, if_pos (by omega)]
      refine index_no (fun j hj2 => ?_)
      by_cases c : j < A.length
      · exact hlow j c hj2
      · exact hB _ ((at_right (by omega)).1 hj2)

/-- What Find answers. -/
def fnd (xs p : List UInt8) (f : Int) : Int := if f < 0 ∨ (xs.length : Int) < f then -1 else if Lib.index (xs.drop f.toNat) p < 0 then -1 else f + Lib.index (xs.drop f.toNat) p

end Rg
end Go.Proofs.Ytonbjdiehbemjaa
