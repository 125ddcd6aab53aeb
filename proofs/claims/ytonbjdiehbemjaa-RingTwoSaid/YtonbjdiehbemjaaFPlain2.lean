/-
  Find's answer, by where a list stands.
-/
import Derived.Test.YtonbjdiehbemjaaFPlain
set_option linter.unusedVariables false
set_option linter.unusedSimpArgs false
namespace Go.Proofs.Ytonbjdiehbemjaa
namespace Rg

theorem at_drop (xs p : List UInt8) (F i : Nat) (hF : F ≤ xs.length) : At (xs.drop F) p i ↔ At xs p (F + i) := by
  unfold At
  rw [List.length_drop]
  constructor
  · rintro ⟨h1, h2⟩
    exact ⟨by omega, fun k hk => by rw [← h2 k hk, List.getElem?_drop, Nat.add_assoc]⟩
  · rintro ⟨h1, h2⟩
    exact ⟨by omega, fun k hk => by rw [← h2 k hk, List.getElem?_drop, Nat.add_assoc]⟩
theorem at_take (xs p : List UInt8) (J : Nat) (h : J + p.length ≤ xs.length) : At xs p J ↔ (xs.drop J).take p.length = p := by
  constructor
  · rintro ⟨_, h2⟩
    apply List.ext_getElem?
    intro k
    by_cases c : k < p.length
    · rw [List.getElem?_take_of_lt c, List.getElem?_drop, h2 k c]
    · rw [List.getElem?_eq_none (by rw [List.length_take, List.length_drop]; omega), List.getElem?_eq_none (by omega)]
  · intro e
    refine ⟨h, fun k hk => ?_⟩
    have : ((xs.drop J).take p.length)[k]? = p[k]? := by rw [e]
    rw [List.getElem?_take_of_lt hk, List.getElem?_drop] at this
    exact this
theorem fnd_is (xs p : List UInt8) (F J : Nat) (hFJ : F ≤ J) (h : At xs p J) (hn : ∀ j, F ≤ j → j < J → ¬ At xs p j) : fnd xs p (F : Int) = (J : Int) := by
  have hJ : J ≤ xs.length := by have := h.1; omega
  have hi : Lib.index (xs.drop F) p = ((J - F : Nat) : Int) := index_is ((at_drop xs p F (J - F) (by omega)).2 (by rw [show F + (J - F) = J by omega]; exact h)) (fun j hj hj2 => hn (F + j) (by omega) (by omega) ((at_drop xs p F j (by omega)).1 hj2))
  unfold fnd
  rw [if_neg (by omega), Int.toNat_natCast, hi, if_neg (by omega)]
  omega
theorem fnd_no (xs p : List UInt8) (F : Nat) (hn : ∀ j, F ≤ j → j ≤ xs.length → ¬ At xs p j) : fnd xs p (F : Int) = -1 := by
  unfold fnd
  by_cases c : (xs.length : Int) < (F : Int)
  · rw [if_pos (.inr c)]
  · have hi : Lib.index (xs.drop F) p = -1 := index_no (fun j hj2 => by
      have h3 := (at_drop xs p F j (by omega)).1 hj2
      exact hn (F + j) (by omega) (by have := h3.1; omega) h3)
    rw [if_neg (by omega), Int.toNat_natCast, hi]
    rfl

end Rg
end Go.Proofs.Ytonbjdiehbemjaa
