/-
  span, plainly: what is told is read back.
-/
import Derived.Test.YtbgbidjngjdceaaDoorSnK
import Derived.Test.YtbgbidjngjdceaaDoorDig2
set_option linter.unusedVariables false
set_option linter.unusedSimpArgs false
namespace Go.Proofs.YtbgbidjngjdceaaDoor
open Go.RowKit Go.Shelf
namespace Sn
open Oc Tg Ac

theorem itoa_pos {n : Int} (h : 0 ≤ n) : Lib.itoa n = Lib.decDigits n.toNat := by
  unfold Lib.itoa
  rw [if_neg (by omega)]
theorem itoa_dig {n : Int} (h : 0 ≤ n) (c : UInt8) (hc : c ∈ Lib.itoa n) : 48 ≤ c.toNat ∧ c.toNat ≤ 57 := by
  rw [itoa_pos h] at hc
  have := dec_digits n.toNat c hc
  unfold valI at this
  have hb := c.toNat_lt
  repeat' split at this
  all_goals omega
theorem itoa_no {n : Int} (h : 0 ≤ n) (b : UInt8) (hb : b.toNat < 48) (c : UInt8) (hc : c ∈ Lib.itoa n) : c ≠ b := by
  intro e
  subst e
  have := itoa_dig h c hc
  omega
theorem itoa_ne {n : Int} (h : 0 ≤ n) : Lib.itoa n ≠ [] := by rw [itoa_pos h]; exact dec_ne _
theorem numR_itoa {n m : Int} (h : 0 ≤ n) (hm : n ≤ m) : numR 10 (Lib.itoa n) m = (n, 0) := by
  have := numR_zeros n.toNat 0 m
  rw [List.replicate_zero, List.nil_append, ← itoa_pos h, if_neg (by omega)] at this
  rw [this]
  congr 1
  omega
theorem pln_itoa {n : Int} (h : 0 ≤ n) (hm : n ≤ 4611686018427387904) : pln (Lib.itoa n) = (n, true) := by
  unfold pln
  rw [numR_itoa h hm]
  simp
theorem cut_at (b : UInt8) : ∀ (l r : List UInt8), (∀ c ∈ l, c ≠ b) → cutA b (l ++ b :: r) = l ∧ cutB b (l ++ b :: r) = r ∧ has b (l ++ b :: r) = true
  | [], r, _ => by simp [cutA, cutB, has]
  | c :: l, r, h => by
    have hc := h c (by simp)
    obtain ⟨i1, i2, i3⟩ := cut_at b l r (fun x hx => h x (by simp [hx]))
    have e1 : cutA b (c :: (l ++ b :: r)) = c :: cutA b (l ++ b :: r) := by simp [cutA, hc]
    have e2 : cutB b (c :: (l ++ b :: r)) = cutB b (l ++ b :: r) := by simp [cutB, hc]
    refine ⟨by rw [List.cons_append, e1, i1], by rw [List.cons_append, e2, i2], ?_⟩
    unfold has
    simp
theorem extR_no {x : Sp} (h0 : 0 ≤ x.1) (h1 : x.1 < x.2) (c : UInt8) (hc : c ∈ extR x) : c ≠ 47 := by
  unfold extR at hc
  simp only [List.mem_append, List.mem_singleton] at hc
  rcases hc with (hc | rfl) | hc
  · exact itoa_no h0 47 (by decide) c hc
  · decide
  · exact itoa_no (by omega) 47 (by decide) c hc
theorem exP_ext {x : Sp} (h0 : 0 ≤ x.1) (h1 : x.1 < x.2) (h2 : x.2 ≤ 4611686018427387904) : exP (extR x) = (x, true) := by
  have e : extR x = Lib.itoa x.1 ++ 45 :: Lib.itoa (x.2 - 1) := by unfold extR; simp
  obtain ⟨i1, i2, _⟩ := cut_at 45 (Lib.itoa x.1) (Lib.itoa (x.2 - 1)) (fun c hc => itoa_no h0 45 (by decide) c hc)
  unfold exP
  rw [e, i1, i2, pln_itoa h0 (by omega), pln_itoa (by omega) (by omega)]
  obtain ⟨a, b⟩ := x
  dsimp only at *
  rw [decide_eq_true (by omega)]
  congr 2
  omega
theorem ext_star {x : Sp} (h0 : 0 ≤ x.1) : extR x ≠ [42] := by
  intro e
  have hn := itoa_ne h0
  cases hi : Lib.itoa x.1 with
  | nil => exact hn hi
  | cons c t =>
    have := itoa_dig h0 c (by rw [hi]; simp)
    unfold extR at e
    rw [hi] at e
    simp at e
/-- What is told of a span is read back. -/
theorem tel_back {x : Sp} {size : Int} (hsp : isSp x size = true) (hs : size ≤ 4611686018427387904) : tolR (telR x size).1 = (x, size, 0) := by
  have hh : 0 ≤ x.1 ∧ x.1 < x.2 ∧ x.2 ≤ size := of_decide_eq_true hsp
  obtain ⟨h0, h1, h2⟩ := hh
  unfold telR
  rw [if_pos hsp]
  dsimp only
  rw [tolR_six (by rfl)]
  rw [show List.drop 6 ([98, 121, 116, 101, 115, 32] ++ extR x ++ [47] ++ Lib.itoa size) = extR x ++ 47 :: Lib.itoa size by simp]
  obtain ⟨i1, i2, _⟩ := cut_at 47 (extR x) (Lib.itoa size) (fun c hc => extR_no h0 h1 c hc)
  have hx := exP_ext h0 h1 (by omega)
  have hp := pln_itoa (n := size) (by omega) hs
  unfold tolS
  rw [i1, i2, hx, hp]
  dsimp only
  rw [hsp]
  rfl
theorem non_back {size : Int} (h0 : 0 ≤ size) (hs : size ≤ 4611686018427387904) : tolR (nonR size).1 = ((0, 0), size, 0) := by
  unfold nonR
  rw [if_neg (by omega)]
  dsimp only
  rw [tolR_six (by rfl)]
  rw [show List.drop 6 ([98, 121, 116, 101, 115, 32, 42, 47] ++ Lib.itoa size) = [42] ++ 47 :: Lib.itoa size by simp]
  obtain ⟨i1, i2, _⟩ := cut_at 47 [42] (Lib.itoa size) (by decide)
  have hp := pln_itoa (n := size) (by omega) hs
  rw [tolS_star1 i1 (by rw [i2, hp]), i2, hp]

end Sn
end Go.Proofs.YtbgbidjngjdceaaDoor
