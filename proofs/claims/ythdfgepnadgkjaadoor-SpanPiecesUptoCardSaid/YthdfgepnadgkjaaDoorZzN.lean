/- Several texts as one. -/
import Derived.Test.YthdfgepnadgkjaaDoorZzJ
import Derived.Test.YthdfgepnadgkjaaDoorZzL
import Derived.Test.YthdfgepnadgkjaaDoorZzK
/-
  What digits say, read back.
-/
set_option linter.unusedVariables false
set_option linter.unusedSimpArgs false
namespace Go.Proofs.YthdfgepnadgkjaaDoor
open Go.RowKit
namespace Oc

theorem val_digit (d : Nat) (h : d < 10) : valI ((UInt8.ofNat (48 + d)).toNat : Int) = (d : Int) := by
  have e : (UInt8.ofNat (48 + d)).toNat = 48 + d := by rw [UInt8.toNat_ofNat']; omega
  rw [e, valI_d (by omega)]
  omega
theorem num_dec : ∀ u : Nat, numOf 10 (Lib.decDigits u) = (u : Int) := by
  intro u
  induction u using Nat.strongRecOn with
  | _ u ih =>
    by_cases h : u < 10
    · rw [Lib.decDigits_one h]
      show (0 : Int) * 10 + valI _ = _
      rw [val_digit u h]
      omega
    · rw [Lib.decDigits, dif_neg h, numOf_snoc, ih (u / 10) (by omega), val_digit _ (by omega)]
      omega
theorem dec_digits : ∀ u : Nat, ∀ c ∈ Lib.decDigits u, valI (c.toNat : Int) < 10 := by
  intro u
  induction u using Nat.strongRecOn with
  | _ u ih =>
    by_cases h : u < 10
    · rw [Lib.decDigits_one h]
      intro c hc
      have hc := List.mem_singleton.1 hc
      subst hc
      rw [val_digit u h]
      omega
    · rw [Lib.decDigits, dif_neg h]
      intro c hc
      rcases List.mem_append.1 hc with hc | hc
      · exact ih (u / 10) (by omega) c hc
      · have hc := List.mem_singleton.1 hc
        subst hc
        rw [val_digit (u % 10) (by omega)]
        omega
theorem dec_ne (u : Nat) : Lib.decDigits u ≠ [] := by
  rw [Lib.decDigits]
  split <;> simp
theorem dec_head : ∀ u : Nat, u ≠ 0 → (Lib.decDigits u).getD 0 0 ≠ 48 := by
  intro u
  induction u using Nat.strongRecOn with
  | _ u ih =>
    intro hu
    by_cases h : u < 10
    · rw [Lib.decDigits_one h]
      intro e
      have e2 := congrArg UInt8.toNat e
      simp [UInt8.toNat_ofNat'] at e2
      omega
    · rw [Lib.decDigits, dif_neg h]
      have hne := dec_ne (u / 10)
      have h1 := ih (u / 10) (by omega) (by omega)
      cases e : Lib.decDigits (u / 10) with
      | nil => exact absurd e hne
      | cons a l => rw [e] at h1; simpa using h1
theorem num_zeros (l : List UInt8) : ∀ k : Nat, numOf 10 (List.replicate k 48 ++ l) = numOf 10 l
  | 0 => by simp
  | k + 1 => by
    have := num_zeros l k
    rw [List.replicate_succ, List.cons_append]
    unfold numOf at *
    rw [List.foldl_cons]
    have e : (0 : Int) * 10 + valI ((48 : UInt8).toNat : Int) = 0 := by decide
    rw [e]
    exact this
theorem numR_zeros (u k : Nat) (most : Int) : numR 10 (List.replicate k 48 ++ Lib.decDigits u) most = if most < (u : Int) then (0, 12) else ((u : Int), 0) := by
  unfold numR
  rw [if_neg, num_zeros, num_dec]
  simp only [Bool.or_eq_true, List.any_eq_true, not_or]
  constructor
  · cases e : Lib.decDigits u with
    | nil => exact absurd e (dec_ne u)
    | cons a l => cases k <;> simp [List.replicate_succ]
  · rintro ⟨c, hc, h⟩
    have h := of_decide_eq_true h
    rcases List.mem_append.1 hc with hc | hc
    · have := List.eq_of_mem_replicate hc
      subst this
      have e : valI ((48 : UInt8).toNat : Int) = 0 := by decide
      rw [e] at h
      omega
    · have := dec_digits u c hc
      omega

end Oc
end Go.Proofs.YthdfgepnadgkjaaDoor

/-
  span, plainly: what is told is read back.
-/
set_option linter.unusedVariables false
set_option linter.unusedSimpArgs false
namespace Go.Proofs.YthdfgepnadgkjaaDoor
open Go.RowKit Go.Shelf
namespace Sn
open Oc Tg Ac

theorem itoa_pos {n : Int} (h : 0 ≤ n) : Lib.itoa n = Lib.decDigits n.toNat := by
  unfold Lib.itoa
  rw [if_neg (by omega)]
theorem itoa_dig {n : Int} (h : 0 ≤ n) (c : UInt8) (hc : c ∈ Lib.itoa n) : 48 ≤ c.toNat ∧ c.toNat ≤ 57 := by
  rw [itoa_pos h] at hc
  have := dec_digits n.toNat c hc
  unfold valI at this
  have hb := c.toNat_lt
  repeat' split at this
  all_goals omega
theorem itoa_no {n : Int} (h : 0 ≤ n) (b : UInt8) (hb : b.toNat < 48) (c : UInt8) (hc : c ∈ Lib.itoa n) : c ≠ b := by
  intro e
  subst e
  have := itoa_dig h c hc
  omega
theorem itoa_ne {n : Int} (h : 0 ≤ n) : Lib.itoa n ≠ [] := by rw [itoa_pos h]; exact dec_ne _
theorem numR_itoa {n m : Int} (h : 0 ≤ n) (hm : n ≤ m) : numR 10 (Lib.itoa n) m = (n, 0) := by
  have := numR_zeros n.toNat 0 m
  rw [List.replicate_zero, List.nil_append, ← itoa_pos h, if_neg (by omega)] at this
  rw [this]
  congr 1
  omega
theorem pln_itoa {n : Int} (h : 0 ≤ n) (hm : n ≤ 4611686018427387904) : pln (Lib.itoa n) = (n, true) := by
  unfold pln
  rw [numR_itoa h hm]
  simp
theorem cut_at (b : UInt8) : ∀ (l r : List UInt8), (∀ c ∈ l, c ≠ b) → cutA b (l ++ b :: r) = l ∧ cutB b (l ++ b :: r) = r ∧ has b (l ++ b :: r) = true
  | [], r, _ => by simp [cutA, cutB, has]
  | c :: l, r, h => by
    have hc := h c (by simp)
    obtain ⟨i1, i2, i3⟩ := cut_at b l r (fun x hx => h x (by simp [hx]))
    have e1 : cutA b (c :: (l ++ b :: r)) = c :: cutA b (l ++ b :: r) := by simp [cutA, hc]
    have e2 : cutB b (c :: (l ++ b :: r)) = cutB b (l ++ b :: r) := by simp [cutB, hc]
    refine ⟨by rw [List.cons_append, e1, i1], by rw [List.cons_append, e2, i2], ?_⟩
    unfold has
    simp
theorem extR_no {x : Sp} (h0 : 0 ≤ x.1) (h1 : x.1 < x.2) (c : UInt8) (hc : c ∈ extR x) : c ≠ 47 := by
  unfold extR at hc
  simp only [List.mem_append, List.mem_singleton] at hc
  rcases hc with (hc | rfl) | hc
  · exact itoa_no h0 47 (by decide) c hc
  · decide
  · exact itoa_no (by omega) 47 (by decide) c hc
theorem exP_ext {x : Sp} (h0 : 0 ≤ x.1) (h1 : x.1 < x.2) (h2 : x.2 ≤ 4611686018427387904) : exP (extR x) = (x, true) := by
  have e : extR x = Lib.itoa x.1 ++ 45 :: Lib.itoa (x.2 - 1) := by unfold extR; simp
  obtain ⟨i1, i2, _⟩ := cut_at 45 (Lib.itoa x.1) (Lib.itoa (x.2 - 1)) (fun c hc => itoa_no h0 45 (by decide) c hc)
  unfold exP
  rw [e, i1, i2, pln_itoa h0 (by omega), pln_itoa (by omega) (by omega)]
  obtain ⟨a, b⟩ := x
  dsimp only at *
  rw [decide_eq_true (by omega)]
  congr 2
  omega
theorem ext_star {x : Sp} (h0 : 0 ≤ x.1) : extR x ≠ [42] := by
  intro e
  have hn := itoa_ne h0
  cases hi : Lib.itoa x.1 with
  | nil => exact hn hi
  | cons c t =>
    have := itoa_dig h0 c (by rw [hi]; simp)
    unfold extR at e
    rw [hi] at e
    simp at e
/-- What is told of a span is read back. -/
theorem tel_back {x : Sp} {size : Int} (hsp : isSp x size = true) (hs : size ≤ 4611686018427387904) : tolR (telR x size).1 = (x, size, 0) := by
  have hh : 0 ≤ x.1 ∧ x.1 < x.2 ∧ x.2 ≤ size := of_decide_eq_true hsp
  obtain ⟨h0, h1, h2⟩ := hh
  unfold telR
  rw [if_pos hsp]
  dsimp only
  rw [tolR_six (by rfl)]
  rw [show List.drop 6 ([98, 121, 116, 101, 115, 32] ++ extR x ++ [47] ++ Lib.itoa size) = extR x ++ 47 :: Lib.itoa size by simp]
  obtain ⟨i1, i2, _⟩ := cut_at 47 (extR x) (Lib.itoa size) (fun c hc => extR_no h0 h1 c hc)
  have hx := exP_ext h0 h1 (by omega)
  have hp := pln_itoa (n := size) (by omega) hs
  unfold tolS
  rw [i1, i2, hx, hp]
  dsimp only
  rw [hsp]
  rfl
theorem non_back {size : Int} (h0 : 0 ≤ size) (hs : size ≤ 4611686018427387904) : tolR (nonR size).1 = ((0, 0), size, 0) := by
  unfold nonR
  rw [if_neg (by omega)]
  dsimp only
  rw [tolR_six (by rfl)]
  rw [show List.drop 6 ([98, 121, 116, 101, 115, 32, 42, 47] ++ Lib.itoa size) = [42] ++ 47 :: Lib.itoa size by simp]
  obtain ⟨i1, i2, _⟩ := cut_at 47 [42] (Lib.itoa size) (by decide)
  have hp := pln_itoa (n := size) (by omega) hs
  rw [tolS_star1 i1 (by rw [i2, hp]), i2, hp]

end Sn
end Go.Proofs.YthdfgepnadgkjaaDoor

/-
  span.areSpans.
-/
set_option linter.unusedVariables false
set_option linter.unusedSimpArgs false
namespace Go.Proofs.YthdfgepnadgkjaaDoor
open Go.RowKit Go.Shelf
namespace Sn
open Oc Tg Ac

def allSp (t : List Sp) (size : Int) : Bool := t.all fun x => isSp x size
theorem nthN_mem' {d : List Sp} {k : Nat} (h : k < d.length) : nthN d k = d[k] := by
  unfold nthN
  rw [List.getD_eq_getElem?_getD, List.getElem?_eq_getElem h]
  rfl
theorem allSp_no {t : List Sp} {size : Int} {k : Nat} (hk : k < t.length) (h : isSp (nthN t k) size = false) : allSp t size = false := by
  unfold allSp
  rw [List.all_eq_false]
  exact ⟨t[k], List.getElem_mem _, by rw [← nthN_mem' hk, h]; simp⟩
theorem allSp_yes {t : List Sp} {size : Int} (h : ∀ j, j < t.length → isSp (nthN t j) size = true) : allSp t size = true := by
  unfold allSp
  rw [List.all_eq_true]
  intro x hx
  obtain ⟨k, hk, rfl⟩ := List.mem_iff_getElem.1 hx
  rw [← nthN_mem' hk]
  exact h k hk

end Sn
end Go.Proofs.YthdfgepnadgkjaaDoor
