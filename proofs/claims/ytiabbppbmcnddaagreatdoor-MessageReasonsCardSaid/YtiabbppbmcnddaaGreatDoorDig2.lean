/-
  What digits say, read back.
-/
import Derived.Test.YtiabbppbmcnddaaGreatDoorMgV
set_option linter.unusedVariables false
set_option linter.unusedSimpArgs false
namespace Go.Proofs.YtiabbppbmcnddaaGreatDoor
open Go.RowKit
namespace Oc

theorem val_digit (d : Nat) (h : d < 10) : valI ((UInt8.ofNat (48 + d)).toNat : Int) = (d : Int) := by
  have e : (UInt8.ofNat (48 + d)).toNat = 48 + d := by rw [UInt8.toNat_ofNat']; omega
  rw [e, valI_d (by omega)]
  omega
theorem num_dec : ∀ u : Nat, numOf 10 (Lib.decDigits u) = (u : Int) := by
  intro u
  induction u using Nat.strongRecOn with
  | _ u ih =>
    by_cases h : u < 10
    · rw [Lib.decDigits_one h]
      show (0 : Int) * 10 + valI _ = _
      rw [val_digit u h]
      omega
    · rw [Lib.decDigits, dif_neg h, numOf_snoc, ih (u / 10) (by omega), val_digit _ (by omega)]
      omega
theorem dec_digits : ∀ u : Nat, ∀ c ∈ Lib.decDigits u, valI (c.toNat : Int) < 10 := by
  intro u
  induction u using Nat.strongRecOn with
  | _ u ih =>
    by_cases h : u < 10
    · rw [Lib.decDigits_one h]
      intro c hc
      have hc := List.mem_singleton.1 hc
      subst hc
      rw [val_digit u h]
      omega
    · rw [Lib.decDigits, dif_neg h]
      intro c hc
      rcases List.mem_append.1 hc with hc | hc
      · exact ih (u / 10) (by omega) c hc
      · have hc := List.mem_singleton.1 hc
        subst hc
        rw [val_digit (u % 10) (by omega)]
        omega
theorem dec_ne (u : Nat) : Lib.decDigits u ≠ [] := by
  rw [Lib.decDigits]
  split <;> simp
theorem dec_head : ∀ u : Nat, u ≠ 0 → (Lib.decDigits u).getD 0 0 ≠ 48 := by
  intro u
  induction u using Nat.strongRecOn with
  | _ u ih =>
    intro hu
    by_cases h : u < 10
    · rw [Lib.decDigits_one h]
      intro e
      have e2 := congrArg UInt8.toNat e
      simp [UInt8.toNat_ofNat'] at e2
      omega
    · rw [Lib.decDigits, dif_neg h]
      have hne := dec_ne (u / 10)
      have h1 := ih (u / 10) (by omega) (by omega)
      cases e : Lib.decDigits (u / 10) with
      | nil => exact absurd e hne
      | cons a l => rw [e] at h1; simpa using h1
theorem num_zeros (l : List UInt8) : ∀ k : Nat, numOf 10 (List.replicate k 48 ++ l) = numOf 10 l
  | 0 => by simp
  | k + 1 => by
    have := num_zeros l k
    rw [List.replicate_succ, List.cons_append]
    unfold numOf at *
    rw [List.foldl_cons]
    have e : (0 : Int) * 10 + valI ((48 : UInt8).toNat : Int) = 0 := by decide
    rw [e]
    exact this
theorem numR_zeros (u k : Nat) (most : Int) : numR 10 (List.replicate k 48 ++ Lib.decDigits u) most = if most < (u : Int) then (0, 12) else ((u : Int), 0) := by
  unfold numR
  rw [if_neg, num_zeros, num_dec]
  simp only [Bool.or_eq_true, List.any_eq_true, not_or]
  constructor
  · cases e : Lib.decDigits u with
    | nil => exact absurd e (dec_ne u)
    | cons a l => cases k <;> simp [List.replicate_succ]
  · rintro ⟨c, hc, h⟩
    have h := of_decide_eq_true h
    rcases List.mem_append.1 hc with hc | hc
    · have := List.eq_of_mem_replicate hc
      subst this
      have e : valI ((48 : UInt8).toNat : Int) = 0 := by decide
      rw [e] at h
      omega
    · have := dec_digits u c hc
      omega

structure Both (w : World) : Prop where
  tab : Tab w
  pow : Pow w

end Oc
end Go.Proofs.YtiabbppbmcnddaaGreatDoor
