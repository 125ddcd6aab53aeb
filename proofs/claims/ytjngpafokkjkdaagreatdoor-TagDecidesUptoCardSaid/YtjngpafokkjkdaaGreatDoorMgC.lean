/- Several texts as one. -/
import Derived.Test.YtjngpafokkjkdaaGreatDoorMgB
/-
  Numbers: what digits say.
-/
set_option linter.unusedVariables false
set_option linter.unusedSimpArgs false
namespace Go.Proofs.YtjngpafokkjkdaaGreatDoor
open Go.RowKit
namespace Oc

/-- The value of a byte as a digit, and what digits say. -/
def numOf (base : Int) (l : List UInt8) : Int := l.foldl (fun n c => n * base + valI (c.toNat : Int)) 0
def numR (base : Int) (l : List UInt8) (most : Int) : Int × Int :=
  if l.isEmpty || l.any (fun c => decide (base ≤ valI (c.toNat : Int))) then (0, 11) else if most < numOf base l then (0, 12) else (numOf base l, 0)

theorem numOf_snoc (base : Int) (l : List UInt8) (c : UInt8) : numOf base (l ++ [c]) = numOf base l * base + valI (c.toNat : Int) := by
  unfold numOf; rw [List.foldl_append]; rfl
theorem take_snoc (s : ByteArray) (k : Nat) (h : k < s.size) : s.data.toList.take (k + 1) = s.data.toList.take k ++ [s.data.toList.getD k 0] := by
  rw [List.take_succ_eq_append_getElem (by simpa using h), List.getD_eq_getElem?_getD, List.getElem?_eq_getElem (by simpa using h)]; rfl
/-- What the first k digits say. -/
def pre (base : Int) (s : ByteArray) (k : Nat) : Int := numOf base (s.data.toList.take k)
theorem pre_zero (base : Int) (s : ByteArray) : pre base s 0 = 0 := by simp [pre, numOf]
theorem pre_succ (base : Int) (s : ByteArray) (k : Nat) (h : k < s.size) : pre base s (k + 1) = pre base s k * base + valI (byt s k) := by
  unfold pre byt; rw [take_snoc s k h, numOf_snoc]
theorem pre_all (base : Int) (s : ByteArray) : pre base s s.size = numOf base s.data.toList := by
  unfold pre; rw [List.take_of_length_le (by simp)]
theorem pre_nonneg (base : Int) (hb : 0 ≤ base) (s : ByteArray) : ∀ k, k ≤ s.size → 0 ≤ pre base s k
  | 0, _ => by rw [pre_zero]; omega
  | k + 1, h => by
    rw [pre_succ base s k (by omega)]
    have h1 := pre_nonneg base hb s k (by omega)
    have h2 := valI_bd (byt_bd s k).1
    have := Int.mul_nonneg h1 hb
    omega

theorem numR_empty (base most : Int) (s : ByteArray) (h : s.size = 0) : numR base s.data.toList most = (0, 11) := by
  have : s.data.toList = [] := List.length_eq_zero_iff.1 (by rw [size_list]; exact h)
  simp [numR, this]
theorem numR_bad (base most : Int) (s : ByteArray) (k : Nat) (h : k < s.size) (hv : base ≤ valI (byt s k)) : numR base s.data.toList most = (0, 11) := by
  unfold numR
  rw [if_pos]
  simp only [Bool.or_eq_true, List.any_eq_true]
  refine .inr ⟨s.data.toList.getD k 0, ?_, decide_eq_true hv⟩
  rw [List.getD_eq_getElem?_getD, List.getElem?_eq_getElem (by simpa using h)]
  exact List.getElem_mem _
theorem num_ok (base : Int) (s : ByteArray) (h0 : 0 < s.size) (hall : ∀ j, j < s.size → valI (byt s j) < base) : (s.data.toList.isEmpty || s.data.toList.any (fun c => decide (base ≤ valI (c.toNat : Int)))) = false := by
  rw [Bool.or_eq_false_iff]
  constructor
  · cases h : s.data.toList with
    | nil => have := size_list s; rw [h] at this; simp at this; omega
    | cons _ _ => rfl
  · rw [List.any_eq_false]
    intro x hx
    obtain ⟨k, hk, rfl⟩ := List.mem_iff_getElem.1 hx
    have := hall k (by rw [← size_list]; exact hk)
    unfold byt at this
    rw [List.getD_eq_getElem?_getD, List.getElem?_eq_getElem hk] at this
    simpa using this
theorem numR_big (base most : Int) (s : ByteArray) (h0 : 0 < s.size) (hall : ∀ j, j < s.size → valI (byt s j) < base) (h : most < pre base s s.size) : numR base s.data.toList most = (0, 12) := by
  unfold numR
  rw [num_ok base s h0 hall, if_neg (by simp), ← pre_all, if_pos h]
theorem numR_fits (base most : Int) (s : ByteArray) (h0 : 0 < s.size) (hall : ∀ j, j < s.size → valI (byt s j) < base) (h : pre base s s.size ≤ most) : numR base s.data.toList most = (pre base s s.size, 0) := by
  unfold numR
  rw [num_ok base s h0 hall, if_neg (by simp), ← pre_all, if_neg (by omega)]

theorem ret_two {j k : IntKind} {a b : Int} {r : Int × Int} (h : r = (a, b)) : Ending.returned (.tuple #[.int j a, .int k b]) = .returned (.tuple #[.int j r.1, .int k r.2]) := by rw [h]

theorem div_facts (m : Int) (B : Int) (hB : 0 < B) : B * m.tdiv B + m.tmod B = m ∧ m.tmod B < B ∧ -B < m.tmod B ∧ (0 ≤ m → 0 ≤ m.tmod B) := by
  refine ⟨Int.mul_tdiv_add_tmod m B, Int.tmod_lt_of_pos m hB, ?_, fun h => Int.tmod_nonneg B h⟩
  have := Int.lt_tmod_of_pos m hB
  omega

theorem next_big10 {most n v : Int} (n0 : 0 ≤ n) (v0 : 0 ≤ v) (v1 : v < 10) (h : most.tdiv 10 < n ∨ n = most.tdiv 10 ∧ most.tmod 10 < v) : most < n * 10 + v := by
  obtain ⟨e, r1, r2, r3⟩ := div_facts most 10 (by omega)
  omega
theorem next_fit10 {most n v : Int} (n0 : 0 ≤ n) (v0 : 0 ≤ v) (v1 : v < 10) (h : n < most.tdiv 10 ∨ n = most.tdiv 10 ∧ v ≤ most.tmod 10) : n * 10 + v ≤ most := by
  obtain ⟨e, r1, r2, r3⟩ := div_facts most 10 (by omega)
  omega

theorem next_big16 {most n v : Int} (n0 : 0 ≤ n) (v0 : 0 ≤ v) (v1 : v < 16) (h : most.tdiv 16 < n ∨ n = most.tdiv 16 ∧ most.tmod 16 < v) : most < n * 16 + v := by
  obtain ⟨e, r1, r2, r3⟩ := div_facts most 16 (by omega)
  omega
theorem next_fit16 {most n v : Int} (n0 : 0 ≤ n) (v0 : 0 ≤ v) (v1 : v < 16) (h : n < most.tdiv 16 ∨ n = most.tdiv 16 ∧ v ≤ most.tmod 16) : n * 16 + v ≤ most := by
  obtain ⟨e, r1, r2, r3⟩ := div_facts most 16 (by omega)
  omega

theorem pre_mono (base : Int) (hb : 1 ≤ base) (s : ByteArray) (j : Nat) : ∀ d, j + d ≤ s.size → pre base s j ≤ pre base s (j + d)
  | 0, _ => Int.le_refl _
  | d + 1, h => by
    have h1 := pre_mono base hb s j d (by omega)
    have h2 := pre_succ base s (j + d) (by omega)
    have h3 := valI_bd (byt_bd s (j + d)).1
    have h4 := pre_nonneg base (by omega) s (j + d) (by omega)
    have h5 : pre base s (j + d) ≤ pre base s (j + d) * base := by
      have := Int.mul_le_mul_of_nonneg_left hb h4
      omega
    show _ ≤ pre base s (j + d + 1)
    omega
theorem pre_le (base : Int) (hb : 1 ≤ base) (s : ByteArray) (j k : Nat) (h : j ≤ k) (hk : k ≤ s.size) : pre base s j ≤ pre base s k := by
  obtain ⟨d, rfl⟩ := Nat.le.dest h
  exact pre_mono base hb s j d hk
theorem digI_val {c : Int} : digI c = decide (valI c < 10) := by
  unfold digI valI
  rw [Bool.eq_iff_iff, decide_eq_true_iff, decide_eq_true_iff]
  (repeat' split) <;> omega
theorem hexI_val {c : Int} : hexI c = decide (valI c < 16) := by
  unfold hexI valI
  rw [Bool.eq_iff_iff, decide_eq_true_iff, decide_eq_true_iff]
  (repeat' split) <;> omega
theorem hex_of_val {c : Int} {b : Int} (hb : b ≤ 16) (h : valI c < b) : hexI c = true := by
  rw [hexI_val, decide_eq_true_iff]; omega

end Oc
end Go.Proofs.YtjngpafokkjkdaaGreatDoor

/-
  Numbers: the document's.
-/
set_option linter.unusedVariables false
set_option linter.unusedSimpArgs false
namespace Go.Proofs.YtjngpafokkjkdaaGreatDoor
open Go.RowKit
namespace Oc

theorem over_big10 {most n v : Int} (n0 : 0 ≤ n) (v0 : 0 ≤ v) (hm : v ≤ most) (h : (most - v) / 10 < n) : most < n * 10 + v := by omega
theorem over_fit10 {most n v : Int} (n0 : 0 ≤ n) (v0 : 0 ≤ v) (hm : v ≤ most) (h : ¬ (most - v) / 10 < n) : n * 10 + v ≤ most := by omega

theorem over_big16 {most n v : Int} (n0 : 0 ≤ n) (v0 : 0 ≤ v) (hm : v ≤ most) (h : (most - v) / 16 < n) : most < n * 16 + v := by omega
theorem over_fit16 {most n v : Int} (n0 : 0 ≤ n) (v0 : 0 ≤ v) (hm : v ≤ most) (h : ¬ (most - v) / 16 < n) : n * 16 + v ≤ most := by omega

end Oc
end Go.Proofs.YtjngpafokkjkdaaGreatDoor

/-
  Tokens, bytes of fields; the answers that keep the laws awake.
-/
set_option linter.unusedVariables false
set_option linter.unusedSimpArgs false
namespace Go.Proofs.YtjngpafokkjkdaaGreatDoor
open Go.RowKit
namespace Oc

theorem empty_of {s : ByteArray} (h : s.size = 0) : s.toList.isEmpty = true := by rw [ByteArray.toList_eq]; simp [List.length_eq_zero_iff.1 ((size_list s).trans h)]
theorem nonempty_of {s : ByteArray} (h : ¬ s.size = 0) : s.toList.isEmpty = false := by
  rw [ByteArray.toList_eq]
  cases e : s.data.toList with
  | nil => have := size_list s; rw [e] at this; simp at this; omega
  | cons _ _ => rfl
theorem list_ne {s : ByteArray} (h : ¬ s.size = 0) : s.data.toList ≠ [] := by
  intro e
  have := size_list s
  rw [e] at this
  simp at this
  omega
theorem isTok_empty {s : ByteArray} (h : s.size = 0) : isTok s.data.toList = false := by
  have := List.length_eq_zero_iff.1 ((size_list s).trans h)
  rw [this]; rfl

theorem low_ab : lowS ⟨#[97, 66]⟩ = ⟨#[97, 98]⟩ := by decide +kernel
theorem num_12 : numR 10 (⟨#[49, 50]⟩ : ByteArray).data.toList 12 = (12, 0) := by decide +kernel
theorem tok_x : isTok (⟨#[120]⟩ : ByteArray).data.toList = true := by decide +kernel

end Oc
end Go.Proofs.YtjngpafokkjkdaaGreatDoor
