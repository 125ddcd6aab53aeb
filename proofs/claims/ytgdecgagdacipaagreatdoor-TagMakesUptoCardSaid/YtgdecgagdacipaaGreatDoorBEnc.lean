/-
  base.Encode.
-/
import Derived.Test.YtgdecgagdacipaaGreatDoorBLeaf
import Derived.Laws.BitsLemmas
import Derived.Lib.EndianBits
set_option linter.unusedVariables false
set_option linter.unusedSimpArgs false
namespace Go.Proofs.YtgdecgagdacipaaGreatDoor
open Go.RowKit
namespace Bs
set_option maxRecDepth 100000

/-- The bits of the first k bytes, at their places among 24. -/
def acc (l : List UInt8) (k : Nat) : Nat := (if 0 < k then (l.getD 0 0).toNat * 65536 else 0) + (if 1 < k then (l.getD 1 0).toNat * 256 else 0) + (if 2 < k then (l.getD 2 0).toNat else 0)
theorem acc_lt (l : List UInt8) (k : Nat) : acc l k < 16777216 := by
  unfold acc
  have := (l.getD 0 0).toNat_lt
  have := (l.getD 1 0).toNat_lt
  have := (l.getD 2 0).toNat_lt
  (repeat' split) <;> omega
theorem or_u32 (a b : Nat) (i : Nat) (ha : a % 2 ^ i = 0) (hb : b < 2 ^ i) (ha' : a < 4294967296) (hb' : b < 4294967296) : bits .or .u32 (a : Int) (b : Int) = ((a + b : Nat) : Int) := by
  rw [bits_join .u32 32 (by decide) wraps_u32 i (a : Int) (b : Int) (by omega) (by exact_mod_cast ha) (by omega) (by omega) (by exact_mod_cast hb) (by omega)]
  omega
theorem and63_u32 (a : Nat) (h : a < 4294967296) : bits .and .u32 (a : Int) 63 = ((a % 64 : Nat) : Int) := by
  have := bits_mask .u32 32 (by decide) wraps_u32 6 (by decide) (a : Int) (by omega) (by omega)
  rw [show ((2 : Int) ^ 6 - 1) = 63 by decide, show ((2 : Int) ^ 6) = 64 by decide] at this
  rw [this]
  omega
theorem wrap_u32_nat (a : Nat) (h : a < 4294967296) : IntKind.u32.wrap (a : Int) = (a : Int) := by rw [IntKind.wrap_u32]; omega
theorem sg_at (n : Nat) (h : n < (⟨#[65, 66, 67, 68, 69, 70, 71, 72, 73, 74, 75, 76, 77, 78, 79, 80, 81, 82, 83, 84, 85, 86, 87, 88, 89, 90, 97, 98, 99, 100, 101, 102, 103, 104, 105, 106, 107, 108, 109, 110, 111, 112, 113, 114, 115, 116, 117, 118, 119, 120, 121, 122, 48, 49, 50, 51, 52, 53, 54, 55, 56, 57, 43, 47]⟩ : ByteArray).size) :
    (⟨#[65, 66, 67, 68, 69, 70, 71, 72, 73, 74, 75, 76, 77, 78, 79, 80, 81, 82, 83, 84, 85, 86, 87, 88, 89, 90, 97, 98, 99, 100, 101, 102, 103, 104, 105, 106, 107, 108, 109, 110, 111, 112, 113, 114, 115, 116, 117, 118, 119, 120, 121, 122, 48, 49, 50, 51, 52, 53, 54, 55, 56, 57, 43, 47]⟩ : ByteArray)[n] = sgn n := by
  rw [← at_lt _ n h]
  rfl

theorem enc_take (l : List UInt8) (h1 : 1 ≤ l.length) (h3 : l.length ≤ 3) (k : Nat) (hk : k < 4) : (enc l).length = 4 ∧ (enc l).take (k + 1) = (enc l).take k ++ [if l.length < k then 61 else sgn (acc l l.length / 2 ^ (18 - 6 * k) % 64)] := by
  match l, h1, h3 with
  | [a], _, _ =>
    have := a.toNat_lt
    refine ⟨rfl, ?_⟩
    rcases (show k = 0 ∨ k = 1 ∨ k = 2 ∨ k = 3 by omega) with rfl | rfl | rfl | rfl
    · simp [enc, acc]; congr 1; omega
    · simp [enc, acc]; congr 1; omega
    · simp [enc, acc]
    · simp [enc, acc]
  | [a, b], _, _ =>
    have := a.toNat_lt
    have := b.toNat_lt
    refine ⟨rfl, ?_⟩
    rcases (show k = 0 ∨ k = 1 ∨ k = 2 ∨ k = 3 by omega) with rfl | rfl | rfl | rfl
    · simp [enc, acc]; congr 1; omega
    · simp [enc, acc]; congr 1; omega
    · simp [enc, acc]; congr 1; omega
    · simp [enc, acc]
  | [a, b, c], _, _ =>
    have := a.toNat_lt
    have := b.toNat_lt
    have := c.toNat_lt
    refine ⟨rfl, ?_⟩
    rcases (show k = 0 ∨ k = 1 ∨ k = 2 ∨ k = 3 by omega) with rfl | rfl | rfl | rfl
    · simp [enc, acc]; congr 1; omega
    · simp [enc, acc]; congr 1; omega
    · simp [enc, acc]; congr 1; omega
    · simp [enc, acc]; congr 1; omega

theorem acc_0 (l : List UInt8) : bits .or .u32 ((acc l 0 : Nat) : Int) (((l.getD 0 0).toNat : Int) * 65536) = ((acc l 1 : Nat) : Int) := by
  have h := (l.getD 0 0).toNat_lt
  have e := or_u32 (acc l 0) ((l.getD 0 0).toNat * 65536) 24 (by unfold acc; simp) (by omega) (by have := acc_lt l 0; omega) (by omega)
  rw [Int.natCast_mul] at e
  refine Eq.trans e ?_
  unfold acc
  simp
theorem acc_1 (l : List UInt8) : bits .or .u32 ((acc l 1 : Nat) : Int) (((l.getD 1 0).toNat : Int) * 256) = ((acc l 2 : Nat) : Int) := by
  have h := (l.getD 1 0).toNat_lt
  have e := or_u32 (acc l 1) ((l.getD 1 0).toNat * 256) 16 (by unfold acc; simp) (by omega) (by have := acc_lt l 1; omega) (by omega)
  rw [Int.natCast_mul] at e
  refine Eq.trans e ?_
  unfold acc
  simp
theorem acc_2 (l : List UInt8) : bits .or .u32 ((acc l 2 : Nat) : Int) ((l.getD 2 0).toNat : Int) = ((acc l 3 : Nat) : Int) := by
  have h := (l.getD 2 0).toNat_lt
  have e := or_u32 (acc l 2) (l.getD 2 0).toNat 8 (by unfold acc; simp; omega) (by omega) (by have := acc_lt l 2; omega) (by omega)
  refine Eq.trans e ?_
  unfold acc
  simp

end Bs
end Go.Proofs.YtgdecgagdacipaaGreatDoor
