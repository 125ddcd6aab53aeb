/- Several texts as one. -/
import Derived.Test.YtndglpjkmgcdpaaGreatDoorMgU
import Derived.Test.YtndglpjkmgcdpaaGreatDoorMgP
import Derived.Test.YtndglpjkmgcdpaaGreatDoorMgG
/-
  The document's cut, split, scan, IsPath, plain.
-/
set_option linter.unusedVariables false
set_option linter.unusedSimpArgs false
namespace Go.Proofs.YtndglpjkmgcdpaaGreatDoor
open Go.RowKit Go.Shelf
namespace Tg
open Oc

theorem cut_at (s : ByteArray) (b : UInt8) (k : Nat) (hk : k < s.size) (hall : ∀ j, j < k → byt s j ≠ (b.toNat : Int)) (h : byt s k = (b.toNat : Int)) :
    str (cutA b s.data.toList) = s.extract 0 k ∧ str (cutB b s.data.toList) = s.extract (k + 1) s.size ∧ has b s.data.toList = true := by
  have e0 : s.data.toList = s.data.toList.take k ++ b :: s.data.toList.drop (k + 1) := by
    have h1 : s.data.toList.getD k 0 = b := UInt8.toNat_inj.1 (by unfold byt at h; omega)
    rw [← h1, ← drop_cons s k hk, List.take_append_drop]
  have hno : b ∉ s.data.toList.take k := by
    intro hm
    obtain ⟨j, hj, e⟩ := List.mem_iff_getElem.1 hm
    rw [List.length_take, size_list] at hj
    refine hall j (by omega) ?_
    unfold byt
    rw [List.getElem_take] at e
    rw [List.getD_eq_getElem?_getD, List.getElem?_eq_getElem (by rw [size_list]; omega)]
    simp [e]
  have hA : cutA b s.data.toList = s.data.toList.take k := by
    conv => lhs; rw [e0]
    unfold cutA
    rw [List.takeWhile_append_of_pos (by intro x hx; simp; intro e; exact hno (e ▸ hx))]
    simp
  have hB : cutB b s.data.toList = s.data.toList.drop (k + 1) := by
    conv => lhs; rw [e0]
    unfold cutB
    rw [List.dropWhile_append_of_pos (by intro x hx; simp; intro e; exact hno (e ▸ hx))]
    simp
  refine ⟨eq_list ?_, eq_list ?_, ?_⟩
  · rw [str_list, hA, ext_list]; simp
  · rw [str_list, hB, ext_list, List.take_of_length_le (by rw [List.length_drop, size_list]; omega)]
  · unfold has; exact contains_of hk h
theorem cut_none (s : ByteArray) (b : UInt8) (hall : ∀ j, j < s.size → byt s j ≠ (b.toNat : Int)) : str (cutA b s.data.toList) = s ∧ cutB b s.data.toList = [] ∧ has b s.data.toList = false := by
  have h : has b s.data.toList = false := contains_not hall
  exact ⟨by rw [cutA_all b _ h, str_self], cutB_none b _ h, h⟩

end Tg
end Go.Proofs.YtndglpjkmgcdpaaGreatDoor

/-
  The document's Decode and Encode: the loops.
-/
set_option linter.unusedVariables false
set_option linter.unusedSimpArgs false
namespace Go.Proofs.YtndglpjkmgcdpaaGreatDoor
open Go.RowKit Go.Shelf
namespace Tg
open Oc

theorem vals_le {a b : UInt8} (pre : List Sg) (x : Sg) (hz : x.z = [37, a, b]) : valS x = [byteOf a b] := by unfold valS; rw [hz]

end Tg
end Go.Proofs.YtndglpjkmgcdpaaGreatDoor

/-
  The document's scan, IsPath, plain.
-/
set_option linter.unusedVariables false
set_option linter.unusedSimpArgs false
namespace Go.Proofs.YtndglpjkmgcdpaaGreatDoor
open Go.RowKit Go.Shelf
namespace Tg
open Oc

def incol (c : UInt8) : Bool := (⟨#[58, 64]⟩ : ByteArray).data.toList.contains c
def inmore (more : ByteArray) (c : UInt8) : Bool := more.data.toList.contains c

theorem path_more : ∀ c, pathOk c = (unr c || (sub c || (incol c || inmore ⟨#[47]⟩ c))) := by
  have h : ∀ n : Nat, n < 256 → pathOk (UInt8.ofNat n) = (unr (UInt8.ofNat n) || (sub (UInt8.ofNat n) || (incol (UInt8.ofNat n) || inmore ⟨#[47]⟩ (UInt8.ofNat n)))) := by decide +kernel
  intro c
  have := h c.toNat c.toNat_lt
  simpa using this
theorem query_more : ∀ c, queryOk c = (unr c || (sub c || (incol c || inmore ⟨#[47, 63]⟩ c))) := by
  have h : ∀ n : Nat, n < 256 → queryOk (UInt8.ofNat n) = (unr (UInt8.ofNat n) || (sub (UInt8.ofNat n) || (incol (UInt8.ofNat n) || inmore ⟨#[47, 63]⟩ (UInt8.ofNat n)))) := by decide +kernel
  intro c
  have := h c.toNat c.toNat_lt
  simpa using this

end Tg
end Go.Proofs.YtndglpjkmgcdpaaGreatDoor
