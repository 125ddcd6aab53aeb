/-
  Tokens, bytes of fields; the answers that keep the laws awake.
-/
import Derived.Test.YtpoefoepmigbeaaDoorSame
import Derived.Test.YtpoefoepmigbeaaDoorRNum
set_option linter.unusedVariables false
set_option linter.unusedSimpArgs false
namespace Go.Proofs.YtpoefoepmigbeaaDoor
open Go.RowKit
namespace Oc

theorem empty_of {s : ByteArray} (h : s.size = 0) : s.toList.isEmpty = true := by rw [ByteArray.toList_eq]; simp [List.length_eq_zero_iff.1 ((size_list s).trans h)]
theorem nonempty_of {s : ByteArray} (h : ¬ s.size = 0) : s.toList.isEmpty = false := by
  rw [ByteArray.toList_eq]
  cases e : s.data.toList with
  | nil => have := size_list s; rw [e] at this; simp at this; omega
  | cons _ _ => rfl
theorem list_ne {s : ByteArray} (h : ¬ s.size = 0) : s.data.toList ≠ [] := by
  intro e
  have := size_list s
  rw [e] at this
  simp at this
  omega
theorem isTok_empty {s : ByteArray} (h : s.size = 0) : isTok s.data.toList = false := by
  have := List.length_eq_zero_iff.1 ((size_list s).trans h)
  rw [this]; rfl

theorem low_ab : lowS ⟨#[97, 66]⟩ = ⟨#[97, 98]⟩ := by decide +kernel
theorem num_12 : numR 10 (⟨#[49, 50]⟩ : ByteArray).data.toList 12 = (12, 0) := by decide +kernel
theorem tok_x : isTok (⟨#[120]⟩ : ByteArray).data.toList = true := by decide +kernel

end Oc
end Go.Proofs.YtpoefoepmigbeaaDoor
