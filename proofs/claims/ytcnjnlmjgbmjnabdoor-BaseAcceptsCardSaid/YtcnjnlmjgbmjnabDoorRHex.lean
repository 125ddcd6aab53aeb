/-
  The document's Hex, Digit, Unhex.
-/
import Derived.Test.YtcnjnlmjgbmjnabDoorBUnhex
set_option linter.unusedVariables false
set_option linter.unusedSimpArgs false
namespace Go.Proofs.YtcnjnlmjgbmjnabDoor
open Go.RowKit
namespace Bs

attribute [local go_sem ↓] Go.wp_at_zero Go.wp_at_succ

theorem own_empty (w : World) : Own w.heap.size (.slice (some ⟨w.heap.size, 0, none⟩) 0 0) [] (w.alloc (.cells #[] 5)) := own_made w 0 (by omega) #[] rfl

theorem prs_take (l : List UInt8) (k : Nat) (h : 2 * k + 1 < l.length) : (prs l).take (k + 1) = (prs l).take k ++ [UInt8.ofNat (hd l (2 * k) * 16 + hd l (2 * k + 1))] := by
  rw [take_snoc _ k (by rw [prs_length]; omega), prs_get l k h]

end Bs
end Go.Proofs.YtcnjnlmjgbmjnabDoor
