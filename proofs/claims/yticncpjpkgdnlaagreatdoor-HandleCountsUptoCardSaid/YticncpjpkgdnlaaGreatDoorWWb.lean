/-
  A moment in a form: small things.
-/
import Derived.Test.YticncpjpkgdnlaaGreatDoorWPad
import Derived.Deep.RegionHeld3
set_option linter.unusedVariables false
set_option linter.unusedSimpArgs false
namespace Go.Proofs.YticncpjpkgdnlaaGreatDoor
open Go.RowKit
namespace Bs

theorem p2_48 {n : Nat} (h : n < 100) : p2 48 n = d2 n := by
  unfold p2 d2
  split
  · rw [dg_zero (n := n / 10) (by omega)]
  · rfl
theorem p2_len (c : UInt8) (n : Nat) : (p2 c n).length = 2 := by unfold p2; split <;> rfl
theorem ret_si {a b : ByteArray} {k : IntKind} {c d : Int} (h : a = b) (h' : c = d) : Ending.returned (.tuple #[.string a, .int k c]) = .returned (.tuple #[.string b, .int k d]) := by rw [h, h']
theorem shorts_3 (i : Nat) (hi : i < 7) : (shorts.getD i []).length = 3 := by
  have : ∀ i : Fin 7, (shorts.getD i.val []).length = 3 := by decide
  exact this ⟨i, hi⟩
theorem mons_3 (i : Nat) (hi : i < 12) : (mons.getD i []).length = 3 := by
  have : ∀ i : Fin 12, (mons.getD i.val []).length = 3 := by decide
  exact this ⟨i, hi⟩
theorem toN {x : Int} (h : 0 ≤ x) : ∃ n : Nat, x = (n : Int) := ⟨x.toNat, by omega⟩

end Bs
end Go.Proofs.YticncpjpkgdnlaaGreatDoor
