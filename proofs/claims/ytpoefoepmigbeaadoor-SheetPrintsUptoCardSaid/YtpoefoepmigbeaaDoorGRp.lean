/-
  The document's scan, IsPath, plain.
-/
import Derived.Test.YtpoefoepmigbeaaDoorGRs
set_option linter.unusedVariables false
set_option linter.unusedSimpArgs false
namespace Go.Proofs.YtpoefoepmigbeaaDoor
open Go.RowKit Go.Shelf
namespace Tg
open Oc

def incol (c : UInt8) : Bool := (⟨#[58, 64]⟩ : ByteArray).data.toList.contains c
def inmore (more : ByteArray) (c : UInt8) : Bool := more.data.toList.contains c

theorem path_more : ∀ c, pathOk c = (unr c || (sub c || (incol c || inmore ⟨#[47]⟩ c))) := by
  have h : ∀ n : Nat, n < 256 → pathOk (UInt8.ofNat n) = (unr (UInt8.ofNat n) || (sub (UInt8.ofNat n) || (incol (UInt8.ofNat n) || inmore ⟨#[47]⟩ (UInt8.ofNat n)))) := by decide +kernel
  intro c
  have := h c.toNat c.toNat_lt
  simpa using this
theorem query_more : ∀ c, queryOk c = (unr c || (sub c || (incol c || inmore ⟨#[47, 63]⟩ c))) := by
  have h : ∀ n : Nat, n < 256 → queryOk (UInt8.ofNat n) = (unr (UInt8.ofNat n) || (sub (UInt8.ofNat n) || (incol (UInt8.ofNat n) || inmore ⟨#[47, 63]⟩ (UInt8.ofNat n)))) := by decide +kernel
  intro c
  have := h c.toNat c.toNat_lt
  simpa using this

end Tg
end Go.Proofs.YtpoefoepmigbeaaDoor
