import Derived.Test.YtdcfhnbagldilaaGreatDoorMgY
import Derived.Laws.BitsAllLaws
import Derived.Test.YtdcfhnbagldilaaGreatDoorMgH
import Derived.Test.YtdcfhnbagldilaaGreatDoorMgG
set_option linter.unusedVariables false
set_option linter.unusedSimpArgs false
set_option maxRecDepth 100000
namespace Go.Proofs.YtdcfhnbagldilaaGreatDoor
open Go.RowKit Go.Shelf
namespace Ck
open Oc Tg _root_.Go.Proofs.YtdcfhnbagldilaaGreatDoor.Fd
def K36 : ByteArray := ⟨#[48, 49, 50, 51, 52, 53, 54, 55, 56, 57, 97, 98, 99, 100, 101, 102, 103, 104, 105, 106, 107, 108, 109, 110, 111, 112, 113, 114, 115, 116, 117, 118, 119, 120, 121, 122]⟩
def Tail (f : Nat → Int) (ds : List UInt8) : Prop := ∀ j, j < ds.length → f (65 - ds.length + j) = ((ds.getD j 0).toNat : Int)
theorem Tail.nil (f : Nat → Int) : Tail f [] := fun j hj => by cases hj
theorem Tail.cons {f : Nat → Int} {ds : List UInt8} (h : Tail f ds) (hl : ds.length < 65) (c : UInt8) : Tail (fun j => if j = 64 - ds.length then (c.toNat : Int) else f j) (c :: ds) := by
  intro j hj
  simp only [List.length_cons] at hj ⊢
  cases j with
  | zero =>
    rw [if_pos (by omega)]
    rfl
  | succ j =>
    rw [if_neg (by omega)]
    have := h j (by omega)
    rw [show 65 - (ds.length + 1) + (j + 1) = 65 - ds.length + j from by omega, this]
    rfl
end Ck
end Go.Proofs.YtdcfhnbagldilaaGreatDoor
set_option linter.unusedVariables false
set_option linter.unusedSimpArgs false
namespace Go.Proofs.YtdcfhnbagldilaaGreatDoor
open Go.RowKit Go.Shelf
namespace Oc
end Oc
end Go.Proofs.YtdcfhnbagldilaaGreatDoor
set_option linter.unusedVariables false
set_option linter.unusedSimpArgs false
namespace Go.Proofs.YtdcfhnbagldilaaGreatDoor
open Go.RowKit Go.Shelf
namespace Oc
end Oc
end Go.Proofs.YtdcfhnbagldilaaGreatDoor
set_option linter.unusedVariables false
set_option linter.unusedSimpArgs false
namespace Go.Proofs.YtdcfhnbagldilaaGreatDoor
open Go.RowKit Go.Shelf
namespace Oc
end Oc
end Go.Proofs.YtdcfhnbagldilaaGreatDoor
