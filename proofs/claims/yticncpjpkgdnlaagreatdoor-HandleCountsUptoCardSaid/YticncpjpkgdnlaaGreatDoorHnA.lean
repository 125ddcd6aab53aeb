/-
  handle: what the texts of message lean on, without chunks.
-/
import Derived.Test.YticncpjpkgdnlaaGreatDoorMgC
set_option linter.unusedVariables false
set_option linter.unusedSimpArgs false
namespace Go.Proofs.YticncpjpkgdnlaaGreatDoor
open Go.RowKit Go.Shelf
namespace Ck
open Oc Tg _root_.Go.Proofs.YticncpjpkgdnlaaGreatDoor.Fd
theorem ownF_form {T B : Nat} {w : World} {v : Value} {l : List Fl} (h : OwnF T B v l w) : ∃ a c, v = .slice a l.length c := Fd.OwnF.form h
end Ck
namespace Ms
def i64 (n : Int) : Prop := -9223372036854775808 ≤ n ∧ n ≤ 9223372036854775807
end Ms
end Go.Proofs.YticncpjpkgdnlaaGreatDoor
