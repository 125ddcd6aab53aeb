/-
  A slice of texts appended to one of the call's own.
-/
import Derived.Test.YtmgadjnllahbiaaDoorSameL
import Derived.Laws.AppendOwnNone
set_option linter.unusedVariables false
set_option linter.unusedSimpArgs false
namespace Go.Proofs.YtmgadjnllahbiaaDoor
open Go.RowKit Go.Shelf
namespace Oc

theorem wpList_wanted {P : Program} {ops : Array Oper} {rest : List Oper} {o : Oper} {a : Act} {w : World} {Q : Exit → Act → World → Prop} (hw : Region.wanted o (yielded ops a.tmps) = true)
    (h : o.wp P a w (wpList P ops Q rest) Q) : wpList P ops Q (o :: rest) a w := by
  rw [wpList, if_pos hw]
  exact .inl h

theorem listR_split {a b : List UInt8} (ha : (listR a).2 = 0) (hb : (listR b).2 = 0) : listR (a ++ 44 :: b) = ((listR a).1 ++ (listR b).1, 0) := by
  unfold listR at *
  cases h1 : lst [] a with
  | none => rw [h1] at ha; cases ha
  | some t =>
    cases h2 : lst [] b with
    | none => rw [h2] at hb; cases hb
    | some u =>
      rw [lst_split a.length a [] b t (Nat.le_refl _) h1, h2]
      rfl

end Oc
end Go.Proofs.YtmgadjnllahbiaaDoor
