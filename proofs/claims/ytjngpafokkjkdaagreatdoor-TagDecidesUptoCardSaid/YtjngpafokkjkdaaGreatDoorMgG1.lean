/- Several texts as one. -/
import Derived.Test.YtjngpafokkjkdaaGreatDoorMgF1
import Derived.Test.YtjngpafokkjkdaaGreatDoorRows
import Derived.Deep.DeepHandedRow
import Derived.Lay
import Derived.Stop.Joined
/-
  The law TagDecides, as its row hands it.
-/
set_option linter.unusedVariables false
namespace Go.Proofs.YtjngpafokkjkdaaGreatDoor
open Go.RowKit Go.Shelf
namespace Tt
open Oc

theorem walkb_TagDecides (A : ByteArray) (u : Value) (t : List Fd.Fl) (n : Int) (i : -9223372036854775808 ≤ n ∧ n ≤ 9223372036854775807) (b : A.size + Fd.bulkfields t ≤ 1048576) (s : St) (is : -9223372036854775808 ≤ s.tm ∧ s.tm ≤ 9223372036854775807) (bs : s.own.2.length ≤ 1048576) (W : World) (R : Fd.InF u t W) (tab : Fd.ML W ∧ Bs.Tb W) :
    Calls Tryz.prog 3 #[.agg #[.string A, u, .int .i64 n], .agg #[.bool s.th, .bool s.own.1, .string (str s.own.2), .bool s.tg, .int .i64 s.tm, .bool s.td]] W fun e w' => e = .returned (.bool true) ∧ Below W.heap.size W w' := by
  unfold Fd.bulkfields at b
  exact walk_TagDecides A u t n s i is (by omega) (by omega) W R tab.1 tab.2

end Tt
end Go.Proofs.YtjngpafokkjkdaaGreatDoor

/-
  A witness for a row with a condition of its own, at a world whose listed tables are laid.
-/
set_option linter.unusedVariables false
namespace Go.Proofs.YtjngpafokkjkdaaGreatDoor
namespace Oc

theorem witness_zip {H : Type} {enc : TypeId × Value → H} {C : Checked} {os : Os} {f : FuncId} {fn : Func} {s : OpenSpec} {conds : List PathCond} {apart : Bool} {laid : List (String × DataW Unit)} (modest : Bool) (w0 : World) (args : Array Value) (hos : w0.os = os)
    (hsh : (w0.forCall (fun _ _ => 0) ⟨#[], args, []⟩).Shaped C.prog)
    (hok : Input.okWideB C.prog (w0.forCall (fun _ _ => 0) ⟨#[], args, []⟩) f ⟨#[], args, []⟩ = true)
    (hrow : s.preRow enc C.prog fn conds apart laid (w0.forCall (fun _ _ => 0) ⟨#[], args, []⟩).memory args) :
    ∃ (w : World) (tape : Tape) (i : Input), w.os = os ∧ (w.forCall tape i).Shaped C.prog ∧ i.vars = [] ∧ Input.okWide C.prog (w.forCall tape i) .any w.heap.size f i ∧
      s.preRow enc C.prog fn conds apart laid (w.forCall tape i).memory i.args ∧ ({ modest := modest } : Assume).holds C.prog (lone (Frame.enter C.prog f i.args .normal) [] (w.forCall tape i)) :=
  ⟨w0, fun _ _ => 0, ⟨#[], args, []⟩, hos, hsh, (Input.okWide_of_okWideB (base := 0) hok).1, (Input.okWide_of_okWideB hok).2, hrow, by
    simp only [Assume.holds]
    exact ⟨by simp, by simp, fun _ => Modest.zero, by simp, by simp⟩⟩

end Oc
end Go.Proofs.YtjngpafokkjkdaaGreatDoor
