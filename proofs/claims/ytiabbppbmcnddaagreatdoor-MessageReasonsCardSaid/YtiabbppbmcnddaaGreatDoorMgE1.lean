/- Several texts as one. -/
import Derived.Test.YtiabbppbmcnddaaGreatDoorMtB
import Derived.Test.YtiabbppbmcnddaaGreatDoorMtD
import Derived.Test.YtiabbppbmcnddaaGreatDoorRows
import Derived.Deep.DeepHandedRow
import Derived.Lay
import Derived.Stop.Joined
/-
  The law MessageReasons, walked.
-/
set_option linter.unusedVariables false
set_option linter.unusedSimpArgs false
set_option maxRecDepth 100000
namespace Go.Proofs.YtiabbppbmcnddaaGreatDoor
open Go.RowKit Go.Shelf
namespace Ms
open Oc Tg _root_.Go.Proofs.YtiabbppbmcnddaaGreatDoor.Fd _root_.Go.Proofs.YtiabbppbmcnddaaGreatDoor.Ck

set_option maxHeartbeats 2000000 in
theorem walk_MessageReasons (m : ByteArray) (n : Int) (hn : i64 n) (w : World) (hw : Env w) (hp : Pow w) :
    Calls Tryz.prog 3 #[.string m, .int .i64 n] w fun e w' => e = .returned (.bool true) ∧ Below w.heap.size w w' := by
  have HA : Hid (Calls _ _ _ _ _) := awake_any w hw hp
  have H1 : Hid (∀ W, Calls _ _ _ W _) := fun W => Reason_any n W
  have H2 : Hid (∀ W, Calls _ _ _ W _) := fun W => rReason_any n hn W
  have H3 : Hid (∀ W, Calls _ _ _ W _) := fun W => Bodyless_any m n hn W
  have H4 : Hid (∀ W, Calls _ _ _ W _) := fun W => rBodyless_any m n W
  have H5 : Hid (∀ W, Calls _ _ _ W _) := fun W => Interim_any n hn W
  have H6 : Hid (∀ W, Calls _ _ _ W _) := fun W => rInterim_any n W
  generalize str (rsL n) = R at *
  generalize bdl m.data.toList n = B at *
  generalize itm n = I at *
  clear hw hp
  go_enter Tryz.func3, Tryz.ntmps3
  go_wp2_with fail
  refine HA.out.mono ?_
  rintro e w1 ⟨rfl, hb1⟩
  have HB1 : Hid (Below w.heap.size w w1) := hb1
  clear hb1
  go_wp2_with fail
  refine (H1.out _).mono ?_
  rintro e w2 ⟨rfl, hw2⟩
  rw [hw2]
  clear hw2
  go_wp2_with fail
  refine (H2.out _).mono ?_
  rintro e w3 ⟨rfl, hb3⟩
  have HB3 : Hid (Below w.heap.size w w3) := bel_trans HB1.out hb3
  clear hb3
  go_wp2_with fail
  refine (H3.out _).mono ?_
  rintro e w4 ⟨rfl, hw4⟩
  rw [hw4]
  clear hw4
  go_wp2_with fail
  refine (H4.out _).mono ?_
  rintro e w5 ⟨rfl, hw5⟩
  rw [hw5]
  clear hw5
  go_wp2_with fail
  refine (H5.out _).mono ?_
  rintro e w6 ⟨rfl, hw6⟩
  rw [hw6]
  clear hw6
  go_wp2_with fail
  refine (H6.out _).mono ?_
  rintro e w7 ⟨rfl, hw7⟩
  rw [hw7]
  clear hw7
  go_wp2
  go_ret
  exact ⟨rfl, HB3.out⟩

end Ms
end Go.Proofs.YtiabbppbmcnddaaGreatDoor

/-
  A witness for a row with a condition of its own, at a world whose listed tables are laid.
-/
set_option linter.unusedVariables false
namespace Go.Proofs.YtiabbppbmcnddaaGreatDoor
namespace Oc

theorem witness_zip {H : Type} {enc : TypeId × Value → H} {C : Checked} {os : Os} {f : FuncId} {fn : Func} {s : OpenSpec} {conds : List PathCond} {apart : Bool} {laid : List (String × DataW Unit)} (modest : Bool) (w0 : World) (args : Array Value) (hos : w0.os = os)
    (hsh : (w0.forCall (fun _ _ => 0) ⟨#[], args, []⟩).Shaped C.prog)
    (hok : Input.okWideB C.prog (w0.forCall (fun _ _ => 0) ⟨#[], args, []⟩) f ⟨#[], args, []⟩ = true)
    (hrow : s.preRow enc C.prog fn conds apart laid (w0.forCall (fun _ _ => 0) ⟨#[], args, []⟩).memory args) :
    ∃ (w : World) (tape : Tape) (i : Input), w.os = os ∧ (w.forCall tape i).Shaped C.prog ∧ i.vars = [] ∧ Input.okWide C.prog (w.forCall tape i) .any w.heap.size f i ∧
      s.preRow enc C.prog fn conds apart laid (w.forCall tape i).memory i.args ∧ ({ modest := modest } : Assume).holds C.prog (lone (Frame.enter C.prog f i.args .normal) [] (w.forCall tape i)) :=
  ⟨w0, fun _ _ => 0, ⟨#[], args, []⟩, hos, hsh, (Input.okWide_of_okWideB (base := 0) hok).1, (Input.okWide_of_okWideB hok).2, hrow, by
    simp only [Assume.holds]
    exact ⟨by simp, by simp, fun _ => Modest.zero, by simp, by simp⟩⟩

end Oc
end Go.Proofs.YtiabbppbmcnddaaGreatDoor
