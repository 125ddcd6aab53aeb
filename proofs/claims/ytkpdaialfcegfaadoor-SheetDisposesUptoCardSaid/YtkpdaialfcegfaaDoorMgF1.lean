/- Several texts as one. -/
import Derived.Test.YtkpdaialfcegfaaDoorDsC
import Derived.Test.YtkpdaialfcegfaaDoorMgE1
import Derived.Test.YtkpdaialfcegfaaDoorRows
import Derived.Deep.DeepHandedRow
import Derived.Lay
import Derived.Stop.Joined
/-
  The law SheetDisposes.
-/
set_option linter.unusedVariables false
set_option linter.unusedSimpArgs false
namespace Go.Proofs.YtkpdaialfcegfaaDoor
open Go.RowKit Go.Shelf
namespace Ds
open Oc

theorem rdq {v : Value} {t : List Prm} {w : World} (h : RdP v t w) : Tg.RdQ v t w := h
theorem disR_len (l : List UInt8) : (disR l).2.1.length ≤ l.length := by
  unfold disR
  dsimp only
  split
  · exact Nat.zero_le _
  · show (List.map lowN _).length ≤ _
    rw [List.length_map]
    have h1 := paramsR_short ((trim l).drop (tokLen (trim l)))
    have h2 := trim_le l
    rw [List.length_drop] at h1
    omega

set_option maxRecDepth 100000 in
set_option maxHeartbeats 2000000 in
theorem walk_SheetDisposes (s : ByteArray) (hs : s.size ≤ 1048576) (w : World) (ht : Tab w) (hm : Tg.ML w) :
    Calls Tryd.prog 6 #[.string s] w fun e w' => e = .returned (.bool true) ∧ Below w.heap.size w w' := by
  have HA : Hid (∀ w, Tg.ML w → _) := fun w h => Tg.awake15_any w h
  have HQ : Hid (∀ w, Tab w → Tg.ML w → _) := fun w t h => Disposition_any s (by omega) w t h
  have HR : Hid (∀ w, _) := fun w => rDisposition_any s (by omega) w
  have hl := disR_len s.data.toList
  rw [size_list] at hl
  have HM : Hid (Tg.ML w) := hm
  have HT : Hid (Tab w) := ht
  clear hm ht
  generalize disR s.data.toList = q at *
  obtain ⟨q1, q2, q3⟩ := q
  dsimp only at HQ HR hl
  generalize str q1 = X at *
  go_enter Tryd.func6, Tryd.ntmps6
  go_wp2_with fail
  refine (HQ.out _ HT.out HM.out).mono ?_
  rintro e w1 ⟨v1, rfl, o1, k1⟩
  have HB1 : Hid (Below w.heap.size w w1) := k1
  have r1 : Hid (RdP v1 q2 w1) := OwnP.rd o1
  have O1 : Hid (OwnP 58 w.heap.size v1 q2 w1) := o1
  clear o1 k1
  go_wp2_with fail
  refine (HR.out _).mono ?_
  rintro e w2 ⟨v2, rfl, o2, k2⟩
  have HB2 : Hid (Below w.heap.size w w2) := HB1.out.trans (k2.mono HB1.out.size)
  have O12 : Hid (OwnP 58 w.heap.size v1 q2 w2) := Oc.OwnP.below O1.out k2
  have O2 : Hid (OwnP 59 w1.heap.size v2 q2 w2) := o2
  clear o2 k2
  go_wp2_with fail
  refine (HA.out _ (HM.out.below HB2.out)).mono ?_
  rintro e w3 ⟨rfl, k3⟩
  have HB3 : Hid (Below w.heap.size w w3) := HB2.out.trans (k3.mono HB2.out.size)
  have HP : Hid (Calls Tryd.prog 11 #[v1, v2] w3 fun e w' => e = .returned (.bool true) ∧ ∃ n, w' = w3.drewN n) := Tg.pairs15_any v1 v2 q2 w3 (rdq (OwnP.rd (Oc.OwnP.below O12.out k3))) (rdq (OwnP.rd (Oc.OwnP.below O2.out k3))) (by omega)
  clear k3
  go_wp2_with fail
  refine Calls.mono HP.out ?_
  rintro e w4 ⟨rfl, n, rfl⟩
  go_wp2
  go_ret
  exact ⟨rfl, HB3.out.trans ⟨rfl, rfl, rfl, Nat.le_refl _, fun _ _ => rfl⟩⟩

end Ds
end Go.Proofs.YtkpdaialfcegfaaDoor

/-
  A witness for a row with a condition of its own, at a world whose listed tables are laid.
-/
set_option linter.unusedVariables false
namespace Go.Proofs.YtkpdaialfcegfaaDoor
namespace Oc

theorem witness_zip {H : Type} {enc : TypeId × Value → H} {C : Checked} {os : Os} {f : FuncId} {fn : Func} {s : OpenSpec} {conds : List PathCond} {apart : Bool} {laid : List (String × DataW Unit)} (modest : Bool) (w0 : World) (args : Array Value) (hos : w0.os = os)
    (hsh : (w0.forCall (fun _ _ => 0) ⟨#[], args, []⟩).Shaped C.prog)
    (hok : Input.okWideB C.prog (w0.forCall (fun _ _ => 0) ⟨#[], args, []⟩) f ⟨#[], args, []⟩ = true)
    (hrow : s.preRow enc C.prog fn conds apart laid (w0.forCall (fun _ _ => 0) ⟨#[], args, []⟩).memory args) :
    ∃ (w : World) (tape : Tape) (i : Input), w.os = os ∧ (w.forCall tape i).Shaped C.prog ∧ i.vars = [] ∧ Input.okWide C.prog (w.forCall tape i) .any w.heap.size f i ∧
      s.preRow enc C.prog fn conds apart laid (w.forCall tape i).memory i.args ∧ ({ modest := modest } : Assume).holds C.prog (lone (Frame.enter C.prog f i.args .normal) [] (w.forCall tape i)) :=
  ⟨w0, fun _ _ => 0, ⟨#[], args, []⟩, hos, hsh, (Input.okWide_of_okWideB (base := 0) hok).1, (Input.okWide_of_okWideB hok).2, hrow, by
    simp only [Assume.holds]
    exact ⟨by simp, by simp, fun _ => Modest.zero, by simp, by simp⟩⟩

end Oc
end Go.Proofs.YtkpdaialfcegfaaDoor
