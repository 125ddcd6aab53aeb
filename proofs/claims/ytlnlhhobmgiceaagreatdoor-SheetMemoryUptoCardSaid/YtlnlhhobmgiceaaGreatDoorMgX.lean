/- Several texts as one. -/
import Derived.Test.YtlnlhhobmgiceaaGreatDoorRows
import Derived.Test.YtlnlhhobmgiceaaGreatDoorMgC
import Derived.OpenShut
import Derived.SliceStrings
import Derived.Carry
import Derived.Deep.Strs
import Derived.Deep.DeepHandedRow
import Derived.Lay
import Derived.Stop.Joined
/-
  What SheetMemory is asked of, as it comes in: four texts.
-/
set_option linter.unusedVariables false
set_option linter.unusedSimpArgs false
namespace Go.Proofs.YtlnlhhobmgiceaaGreatDoor
open Go.ChangeShapes Go.WideShapes Go.RowKit
namespace Sr
open Oc

theorem laidOutM : laidOutB Tryz.prog = true := by kernel_rfl
theorem cells9m : Tryz.prog.cellsOf 9 = 1 := by kernel_rfl
theorem cellsM : Tryz.prog.cellsOf 23 = 4 := by kernel_rfl
theorem array4 {α : Type} {cs : Array α} (h : cs.size = 4) : ∃ c0 c1 c2 c3, cs = #[c0, c1, c2, c3] := by
  obtain ⟨l⟩ := cs
  match l, h with
  | [c0, c1, c2, c3], _ => exact ⟨c0, c1, c2, c3, rfl⟩

set_option maxRecDepth 100000 in
theorem open_asked15 {H : Type} {enc : TypeId × Value → H} {W : World} {base : Nat} {v : Value} {d : DataW H} {ps : List MemPlace} (hval : Value.okWide Tryz.prog W .any base 23 v)
    (h : DataW.Trod enc Tryz.prog W 0 (fun _ => true) true 23 v d ps) :
    ∃ (s0 s1 s2 s3 : ByteArray), v = .agg #[.string s0, .string s1, .string s2, .string s3] ∧ s0.size + s1.size + s2.size + s3.size ≤ Rows.uptoBulk d := by
  obtain ⟨cs, rfl, hsz⟩ := okWide_struct Tryz.underlying23 hval
  obtain ⟨c0, c1, c2, c3, rfl⟩ := array4 (hsz.trans cellsM)
  obtain ⟨fuel, hf⟩ := h
  obtain ⟨ys, m, _, hx, hl4, hy4, hfs⟩ := DataW.trod_struct Tryz.underlying23 hf
  have t0 := hfs 0 _ rfl
  have t1 := hfs 1 _ rfl
  have t2 := hfs 2 _ rfl
  have t3 := hfs 3 _ rfl
  match ys, hy4 with
  | [y0, y1, y2, y3], _ =>
    simp [cells9m, Value.cells] at t0 t1 t2 t3
    obtain ⟨s0, e0, q0, w0⟩ := DataW.trod_string Tryz.underlying9 t0
    obtain ⟨s1, e1, q1, w1⟩ := DataW.trod_string Tryz.underlying9 t1
    obtain ⟨s2, e2, q2, w2⟩ := DataW.trod_string Tryz.underlying9 t2
    obtain ⟨s3, e3, q3, w3⟩ := DataW.trod_string Tryz.underlying9 t3
    simp at e0 e1 e2 e3
    subst e0 e1 e2 e3 q0 q1 q2 q3
    refine ⟨s0, s1, s2, s3, rfl, ?_⟩
    have hd : d = .agg [.lit (.string s0.data.toList), .lit (.string s1.data.toList), .lit (.string s2.data.toList), .lit (.string s3.data.toList)] := by
      injection hx
    rw [hd]
    simp only [Rows.uptoBulk, Rows.uptoBulkAll]
    have h0 := size_list s0
    have h1 := size_list s1
    have h2 := size_list s2
    have h3 := size_list s3
    omega

end Sr
end Go.Proofs.YtlnlhhobmgiceaaGreatDoor

/-
  A witness for a row with a condition of its own, at a world whose listed tables are laid.
-/
set_option linter.unusedVariables false
namespace Go.Proofs.YtlnlhhobmgiceaaGreatDoor
namespace Oc

theorem witness_zip {H : Type} {enc : TypeId × Value → H} {C : Checked} {os : Os} {f : FuncId} {fn : Func} {s : OpenSpec} {conds : List PathCond} {apart : Bool} {laid : List (String × DataW Unit)} (modest : Bool) (w0 : World) (args : Array Value) (hos : w0.os = os)
    (hsh : (w0.forCall (fun _ _ => 0) ⟨#[], args, []⟩).Shaped C.prog)
    (hok : Input.okWideB C.prog (w0.forCall (fun _ _ => 0) ⟨#[], args, []⟩) f ⟨#[], args, []⟩ = true)
    (hrow : s.preRow enc C.prog fn conds apart laid (w0.forCall (fun _ _ => 0) ⟨#[], args, []⟩).memory args) :
    ∃ (w : World) (tape : Tape) (i : Input), w.os = os ∧ (w.forCall tape i).Shaped C.prog ∧ i.vars = [] ∧ Input.okWide C.prog (w.forCall tape i) .any w.heap.size f i ∧
      s.preRow enc C.prog fn conds apart laid (w.forCall tape i).memory i.args ∧ ({ modest := modest } : Assume).holds C.prog (lone (Frame.enter C.prog f i.args .normal) [] (w.forCall tape i)) :=
  ⟨w0, fun _ _ => 0, ⟨#[], args, []⟩, hos, hsh, (Input.okWide_of_okWideB (base := 0) hok).1, (Input.okWide_of_okWideB hok).2, hrow, by
    simp only [Assume.holds]
    exact ⟨by simp, by simp, fun _ => Modest.zero, by simp, by simp⟩⟩

end Oc
end Go.Proofs.YtlnlhhobmgiceaaGreatDoor
