/-
  A tag that came in, by value.
-/
import Derived.Test.YtheeloaebilgiabGreatDoorRows
import Derived.Test.YtheeloaebilgiabGreatDoorClass
import Derived.OpenShut
import Derived.SliceStrings
import Derived.Carry
import Derived.Deep.Strs
set_option linter.unusedVariables false
set_option linter.unusedSimpArgs false
namespace Go.Proofs.YtheeloaebilgiabGreatDoor
open Go.ChangeShapes Go.WideShapes Go.RowKit
namespace Tt
open Oc

theorem cellsS : Tryz.prog.cellsOf 9 = 1 := by kernel_rfl
theorem cellsB : Tryz.prog.cellsOf 4 = 1 := by kernel_rfl
theorem cellsTg : Tryz.prog.cellsOf 27 = 2 := by kernel_rfl
theorem array2 {α : Type} {cs : Array α} (h : cs.size = 2) : ∃ c0 c1, cs = #[c0, c1] := by
  obtain ⟨l⟩ := cs
  match l, h with
  | [c0, c1], _ => exact ⟨c0, c1, rfl⟩
theorem list2 {α : Type} {cs : List α} (h : cs.length = 2) : ∃ c0 c1, cs = [c0, c1] := by
  match cs, h with
  | [c0, c1], _ => exact ⟨c0, c1, rfl⟩

set_option maxRecDepth 100000 in
theorem open_tag {H : Type} {enc : TypeId × Value → H} {W : World} {base : Nat} {v : Value} {d : DataW H} {ps : List MemPlace} (hval : Value.okWide Tryz.prog W .any base 27 v)
    (h : DataW.Trod enc Tryz.prog W 0 (fun _ => true) true 27 v d ps) :
    ∃ (b : Bool) (x : ByteArray), v = .agg #[.bool b, .string x] ∧ d = .agg [.lit (.bool b), .lit (.string x.data.toList)] ∧ ps = [] ∧ x.size ≤ maxLen := by
  obtain ⟨cs, rfl, hsz⟩ := okWide_struct Tryz.underlying27 hval
  obtain ⟨c0, c1, rfl⟩ := array2 (hsz.trans cellsTg)
  obtain ⟨fuel, hf⟩ := h
  obtain ⟨xs, n, _, hx, hl, hlen, hff⟩ := DataW.trod_struct Tryz.underlying27 hf
  obtain ⟨z0, z1, rfl⟩ := list2 (hlen.trans rfl)
  have f0 := hff 0 _ rfl
  have f1 := hff 1 _ rfl
  simp [Value.cells, cellsS, cellsB] at f0 f1
  obtain ⟨b, e0, r0⟩ := DataW.trod_bool Tryz.underlying4 f0
  obtain ⟨x, e1, r1, w1⟩ := DataW.trod_string Tryz.underlying9 f1
  subst r0 r1
  simp at e0 e1 hx
  subst e0 e1
  exact ⟨b, x, rfl, hx.1, hx.2, w1⟩
theorem shut_tag {H : Type} {enc : TypeId × Value → H} {W : World} {base : Nat} {spare : Nat → Bool} {held : Bool} {b : Bool} {x : ByteArray} (w1 : x.size ≤ maxLen) :
    DataW.Trod enc Tryz.prog W base spare held 27 (.agg #[.bool b, .string x]) (.agg [.lit (.bool b), .lit (.string x.data.toList)]) [] := by
  refine ⟨2, ?_⟩
  simp [DataW.trod, Value.cells, Tryz.underlying27, Tryz.underlying4, Tryz.underlying9, cellsS, cellsB, cellsTg, w1]

end Tt
end Go.Proofs.YtheeloaebilgiabGreatDoor
