/-
  A body, another one, a method and a bool, that came in by value.
-/
import Derived.Test.YtheeloaebilgiabGreatDoorRows
import Derived.Test.YtheeloaebilgiabGreatDoorClass
import Derived.OpenShut
import Derived.SliceStrings
import Derived.Carry
import Derived.Deep.Strs
set_option linter.unusedVariables false
set_option linter.unusedSimpArgs false
namespace Go.Proofs.YtheeloaebilgiabGreatDoor
open Go.ChangeShapes Go.WideShapes Go.RowKit
namespace Tt
open Oc

theorem cellsS : Tryz.prog.cellsOf 9 = 1 := by kernel_rfl
theorem cellsB : Tryz.prog.cellsOf 4 = 1 := by kernel_rfl
theorem cellsOw : Tryz.prog.cellsOf 42 = 4 := by kernel_rfl
theorem array4 {α : Type} {cs : Array α} (h : cs.size = 4) : ∃ c0 c1 c2 c3, cs = #[c0, c1, c2, c3] := by
  obtain ⟨l⟩ := cs
  match l, h with
  | [c0, c1, c2, c3], _ => exact ⟨c0, c1, c2, c3, rfl⟩
theorem list4 {α : Type} {cs : List α} (h : cs.length = 4) : ∃ c0 c1 c2 c3, cs = [c0, c1, c2, c3] := by
  match cs, h with
  | [c0, c1, c2, c3], _ => exact ⟨c0, c1, c2, c3, rfl⟩

set_option maxRecDepth 100000 in
theorem open_own {H : Type} {enc : TypeId × Value → H} {W : World} {base : Nat} {v : Value} {d : DataW H} {ps : List MemPlace} (hval : Value.okWide Tryz.prog W .any base 42 v)
    (h : DataW.Trod enc Tryz.prog W 0 (fun _ => true) true 42 v d ps) :
    ∃ (x y z : ByteArray) (b : Bool), v = .agg #[.string x, .string y, .string z, .bool b] ∧ d = .agg [.lit (.string x.data.toList), .lit (.string y.data.toList), .lit (.string z.data.toList), .lit (.bool b)] ∧ ps = [] ∧ x.size ≤ maxLen ∧ y.size ≤ maxLen ∧ z.size ≤ maxLen := by
  obtain ⟨cs, rfl, hsz⟩ := okWide_struct Tryz.underlying42 hval
  obtain ⟨c0, c1, c2, c3, rfl⟩ := array4 (hsz.trans cellsOw)
  obtain ⟨fuel, hf⟩ := h
  obtain ⟨xs, n, _, hx, hl, hlen, hff⟩ := DataW.trod_struct Tryz.underlying42 hf
  obtain ⟨z0, z1, z2, z3, rfl⟩ := list4 (hlen.trans rfl)
  have f0 := hff 0 _ rfl
  have f1 := hff 1 _ rfl
  have f2 := hff 2 _ rfl
  have f3 := hff 3 _ rfl
  simp [Value.cells, cellsS, cellsB] at f0 f1 f2 f3
  obtain ⟨x, e0, r0, w0⟩ := DataW.trod_string Tryz.underlying9 f0
  obtain ⟨y, e1, r1, w1⟩ := DataW.trod_string Tryz.underlying9 f1
  obtain ⟨z, e2, r2, w2⟩ := DataW.trod_string Tryz.underlying9 f2
  obtain ⟨b, e3, r3⟩ := DataW.trod_bool Tryz.underlying4 f3
  subst r0 r1 r2 r3
  simp at e0 e1 e2 e3 hx
  subst e0 e1 e2 e3
  exact ⟨x, y, z, b, rfl, hx.1, hx.2, w0, w1, w2⟩
theorem shut_own {H : Type} {enc : TypeId × Value → H} {W : World} {base : Nat} {spare : Nat → Bool} {held : Bool} {x y z : ByteArray} {b : Bool} (w : x.size ≤ maxLen ∧ y.size ≤ maxLen ∧ z.size ≤ maxLen) :
    DataW.Trod enc Tryz.prog W base spare held 42 (.agg #[.string x, .string y, .string z, .bool b]) (.agg [.lit (.string x.data.toList), .lit (.string y.data.toList), .lit (.string z.data.toList), .lit (.bool b)]) [] := by
  obtain ⟨w0, w1, w2⟩ := w
  refine ⟨2, ?_⟩
  simp [DataW.trod, Value.cells, Tryz.underlying42, Tryz.underlying4, Tryz.underlying9, cellsS, cellsB, cellsOw, w0, w1, w2]

end Tt
end Go.Proofs.YtheeloaebilgiabGreatDoor
