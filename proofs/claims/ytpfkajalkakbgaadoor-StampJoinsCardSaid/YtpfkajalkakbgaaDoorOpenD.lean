/-
  A date that came in, by value.
-/
import Derived.Test.YtpfkajalkakbgaaDoorRows
import Derived.Test.YtpfkajalkakbgaaDoorSJoin
import Derived.OpenShut
import Derived.SliceStrings
import Derived.Carry
import Derived.Deep.Strs
set_option linter.unusedVariables false
set_option linter.unusedSimpArgs false
namespace Go.Proofs.YtpfkajalkakbgaaDoor
open Go.ChangeShapes Go.WideShapes Go.RowKit
namespace Bs

def W7 (y m d h i s k : Int) : Prop := I64 y ∧ I64 m ∧ I64 d ∧ I64 h ∧ I64 i ∧ I64 s ∧ I64 k
theorem wf_i64 {x : Int} : (Lit.int .i64 x).wf = true ↔ I64 x := by
  unfold I64
  simp [Lit.wf, IntKind.min, IntKind.max, IntKind.signed, IntKind.bits]
theorem array7 {α : Type} {cs : Array α} (h : cs.size = 7) : ∃ c0 c1 c2 c3 c4 c5 c6, cs = #[c0, c1, c2, c3, c4, c5, c6] := by
  obtain ⟨l⟩ := cs
  match l, h with
  | [c0, c1, c2, c3, c4, c5, c6], _ => exact ⟨c0, c1, c2, c3, c4, c5, c6, rfl⟩
theorem list7 {α : Type} {cs : List α} (h : cs.length = 7) : ∃ c0 c1 c2 c3 c4 c5 c6, cs = [c0, c1, c2, c3, c4, c5, c6] := by
  match cs, h with
  | [c0, c1, c2, c3, c4, c5, c6], _ => exact ⟨c0, c1, c2, c3, c4, c5, c6, rfl⟩
theorem cellsI : Tryd.prog.cellsOf 3 = 1 := by kernel_rfl
theorem cellsD : Tryd.prog.cellsOf 32 = 7 := by kernel_rfl

set_option maxRecDepth 100000 in
theorem open_date {H : Type} {enc : TypeId × Value → H} {W : World} {base : Nat} {v : Value} {d : DataW H} {ps : List MemPlace} (hval : Value.okWide Tryd.prog W .any base 32 v)
    (h : DataW.Trod enc Tryd.prog W 0 (fun _ => true) true 32 v d ps) :
    ∃ y m dd hh i s k, v = dv7 y m dd hh i s k ∧ d = .agg [.lit (.int .i64 y), .lit (.int .i64 m), .lit (.int .i64 dd), .lit (.int .i64 hh), .lit (.int .i64 i), .lit (.int .i64 s), .lit (.int .i64 k)] ∧ ps = [] ∧ W7 y m dd hh i s k := by
  obtain ⟨cs, rfl, hsz⟩ := okWide_struct Tryd.underlying32 hval
  obtain ⟨c0, c1, c2, c3, c4, c5, c6, rfl⟩ := array7 (hsz.trans cellsD)
  obtain ⟨fuel, hf⟩ := h
  obtain ⟨xs, n, _, hx, hl, hlen, hff⟩ := DataW.trod_struct Tryd.underlying32 hf
  obtain ⟨z0, z1, z2, z3, z4, z5, z6, rfl⟩ := list7 (hlen.trans rfl)
  have f0 := hff 0 _ rfl
  have f1 := hff 1 _ rfl
  have f2 := hff 2 _ rfl
  have f3 := hff 3 _ rfl
  have f4 := hff 4 _ rfl
  have f5 := hff 5 _ rfl
  have f6 := hff 6 _ rfl
  simp [Value.cells, cellsI] at f0 f1 f2 f3 f4 f5 f6
  obtain ⟨n0, e0, rfl, w0⟩ := DataW.trod_int Tryd.underlying3 f0
  obtain ⟨n1, e1, rfl, w1⟩ := DataW.trod_int Tryd.underlying3 f1
  obtain ⟨n2, e2, rfl, w2⟩ := DataW.trod_int Tryd.underlying3 f2
  obtain ⟨n3, e3, rfl, w3⟩ := DataW.trod_int Tryd.underlying3 f3
  obtain ⟨n4, e4, rfl, w4⟩ := DataW.trod_int Tryd.underlying3 f4
  obtain ⟨n5, e5, rfl, w5⟩ := DataW.trod_int Tryd.underlying3 f5
  obtain ⟨n6, e6, rfl, w6⟩ := DataW.trod_int Tryd.underlying3 f6
  simp at e0 e1 e2 e3 e4 e5 e6 hx
  subst e0 e1 e2 e3 e4 e5 e6
  exact ⟨n0, n1, n2, n3, n4, n5, n6, rfl, hx.1, hx.2, wf_i64.1 w0, wf_i64.1 w1, wf_i64.1 w2, wf_i64.1 w3, wf_i64.1 w4, wf_i64.1 w5, wf_i64.1 w6⟩
theorem shut_date {H : Type} {enc : TypeId × Value → H} {W : World} {base : Nat} {spare : Nat → Bool} {held : Bool} {y m d h i s k : Int} (x : W7 y m d h i s k) :
    DataW.Trod enc Tryd.prog W base spare held 32 (dv7 y m d h i s k) (.agg [.lit (.int .i64 y), .lit (.int .i64 m), .lit (.int .i64 d), .lit (.int .i64 h), .lit (.int .i64 i), .lit (.int .i64 s), .lit (.int .i64 k)]) [] := by
  obtain ⟨x0, x1, x2, x3, x4, x5, x6⟩ := x
  have w0 := wf_i64.2 x0
  have w1 := wf_i64.2 x1
  have w2 := wf_i64.2 x2
  have w3 := wf_i64.2 x3
  have w4 := wf_i64.2 x4
  have w5 := wf_i64.2 x5
  have w6 := wf_i64.2 x6
  refine ⟨2, ?_⟩
  simp [DataW.trod, dv7, Value.cells, Tryd.underlying32, Tryd.underlying3, cellsI, cellsD, w0, w1, w2, w3, w4, w5, w6]

end Bs
end Go.Proofs.YtpfkajalkakbgaaDoor
