/-
  A target that came in.
-/
import Derived.Test.YtjiebnieceffoaaGreatDoorRows
import Derived.Test.YtjiebnieceffoaaGreatDoorStrs
import Derived.OpenShut
import Derived.SliceStrings
import Derived.Carry
import Derived.ChangeSlices
import Derived.ChangeOld
import Derived.Deep.Strs
set_option linter.unusedVariables false
set_option linter.unusedSimpArgs false
namespace Go.Proofs.YtjiebnieceffoaaGreatDoor
open Go.ChangeShapes Go.WideShapes Go.RowKit
namespace Tg

theorem cells3 : Tryz.prog.cellsOf 3 = 1 := by kernel_rfl
theorem cells9 : Tryz.prog.cellsOf 9 = 1 := by kernel_rfl
theorem cells4 : Tryz.prog.cellsOf 4 = 1 := by kernel_rfl
theorem cellsTg : Tryz.prog.cellsOf 23 = 6 := by kernel_rfl
theorem array6 {α : Type} {cs : Array α} (h : cs.size = 6) : ∃ c0 c1 c2 c3 c4 c5, cs = #[c0, c1, c2, c3, c4, c5] := by
  obtain ⟨l⟩ := cs
  match l, h with
  | [c0, c1, c2, c3, c4, c5], _ => exact ⟨c0, c1, c2, c3, c4, c5, rfl⟩
theorem list6 {α : Type} {cs : List α} (h : cs.length = 6) : ∃ c0 c1 c2 c3 c4 c5, cs = [c0, c1, c2, c3, c4, c5] := by
  match cs, h with
  | [c0, c1, c2, c3, c4, c5], _ => exact ⟨c0, c1, c2, c3, c4, c5, rfl⟩

set_option maxRecDepth 100000 in
set_option maxHeartbeats 1000000 in
theorem open_tgt {H : Type} {enc : TypeId × Value → H} {W : World} {base : Nat} {v : Value} {d : DataW H} {ps : List MemPlace} (hval : Value.okWide Tryz.prog W .any base 23 v)
    (h : DataW.Trod enc Tryz.prog W 0 (fun _ => true) true 23 v d ps) :
    ∃ (a c : Int) (B P Q : ByteArray) (f : Bool), v = .agg #[.int .i64 a, .string B, .int .i64 c, .string P, .string Q, .bool f] ∧ d = .agg [.lit (.int .i64 a), .lit (.string B.data.toList), .lit (.int .i64 c), .lit (.string P.data.toList), .lit (.string Q.data.toList), .lit (.bool f)] ∧ ps = [] ∧ ((Lit.int .i64 a).wf = true ∧ (Lit.int .i64 c).wf = true) ∧ B.size ≤ maxLen ∧ P.size ≤ maxLen ∧ Q.size ≤ maxLen := by
  obtain ⟨cs, rfl, hsz⟩ := okWide_struct Tryz.underlying23 hval
  obtain ⟨x0, x1, x2, x3, x4, x5, rfl⟩ := array6 (hsz.trans cellsTg)
  obtain ⟨fuel, hf⟩ := h
  obtain ⟨xs, n, _, hx, hl, hlen, hff⟩ := DataW.trod_struct Tryz.underlying23 hf
  obtain ⟨z0, z1, z2, z3, z4, z5, rfl⟩ := list6 (hlen.trans rfl)
  have f0 := hff 0 _ rfl
  have f1 := hff 1 _ rfl
  have f2 := hff 2 _ rfl
  have f3 := hff 3 _ rfl
  have f4 := hff 4 _ rfl
  have f5 := hff 5 _ rfl
  simp [Value.cells, cells3, cells9, cells4] at f0 f1 f2 f3 f4 f5
  obtain ⟨a, e0, r0, w0⟩ := DataW.trod_int Tryz.underlying3 f0
  obtain ⟨B, e1, r1, m1⟩ := DataW.trod_string Tryz.underlying9 f1
  obtain ⟨c, e2, r2, w2⟩ := DataW.trod_int Tryz.underlying3 f2
  obtain ⟨P, e3, r3, m3⟩ := DataW.trod_string Tryz.underlying9 f3
  obtain ⟨Q, e4, r4, m4⟩ := DataW.trod_string Tryz.underlying9 f4
  obtain ⟨f, e5, r5⟩ := DataW.trod_bool Tryz.underlying4 f5
  subst r0 r1 r2 r3 r4 r5
  simp at e0 e1 e2 e3 e4 e5 hx
  subst e0 e1 e2 e3 e4 e5
  exact ⟨a, c, B, P, Q, f, rfl, hx.1, hx.2, ⟨w0, w2⟩, m1, m3, m4⟩
theorem shut_tgt {H : Type} {enc : TypeId × Value → H} {W : World} {base : Nat} {spare : Nat → Bool} {held : Bool} {a c : Int} {B P Q : ByteArray} {f : Bool} (w : (Lit.int .i64 a).wf = true ∧ (Lit.int .i64 c).wf = true) (m : B.size ≤ maxLen ∧ P.size ≤ maxLen ∧ Q.size ≤ maxLen) :
    DataW.Trod enc Tryz.prog W base spare held 23 (.agg #[.int .i64 a, .string B, .int .i64 c, .string P, .string Q, .bool f]) (.agg [.lit (.int .i64 a), .lit (.string B.data.toList), .lit (.int .i64 c), .lit (.string P.data.toList), .lit (.string Q.data.toList), .lit (.bool f)]) [] := by
  refine ⟨2, ?_⟩
  simp [DataW.trod, Value.cells, Tryz.underlying23, Tryz.underlying3, Tryz.underlying9, Tryz.underlying4, cells3, cells9, cells4, cellsTg, w.1, w.2, m.1, m.2.1, m.2.2]
theorem i64_wf {x : Int} (h : (Lit.int .i64 x).wf = true) : -9223372036854775808 ≤ x ∧ x ≤ 9223372036854775807 := by
  simpa [Lit.wf, IntKind.min, IntKind.max, IntKind.signed, IntKind.bits] using h

end Tg
end Go.Proofs.YtjiebnieceffoaaGreatDoor
