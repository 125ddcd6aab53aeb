/- Several texts as one. -/
import Derived.Test.YtndglpjkmgcdpaaGreatDoorRows
import Derived.Test.YtndglpjkmgcdpaaGreatDoorMgM
import Derived.Deep.Strs
import Derived.OpenShut
import Derived.SliceStrings
import Derived.Carry
import Derived.Deep.DeepHandedRow
import Derived.Lay
import Derived.Stop.Joined
/-
  The opener of a slice of parts.
-/
set_option linter.unusedVariables false
set_option linter.unusedSimpArgs false
namespace Go.Proofs.YtndglpjkmgcdpaaGreatDoor
open Go.ChangeShapes Go.WideShapes Go.RowKit
namespace Pt
open Oc Tg

theorem cells5p : Tryz.prog.cellsOf 41 = 5 := by kernel_rfl
theorem cells4p : Tryz.prog.cellsOf 4 = 1 := by kernel_rfl
theorem cells9p : Tryz.prog.cellsOf 9 = 1 := by kernel_rfl
theorem laidOutP : laidOutB Tryz.prog = true := by kernel_rfl
def bulkparts (t : List P5) : Nat := t.length + sumT t
def p5Of {H : Type} (y : DataW H × List MemPlace) : P5 := match y.1 with | .agg [.lit (.string a), .lit (.string b), .lit (.string c), .lit (.string d), .lit (.bool h)] => ⟨a, b, c, d, h⟩ | _ => p0
theorem bulk_p5s {H : Type} : ∀ es : List (DataW H × List MemPlace), (∀ y ∈ es, ∃ a b c d h, y.1 = .agg [.lit (.string a), .lit (.string b), .lit (.string c), .lit (.string d), .lit (.bool h)]) → (es.map p5Of).length + sumT (es.map p5Of) ≤ Rows.uptoBulkAll (es.map (·.1))
  | [], _ => by simp [sumT, Rows.uptoBulkAll]
  | y :: es, h => by
    have ih := bulk_p5s es (fun z hz => h z (List.mem_cons_of_mem _ hz))
    obtain ⟨a, b, c, d, hh, e⟩ := h y (by simp)
    simp only [sumT, List.map_cons, List.sum_cons, List.length_cons, Rows.uptoBulkAll, e, p5Of, szT, Rows.uptoBulk] at ih ⊢
    omega
theorem addr_addp (g o k : Nat) : Addr.add ⟨g, o, none⟩ k = ⟨g, o + k, none⟩ := by unfold Addr.add; split <;> simp_all
set_option maxRecDepth 100000 in
set_option maxHeartbeats 1000000 in
theorem open_parts {H : Type} {enc : TypeId × Value → H} {W : World} {base : Nat} {v : Value} {d : DataW H} {ps : List MemPlace} (hval : Value.okWide Tryz.prog W .any base 22 v)
    (h : DataW.Trod enc Tryz.prog W 0 (fun _ => true) true 22 v d ps) : ∃ t : List P5, RdT v t W ∧ bulkparts t ≤ Rows.uptoBulk d := by
  obtain ⟨a0, len, cap, rfl⟩ := okWide_slice Tryz.underlying22 hval
  obtain ⟨fuel, hf⟩ := h
  rcases DataW.trod_slice Tryz.underlying22 hf with ⟨hcs, hx⟩ | ⟨a, len', cap', elems, rest, n, _, hcs, hx, hb, hl, hm, hlen, hel, _, _⟩
  · simp [Value.cells] at hcs
    obtain ⟨rfl, rfl, rfl⟩ := hcs
    exact ⟨[], ⟨none, 0, rfl, .inl rfl⟩, by simp [bulkparts, sumT]⟩
  · simp [Value.cells] at hcs
    obtain ⟨rfl, rfl, rfl⟩ := hcs
    simp only [Prod.mk.injEq] at hx
    obtain ⟨rfl, rfl⟩ := hx
    have each : ∀ i y, elems[i]? = some y → ∃ (s1 s2 s3 s4 : ByteArray) (b : Bool), y.1 = .agg [.lit (.string s1.data.toList), .lit (.string s2.data.toList), .lit (.string s3.data.toList), .lit (.string s4.data.toList), .lit (.bool b)] ∧ W.cell? ((a.add (i * 5)).add 0) = some (.string s1) ∧ W.cell? ((a.add (i * 5)).add 1) = some (.string s2) ∧ W.cell? ((a.add (i * 5)).add 2) = some (.string s3) ∧ W.cell? ((a.add (i * 5)).add 3) = some (.string s4) ∧ W.cell? ((a.add (i * 5)).add 4) = some (.bool b) := by
      intro i y hy
      have hi : i < len := by rw [← hlen]; exact (List.getElem?_eq_some_iff.1 hy).1
      have h1 := hel i hi
      rw [hy, cells5p, Option.bind_eq_some_iff] at h1
      obtain ⟨cs, hcs, ht⟩ := h1
      obtain ⟨_, hcl, hcc⟩ := World.cells?_some hcs
      obtain ⟨xs, m, _, hxx, _, hxl, hff⟩ := DataW.trod_struct Tryz.underlying41 ht
      match cs, hcl with
      | [c0, c1, c2, c3, c4], _ =>
        match xs, hxl with
        | [z0, z1, z2, z3, z4], _ =>
          have f0 := hff 0 _ rfl
          have f1 := hff 1 _ rfl
          have f2 := hff 2 _ rfl
          have f3 := hff 3 _ rfl
          have f4 := hff 4 _ rfl
          simp [cells9p, cells4p] at f0 f1 f2 f3 f4
          obtain ⟨s1, e1, r1, _⟩ := DataW.trod_string Tryz.underlying9 f0
          obtain ⟨s2, e2, r2, _⟩ := DataW.trod_string Tryz.underlying9 f1
          obtain ⟨s3, e3, r3, _⟩ := DataW.trod_string Tryz.underlying9 f2
          obtain ⟨s4, e4, r4, _⟩ := DataW.trod_string Tryz.underlying9 f3
          obtain ⟨b, e5, r5⟩ := DataW.trod_bool Tryz.underlying4 f4
          subst r1 r2 r3 r4 r5
          simp at e1 e2 e3 e4 e5
          subst e1 e2 e3 e4 e5
          exact ⟨s1, s2, s3, s4, b, by rw [hxx]; rfl, hcc 0 (by omega), hcc 1 (by omega), hcc 2 (by omega), hcc 3 (by omega), hcc 4 (by omega)⟩
    refine ⟨elems.map p5Of, ⟨some a, cap, by rw [List.length_map, hlen], ?_⟩, ?_⟩
    · by_cases hl0 : len = 0
      · left
        have : elems = [] := List.length_eq_zero_iff.1 (by omega)
        rw [this]; rfl
      · right
        obtain ⟨g, o, spot⟩ := a
        have hspot : spot = none := by
          obtain ⟨y, hy⟩ : ∃ y, elems[0]? = some y := ⟨elems[0]'(by omega), List.getElem?_eq_getElem (by omega)⟩
          obtain ⟨s1, s2, s3, s4, b, _, c0, _⟩ := each 0 y hy
          simpa [Addr.add] using World.cell?_spot c0
        subst hspot
        refine ⟨g, o, rfl, by rw [List.length_map, hlen]; exact hl, fun j hj => ?_⟩
        rw [List.length_map] at hj
        obtain ⟨s1, s2, s3, s4, b, ey, c0, c1, c2, c3, c4⟩ := each j _ (List.getElem?_eq_getElem hj)
        have en : nthT (elems.map p5Of) j = ⟨s1.data.toList, s2.data.toList, s3.data.toList, s4.data.toList, b⟩ := by
          unfold nthT
          rw [List.getD_eq_getElem?_getD, List.getElem?_map, List.getElem?_eq_getElem hj]
          show p5Of elems[j] = _
          unfold p5Of
          rw [ey]
        rw [addr_addp, addr_addp] at c0 c1 c2 c3 c4
        rw [en]
        unfold CellT
        dsimp only
        rw [str_self, str_self, str_self, str_self]
        exact ⟨c0, c1, c2, c3, c4⟩
    · have hb := bulk_p5s elems (fun y hy => by
        obtain ⟨i, hi⟩ := List.getElem?_of_mem hy
        obtain ⟨s1, s2, s3, s4, b, ey, _⟩ := each i y hi
        exact ⟨_, _, _, _, _, ey⟩)
      simp only [Rows.uptoBulk, bulkparts]
      omega

end Pt
end Go.Proofs.YtndglpjkmgcdpaaGreatDoor

/-
  A witness for a row with a condition of its own, at a world whose listed tables are laid.
-/
set_option linter.unusedVariables false
namespace Go.Proofs.YtndglpjkmgcdpaaGreatDoor
namespace Oc

theorem witness_zip {H : Type} {enc : TypeId × Value → H} {C : Checked} {os : Os} {f : FuncId} {fn : Func} {s : OpenSpec} {conds : List PathCond} {apart : Bool} {laid : List (String × DataW Unit)} (modest : Bool) (w0 : World) (args : Array Value) (hos : w0.os = os)
    (hsh : (w0.forCall (fun _ _ => 0) ⟨#[], args, []⟩).Shaped C.prog)
    (hok : Input.okWideB C.prog (w0.forCall (fun _ _ => 0) ⟨#[], args, []⟩) f ⟨#[], args, []⟩ = true)
    (hrow : s.preRow enc C.prog fn conds apart laid (w0.forCall (fun _ _ => 0) ⟨#[], args, []⟩).memory args) :
    ∃ (w : World) (tape : Tape) (i : Input), w.os = os ∧ (w.forCall tape i).Shaped C.prog ∧ i.vars = [] ∧ Input.okWide C.prog (w.forCall tape i) .any w.heap.size f i ∧
      s.preRow enc C.prog fn conds apart laid (w.forCall tape i).memory i.args ∧ ({ modest := modest } : Assume).holds C.prog (lone (Frame.enter C.prog f i.args .normal) [] (w.forCall tape i)) :=
  ⟨w0, fun _ _ => 0, ⟨#[], args, []⟩, hos, hsh, (Input.okWide_of_okWideB (base := 0) hok).1, (Input.okWide_of_okWideB hok).2, hrow, by
    simp only [Assume.holds]
    exact ⟨by simp, by simp, fun _ => Modest.zero, by simp, by simp⟩⟩

end Oc
end Go.Proofs.YtndglpjkmgcdpaaGreatDoor
