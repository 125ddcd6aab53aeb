/-
  A slice of parameters that came in, read as parameters (for target's laws).
-/
import Derived.Test.YtpoefoepmigbeaaDoorRows
import Derived.Test.YtpoefoepmigbeaaDoorGPa
import Derived.Test.YtpoefoepmigbeaaDoorGPq
import Derived.Deep.Strs
import Derived.OpenShut
import Derived.SliceStrings
import Derived.Carry
set_option linter.unusedVariables false
set_option linter.unusedSimpArgs false
namespace Go.Proofs.YtpoefoepmigbeaaDoor
open Go.ChangeShapes Go.WideShapes Go.RowKit
namespace Tg
open Oc

theorem cellsPq : Tryd.prog.cellsOf 45 = 3 := by kernel_rfl
theorem cells4q : Tryd.prog.cellsOf 4 = 1 := by kernel_rfl
theorem cells9q : Tryd.prog.cellsOf 9 = 1 := by kernel_rfl
theorem laidOutT : laidOutB Tryd.prog = true := by kernel_rfl
def bulkparams (t : List Prm) : Nat := t.length + sumQ t
def prmOf {H : Type} (y : DataW H × List MemPlace) : Prm := match y.1 with | .agg [.lit (.string a), .lit (.string b), .lit (.bool c)] => (a, b, c) | _ => ([], [], false)
theorem bulk_prms {H : Type} : ∀ es : List (DataW H × List MemPlace), (∀ y ∈ es, ∃ a b c, y.1 = .agg [.lit (.string a), .lit (.string b), .lit (.bool c)]) → (es.map prmOf).length + sumQ (es.map prmOf) ≤ Rows.uptoBulkAll (es.map (·.1))
  | [], _ => by simp [sumQ, Rows.uptoBulkAll]
  | y :: es, h => by
    have ih := bulk_prms es (fun z hz => h z (List.mem_cons_of_mem _ hz))
    obtain ⟨a, b, c, e⟩ := h y (by simp)
    simp only [sumQ, List.map_cons, List.sum_cons, List.length_cons, Rows.uptoBulkAll, e, prmOf, szQ, Rows.uptoBulk] at ih ⊢
    omega
/-- The form of a slice of none. -/
def NilP (v : Value) (t : List Prm) : Prop := t = [] → v = .slice none 0 0 ∨ ∃ g c, v = .slice (some g) 0 c
theorem addr_addq (g o k : Nat) : Addr.add ⟨g, o, none⟩ k = ⟨g, o + k, none⟩ := by unfold Addr.add; split <;> simp_all
set_option maxRecDepth 100000 in
theorem open_params {H : Type} {enc : TypeId × Value → H} {W : World} {base : Nat} {v : Value} {d : DataW H} {ps : List MemPlace} (hval : Value.okWide Tryd.prog W .any base 22 v)
    (h : DataW.Trod enc Tryd.prog W 0 (fun _ => true) true 22 v d ps) : ∃ t : List Prm, (RdQ v t W ∧ NilP v t) ∧ bulkparams t ≤ Rows.uptoBulk d := by
  obtain ⟨a0, len, cap, rfl⟩ := okWide_slice Tryd.underlying22 hval
  obtain ⟨fuel, hf⟩ := h
  rcases DataW.trod_slice Tryd.underlying22 hf with ⟨hcs, hx⟩ | ⟨a, len', cap', elems, rest, n, _, hcs, hx, hb, hl, hm, hlen, hel, _, _⟩
  · simp [Value.cells] at hcs
    obtain ⟨rfl, rfl, rfl⟩ := hcs
    exact ⟨[], ⟨⟨none, 0, rfl, .inl rfl⟩, fun _ => .inl rfl⟩, by simp [bulkparams, sumQ]⟩
  · simp [Value.cells] at hcs
    obtain ⟨rfl, rfl, rfl⟩ := hcs
    simp only [Prod.mk.injEq] at hx
    obtain ⟨rfl, rfl⟩ := hx
    have each : ∀ i y, elems[i]? = some y → ∃ (s1 s2 : ByteArray) (b : Bool), y.1 = .agg [.lit (.string s1.data.toList), .lit (.string s2.data.toList), .lit (.bool b)] ∧ W.cell? ((a.add (i * 3)).add 0) = some (.string s1) ∧ W.cell? ((a.add (i * 3)).add 1) = some (.string s2) ∧ W.cell? ((a.add (i * 3)).add 2) = some (.bool b) := by
      intro i y hy
      have hi : i < len := by rw [← hlen]; exact (List.getElem?_eq_some_iff.1 hy).1
      have h1 := hel i hi
      rw [hy, cellsPq, Option.bind_eq_some_iff] at h1
      obtain ⟨cs, hcs, ht⟩ := h1
      obtain ⟨_, hcl, hcc⟩ := World.cells?_some hcs
      obtain ⟨y0, y1, y2, m, rfl, _, t0, t1, t2⟩ := Deep.trod_struct3 Tryd.underlying45 ht
      simp only [cells9q, cells4q, List.drop_zero] at t0 t1 t2
      obtain ⟨s1, e1, r1, _⟩ := DataW.trod_string Tryd.underlying9 t0
      obtain ⟨s2, e2, r2, _⟩ := DataW.trod_string Tryd.underlying9 t1
      obtain ⟨b, e3, r3⟩ := DataW.trod_bool Tryd.underlying4 t2
      subst r1 r2 r3
      match cs, hcl with
      | [c0, c1, c2], _ =>
        simp at e1 e2 e3
        subst e1 e2 e3
        exact ⟨s1, s2, b, rfl, hcc 0 (by omega), hcc 1 (by omega), hcc 2 (by omega)⟩
    refine ⟨elems.map prmOf, ⟨⟨some a, cap, by rw [List.length_map, hlen], ?_⟩, fun e => .inr ⟨a, cap, by have := congrArg List.length e; rw [List.length_map, hlen] at this; rw [this]; rfl⟩⟩, ?_⟩
    · by_cases hl0 : len = 0
      · left
        have : elems = [] := List.length_eq_zero_iff.1 (by omega)
        rw [this]; rfl
      · right
        obtain ⟨g, o, spot⟩ := a
        have hspot : spot = none := by
          obtain ⟨y, hy⟩ : ∃ y, elems[0]? = some y := ⟨elems[0]'(by omega), List.getElem?_eq_getElem (by omega)⟩
          obtain ⟨s1, s2, b, _, c0, _, _⟩ := each 0 y hy
          simpa [Addr.add] using World.cell?_spot c0
        subst hspot
        refine ⟨g, o, rfl, by rw [List.length_map, hlen]; exact hl, fun j hj => ?_⟩
        rw [List.length_map] at hj
        obtain ⟨s1, s2, b, ey, c0, c1, c2⟩ := each j _ (List.getElem?_eq_getElem hj)
        have en : nth (elems.map prmOf) j = (s1.data.toList, s2.data.toList, b) := by
          unfold nth
          rw [List.getD_eq_getElem?_getD, List.getElem?_map, List.getElem?_eq_getElem hj]
          show prmOf elems[j] = _
          unfold prmOf
          rw [ey]
        rw [addr_addq, addr_addq] at c0 c1 c2
        rw [en]
        dsimp only
        rw [str_self, str_self]
        exact ⟨c0, c1, c2⟩
    · have hb := bulk_prms elems (fun y hy => by
        obtain ⟨i, hi⟩ := List.getElem?_of_mem hy
        obtain ⟨s1, s2, b, ey, _⟩ := each i y hi
        exact ⟨_, _, _, ey⟩)
      simp only [Rows.uptoBulk, bulkparams]
      omega

end Tg
end Go.Proofs.YtpoefoepmigbeaaDoor
