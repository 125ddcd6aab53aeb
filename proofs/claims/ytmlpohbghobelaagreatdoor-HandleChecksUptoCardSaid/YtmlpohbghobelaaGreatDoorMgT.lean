/- Several texts as one. -/
import Derived.Test.YtmlpohbghobelaaGreatDoorRows
import Derived.Test.YtmlpohbghobelaaGreatDoorMgO
import Derived.Deep.Strs
import Derived.OpenShut
import Derived.SliceStrings
import Derived.Carry
/-
  handle: a slice of parameters that came in (written by mkhrb.py).
-/
set_option linter.unusedVariables false
set_option linter.unusedSimpArgs false
namespace Go.Proofs.YtmlpohbghobelaaGreatDoor
open Go.ChangeShapes Go.WideShapes Go.RowKit
namespace Hn
open Oc

def szA (p : PrA) : Nat := p.1.length + p.2.1.length
def sumA (t : List PrA) : Nat := (t.map szA).sum
theorem cellsPa : Tryz.prog.cellsOf 76 = 3 := by kernel_rfl
theorem cells4a : Tryz.prog.cellsOf 4 = 1 := by kernel_rfl
theorem cells9a : Tryz.prog.cellsOf 9 = 1 := by kernel_rfl
def bulkA (t : List PrA) : Nat := t.length + sumA t
def prmOfA {H : Type} (y : DataW H × List MemPlace) : PrA := match y.1 with | .agg [.lit (.string a), .lit (.string b), .lit (.bool c)] => (a, b, c) | _ => ([], [], false)
theorem bulk_prmA {H : Type} : ∀ es : List (DataW H × List MemPlace), (∀ y ∈ es, ∃ a b c, y.1 = .agg [.lit (.string a), .lit (.string b), .lit (.bool c)]) → (es.map prmOfA).length + sumA (es.map prmOfA) ≤ Rows.uptoBulkAll (es.map (·.1))
  | [], _ => by simp [sumA, Rows.uptoBulkAll]
  | y :: es, h => by
    have ih := bulk_prmA es (fun z hz => h z (List.mem_cons_of_mem _ hz))
    obtain ⟨a, b, c, e⟩ := h y (by simp)
    simp only [sumA, List.map_cons, List.sum_cons, List.length_cons, Rows.uptoBulkAll, e, prmOfA, szA, Rows.uptoBulk] at ih ⊢
    omega
theorem addr_adda (g o k : Nat) : Addr.add ⟨g, o, none⟩ k = ⟨g, o + k, none⟩ := by unfold Addr.add; split <;> simp_all
set_option maxRecDepth 100000 in
theorem open_paramA {H : Type} {enc : TypeId × Value → H} {W : World} {base : Nat} {v : Value} {d : DataW H} {ps : List MemPlace} (hval : Value.okWide Tryz.prog W .any base 40 v)
    (h : DataW.Trod enc Tryz.prog W 0 (fun _ => true) true 40 v d ps) : ∃ t : List PrA, (RdA v t W ∧ NilA v t) ∧ bulkA t ≤ Rows.uptoBulk d := by
  obtain ⟨a0, len, cap, rfl⟩ := okWide_slice Tryz.underlying40 hval
  obtain ⟨fuel, hf⟩ := h
  rcases DataW.trod_slice Tryz.underlying40 hf with ⟨hcs, hx⟩ | ⟨a, len', cap', elems, rest, n, _, hcs, hx, hb, hl, hm, hlen, hel, _, _⟩
  · simp [Value.cells] at hcs
    obtain ⟨rfl, rfl, rfl⟩ := hcs
    exact ⟨[], ⟨⟨none, 0, rfl, .inl rfl⟩, fun _ => .inl rfl⟩, by simp [bulkA, sumA]⟩
  · simp [Value.cells] at hcs
    obtain ⟨rfl, rfl, rfl⟩ := hcs
    simp only [Prod.mk.injEq] at hx
    obtain ⟨rfl, rfl⟩ := hx
    have each : ∀ i y, elems[i]? = some y → ∃ (s1 s2 : ByteArray) (b : Bool), y.1 = .agg [.lit (.string s1.data.toList), .lit (.string s2.data.toList), .lit (.bool b)] ∧ W.cell? ((a.add (i * 3)).add 0) = some (.string s1) ∧ W.cell? ((a.add (i * 3)).add 1) = some (.string s2) ∧ W.cell? ((a.add (i * 3)).add 2) = some (.bool b) := by
      intro i y hy
      have hi : i < len := by rw [← hlen]; exact (List.getElem?_eq_some_iff.1 hy).1
      have h1 := hel i hi
      rw [hy, cellsPa, Option.bind_eq_some_iff] at h1
      obtain ⟨cs, hcs, ht⟩ := h1
      obtain ⟨_, hcl, hcc⟩ := World.cells?_some hcs
      obtain ⟨y0, y1, y2, m, rfl, _, t0, t1, t2⟩ := Deep.trod_struct3 Tryz.underlying76 ht
      simp only [cells9a, cells4a, List.drop_zero] at t0 t1 t2
      obtain ⟨s1, e1, r1, _⟩ := DataW.trod_string Tryz.underlying9 t0
      obtain ⟨s2, e2, r2, _⟩ := DataW.trod_string Tryz.underlying9 t1
      obtain ⟨b, e3, r3⟩ := DataW.trod_bool Tryz.underlying4 t2
      subst r1 r2 r3
      match cs, hcl with
      | [c0, c1, c2], _ =>
        simp at e1 e2 e3
        subst e1 e2 e3
        exact ⟨s1, s2, b, rfl, hcc 0 (by omega), hcc 1 (by omega), hcc 2 (by omega)⟩
    refine ⟨elems.map prmOfA, ⟨⟨some a, cap, by rw [List.length_map, hlen], ?_⟩, fun e => .inr ⟨a, cap, by have := congrArg List.length e; rw [List.length_map, hlen] at this; rw [this]; rfl⟩⟩, ?_⟩
    · by_cases hl0 : len = 0
      · left
        have : elems = [] := List.length_eq_zero_iff.1 (by omega)
        rw [this]; rfl
      · right
        obtain ⟨g, o, spot⟩ := a
        have hspot : spot = none := by
          obtain ⟨y, hy⟩ : ∃ y, elems[0]? = some y := ⟨elems[0]'(by omega), List.getElem?_eq_getElem (by omega)⟩
          obtain ⟨s1, s2, b, _, c0, _, _⟩ := each 0 y hy
          simpa [Addr.add] using World.cell?_spot c0
        subst hspot
        refine ⟨g, o, rfl, by rw [List.length_map, hlen]; exact hl, fun j hj => ?_⟩
        rw [List.length_map] at hj
        obtain ⟨s1, s2, b, ey, c0, c1, c2⟩ := each j _ (List.getElem?_eq_getElem hj)
        have en : nthA (elems.map prmOfA) j = (s1.data.toList, s2.data.toList, b) := by
          unfold nthA
          rw [List.getD_eq_getElem?_getD, List.getElem?_map, List.getElem?_eq_getElem hj]
          show prmOfA elems[j] = _
          unfold prmOfA
          rw [ey]
        rw [addr_adda, addr_adda] at c0 c1 c2
        rw [en]
        dsimp only
        rw [str_self, str_self]
        exact ⟨c0, c1, c2⟩
    · have hb := bulk_prmA elems (fun y hy => by
        obtain ⟨i, hi⟩ := List.getElem?_of_mem hy
        obtain ⟨s1, s2, b, ey, _⟩ := each i y hi
        exact ⟨_, _, _, ey⟩)
      simp only [Rows.uptoBulk, bulkA]
      omega


end Hn
end Go.Proofs.YtmlpohbghobelaaGreatDoor

/-
  A handler that came in (written by mkhk.py).
-/
set_option linter.unusedVariables false
set_option linter.unusedSimpArgs false
namespace Go.Proofs.YtmlpohbghobelaaGreatDoor
open Go.ChangeShapes Go.WideShapes Go.RowKit
namespace Hn
open Oc

theorem cellsIh : Tryz.prog.cellsOf 3 = 1 := by kernel_rfl
theorem cellsHd : Tryz.prog.cellsOf 23 = 6 := by kernel_rfl
theorem array6h {α : Type} {cs : Array α} (h : cs.size = 6) : ∃ c0 c1 c2 c3 c4 c5, cs = #[c0, c1, c2, c3, c4, c5] := by
  obtain ⟨l⟩ := cs
  match l, h with
  | [c0, c1, c2, c3, c4, c5], _ => exact ⟨c0, c1, c2, c3, c4, c5, rfl⟩
theorem list6h {α : Type} {cs : List α} (h : cs.length = 6) : ∃ c0 c1 c2 c3 c4 c5, cs = [c0, c1, c2, c3, c4, c5] := by
  match cs, h with
  | [c0, c1, c2, c3, c4, c5], _ => exact ⟨c0, c1, c2, c3, c4, c5, rfl⟩

set_option maxRecDepth 100000 in
set_option maxHeartbeats 1000000 in
theorem open_hand {H : Type} {enc : TypeId × Value → H} {W : World} {base : Nat} {v : Value} {d : DataW H} {ps : List MemPlace} (hval : Value.okWide Tryz.prog W .any base 23 v)
    (h : DataW.Trod enc Tryz.prog W 0 (fun _ => true) true 23 v d ps) :
    ∃ (k : Int) (A B C : ByteArray) (s n : Int), v = .agg #[.int .i64 k, .string A, .string B, .string C, .int .i64 s, .int .i64 n] ∧ A.size + B.size + C.size ≤ Rows.uptoBulk d := by
  obtain ⟨cs, rfl, hsz⟩ := okWide_struct Tryz.underlying23 hval
  obtain ⟨x0, x1, x2, x3, x4, x5, rfl⟩ := array6h (hsz.trans cellsHd)
  obtain ⟨fuel, hf⟩ := h
  obtain ⟨xs, n, _, hx, hl, hlen, hff⟩ := DataW.trod_struct Tryz.underlying23 hf
  obtain ⟨z0, z1, z2, z3, z4, z5, rfl⟩ := list6h (hlen.trans rfl)
  have f0 := hff 0 _ rfl
  have f1 := hff 1 _ rfl
  have f2 := hff 2 _ rfl
  have f3 := hff 3 _ rfl
  have f4 := hff 4 _ rfl
  have f5 := hff 5 _ rfl
  simp [Value.cells, cellsIh, cells9a] at f0 f1 f2 f3 f4 f5
  obtain ⟨k, e0, r0, w0⟩ := DataW.trod_int Tryz.underlying3 f0
  obtain ⟨A, e1, r1, m1⟩ := DataW.trod_string Tryz.underlying9 f1
  obtain ⟨B, e2, r2, m2⟩ := DataW.trod_string Tryz.underlying9 f2
  obtain ⟨C, e3, r3, m3⟩ := DataW.trod_string Tryz.underlying9 f3
  obtain ⟨s, e4, r4, w4⟩ := DataW.trod_int Tryz.underlying3 f4
  obtain ⟨n, e5, r5, w5⟩ := DataW.trod_int Tryz.underlying3 f5
  subst r0 r1 r2 r3 r4 r5
  simp at e0 e1 e2 e3 e4 e5
  subst e0 e1 e2 e3 e4 e5
  have hd : d = .agg [.lit (.int .i64 k), .lit (.string A.data.toList), .lit (.string B.data.toList), .lit (.string C.data.toList), .lit (.int .i64 s), .lit (.int .i64 n)] := by
    simp at hx
    exact hx.1
  refine ⟨k, A, B, C, s, n, rfl, ?_⟩
  rw [hd]
  simp only [Rows.uptoBulk, Rows.uptoBulkAll]
  have h1 := size_list A
  have h2 := size_list B
  have h3 := size_list C
  omega

end Hn
end Go.Proofs.YtmlpohbghobelaaGreatDoor
