/- Several texts as one. -/
import Derived.Test.YtkaciaiooidohaaDoorZzR
import Derived.Test.YtkaciaiooidohaaDoorRows
import Derived.Test.YtkaciaiooidohaaDoorZzA
import Derived.OpenShut
import Derived.SliceStrings
import Derived.Carry
import Derived.Deep.Strs
import Derived.Test.YtkaciaiooidohaaDoorZzI
import Derived.ChangeSlices
import Derived.ChangeOld
/-
  SpanParts.
-/
set_option linter.unusedVariables false
set_option linter.unusedSimpArgs false
namespace Go.Proofs.YtkaciaiooidohaaDoor
open Go.RowKit Go.Shelf
namespace Sn
open Oc Tg Ac

set_option maxRecDepth 100000 in
set_option maxHeartbeats 2000000 in
theorem walk_SpanParts (A M Y : ByteArray) (v : Value) (t : List Sp) (h1 : A.size ≤ 1048576) (h2 : M.size ≤ 1048576) (h3 : Y.size ≤ 1048576) (ht : t.length ≤ 1048576) (hbn : ∀ k, k < t.length → -9223372036854775808 ≤ (nthN t k).1 ∧ (nthN t k).1 ≤ 9223372036854775807 ∧ -9223372036854775808 ≤ (nthN t k).2 ∧ (nthN t k).2 ≤ 9223372036854775807) (w : World) (hrd : RdN v t w) (hw : ML w ∧ Pow w) :
    Calls Tryd.prog 5 #[.agg #[.string A, .string M, .string Y, v]] w fun e w' => e = .returned (.bool true) ∧ Below w.heap.size w w' := by
  obtain ⟨bd, rfl⟩ : ∃ s, A = str s := ⟨A.data.toList, (str_self A).symm⟩
  obtain ⟨md, rfl⟩ : ∃ s, M = str s := ⟨M.data.toList, (str_self M).symm⟩
  obtain ⟨body, rfl⟩ : ∃ s, Y = str s := ⟨Y.data.toList, (str_self Y).symm⟩
  rw [str_size] at h1 h2 h3
  obtain ⟨hml, hpw⟩ := hw
  obtain ⟨w1, hw1⟩ : ∃ w1, w1 = w.alloc (.cells #[.string (str bd), .string (str md), .string (str body), v] 38) := ⟨_, rfl⟩
  have hb1 : Below w.heap.size w w1 := by rw [hw1]; exact (Below.refl _ w).alloc (Nat.le_refl _) _
  have hP1 : w1.heap[w.heap.size]? = some (.cells #[.string (str bd), .string (str md), .string (str body), v] 38 (0, 0)) := by rw [hw1]; exact heap_alloc_new w _
  have HC : Hid (∀ W, Below w1.heap.size w1 W → W.cell? ⟨w.heap.size, 0, none⟩ = some (.string (str bd)) ∧ W.cell? ⟨w.heap.size, 1, none⟩ = some (.string (str md)) ∧ W.cell? ⟨w.heap.size, 2, none⟩ = some (.string (str body)) ∧ W.cell? ⟨w.heap.size, 3, none⟩ = some v) := fun W hb => by
    have hP := (hb.block _ (Array.getElem?_eq_some_iff.1 hP1).1).trans hP1
    exact ⟨by rw [Lib.cell_of_heap hP]; rfl, by rw [Lib.cell_of_heap hP]; rfl, by rw [Lib.cell_of_heap hP]; rfl, by rw [Lib.cell_of_heap hP]; rfl⟩
  have HA : Hid (∀ W, Below w1.heap.size w1 W → Calls Tryd.prog 9 #[] W fun e w' => e = .returned (.bool true) ∧ Below (World.heap W).size W w') := fun W hb => awake_any W (hml.below (bel_trans hb1 hb))
  have HS : Hid (Calls _ _ _ w1 _) := spans_any v t w1 (hrd.below hb1) (by omega)
  have HP : Hid (∀ W, Below w1.heap.size w1 W → Calls Tryd.prog 14 #[.string (str bd), .string (str md), .string (str body), v] W fun e w' => e = .returned (.tuple #[.string (str (partsR bd md body t).1), .int .i64 (partsR bd md body t).2]) ∧ Below (World.heap W).size W w') := fun W hb => Parts_any bd md body v t h1 h2 h3 ht W (hrd.below (bel_trans hb1 hb)) (hml.below (bel_trans hb1 hb)) (Oc.Pow.below hpw (bel_trans hb1 hb) (Nat.le_refl _))
  have HrP : Hid (∀ u W, RdN u t W → Calls Tryd.prog 15 #[.string (str bd), .string (str md), .string (str body), u] W fun e w' => e = .returned (.tuple #[.string (str (partsR bd md body t).1), .int .i64 (partsR bd md body t).2]) ∧ Below (World.heap W).size W w') := fun u W h => rParts_any bd md body u t h1 h2 h3 ht hbn W h
  have HSm : Hid (∀ x y W, RdN x t W → RdN y t W → Calls Tryd.prog 10 #[x, y] W fun e w' => e = .returned (.bool true) ∧ Below (World.heap W).size W w') := fun x y W h1 h2 => same_any x y t W h1 h2 (by omega)
  have HR : Hid (∀ W, Below w1.heap.size w1 W → RdN v t W) := fun W hb => hrd.below (bel_trans hb1 hb)
  have HB1 : Hid (Below w.heap.size w w1) := hb1
  obtain ⟨a, c, rfl, _⟩ := hrd
  clear hml hpw hbn hb1 hP1
  generalize str (partsR bd md body t).1 = PS at *
  generalize (partsR bd md body t).2 = PZ at *
  generalize str bd = BD at *
  generalize str md = MD at *
  generalize str body = BY at *
  have e1 : (PS.toList == PS.toList) = true := by simp
  have e2 : (PZ == PZ) = true := by simp
  have HB0 : Hid (Below w1.heap.size w1 w1) := Below.refl _ _
  obtain ⟨k0, k1, k2, k3⟩ := HC.out w1 HB0.out
  rw [hw1] at k3
  go_enter Tryd.func5, Tryd.ntmps5
  go_wp2_with fail
  rw [← hw1]
  clear hw1 k0 k1 k2 k3
  refine HS.out.mono ?_
  rintro e w2 ⟨u, rfl, hou, hb2⟩
  have HU2 : Hid (RdN u t w2) := hou.rd
  have H2 : Hid (Below w1.heap.size w1 w2) := hb2
  obtain ⟨k0, k1, k2, k3⟩ := HC.out w2 hb2
  clear hou hb2
  go_wp2_with fail
  clear k0 k1 k2 k3
  refine (HP.out _ H2.out).mono ?_
  rintro e w3 ⟨rfl, hb3⟩
  have HU3 : Hid (RdN u t w3) := HU2.out.below hb3
  have H3 : Hid (Below w1.heap.size w1 w3) := bel_trans H2.out hb3
  obtain ⟨k0, k1, k2, k3⟩ := HC.out w3 H3.out
  clear hb3
  go_wp2_with fail
  clear k0 k1 k2 k3
  refine (HrP.out _ _ HU3.out).mono ?_
  rintro e w4 ⟨rfl, hb4⟩
  have HU4 : Hid (RdN u t w4) := HU3.out.below hb4
  have H4 : Hid (Below w1.heap.size w1 w4) := bel_trans H3.out hb4
  clear hb4
  go_wp2_with fail
  refine (HA.out _ H4.out).mono ?_
  rintro e w5 ⟨rfl, hb5⟩
  have HU5 : Hid (RdN u t w5) := HU4.out.below hb5
  have H5 : Hid (Below w1.heap.size w1 w5) := bel_trans H4.out hb5
  obtain ⟨k0, k1, k2, k3⟩ := HC.out w5 H5.out
  clear hb5
  go_wp2_with fail
  clear k0 k1 k2 k3
  refine (HSm.out _ _ _ (HR.out _ H5.out) HU5.out).mono ?_
  rintro e w6 ⟨rfl, hb6⟩
  have HB6 : Hid (Below w.heap.size w w6) := bel_trans HB1.out (bel_trans H5.out hb6)
  clear hb6
  go_wp2
  go_ret
  exact ⟨rfl, HB6.out⟩

end Sn
end Go.Proofs.YtkaciaiooidohaaDoor

/-
  A span that came in, by value.
-/
set_option linter.unusedVariables false
set_option linter.unusedSimpArgs false
namespace Go.Proofs.YtkaciaiooidohaaDoor
open Go.ChangeShapes Go.WideShapes Go.RowKit
namespace Sn

theorem cellsI : Tryd.prog.cellsOf 3 = 1 := by kernel_rfl
theorem cellsSp : Tryd.prog.cellsOf 43 = 2 := by kernel_rfl
theorem array2 {α : Type} {cs : Array α} (h : cs.size = 2) : ∃ c0 c1, cs = #[c0, c1] := by
  obtain ⟨l⟩ := cs
  match l, h with
  | [c0, c1], _ => exact ⟨c0, c1, rfl⟩
theorem list2 {α : Type} {cs : List α} (h : cs.length = 2) : ∃ c0 c1, cs = [c0, c1] := by
  match cs, h with
  | [c0, c1], _ => exact ⟨c0, c1, rfl⟩

set_option maxRecDepth 100000 in
theorem open_span {H : Type} {enc : TypeId × Value → H} {W : World} {base : Nat} {v : Value} {d : DataW H} {ps : List MemPlace} (hval : Value.okWide Tryd.prog W .any base 43 v)
    (h : DataW.Trod enc Tryd.prog W 0 (fun _ => true) true 43 v d ps) :
    ∃ (a b : Int), v = .agg #[.int .i64 a, .int .i64 b] ∧ d = .agg [.lit (.int .i64 a), .lit (.int .i64 b)] ∧ ps = [] ∧ (Lit.int .i64 a).wf = true ∧ (Lit.int .i64 b).wf = true := by
  obtain ⟨cs, rfl, hsz⟩ := okWide_struct Tryd.underlying43 hval
  obtain ⟨c0, c1, rfl⟩ := array2 (hsz.trans cellsSp)
  obtain ⟨fuel, hf⟩ := h
  obtain ⟨xs, n, _, hx, hl, hlen, hff⟩ := DataW.trod_struct Tryd.underlying43 hf
  obtain ⟨z0, z1, rfl⟩ := list2 (hlen.trans rfl)
  have f0 := hff 0 _ rfl
  have f1 := hff 1 _ rfl
  simp [Value.cells, cellsI] at f0 f1
  obtain ⟨a, e0, r0, w0⟩ := DataW.trod_int Tryd.underlying3 f0
  obtain ⟨b, e1, r1, w1⟩ := DataW.trod_int Tryd.underlying3 f1
  subst r0 r1
  simp at e0 e1 hx
  subst e0 e1
  exact ⟨a, b, rfl, hx.1, hx.2, w0, w1⟩
theorem shut_span {H : Type} {enc : TypeId × Value → H} {W : World} {base : Nat} {spare : Nat → Bool} {held : Bool} {a b : Int} (w0 : (Lit.int .i64 a).wf = true) (w1 : (Lit.int .i64 b).wf = true) :
    DataW.Trod enc Tryd.prog W base spare held 43 (.agg #[.int .i64 a, .int .i64 b]) (.agg [.lit (.int .i64 a), .lit (.int .i64 b)]) [] := by
  refine ⟨2, ?_⟩
  simp [DataW.trod, Value.cells, Tryd.underlying43, Tryd.underlying3, cellsI, cellsSp, w0, w1]

theorem i64_of_wf {x : Int} (h : (Lit.int .i64 x).wf = true) : -9223372036854775808 ≤ x ∧ x ≤ 9223372036854775807 := by
  simpa [Lit.wf, IntKind.min, IntKind.max, IntKind.signed, IntKind.bits] using h

end Sn
end Go.Proofs.YtkaciaiooidohaaDoor

/-
  Slices of spans that came in.
-/
set_option linter.unusedVariables false
set_option linter.unusedSimpArgs false
namespace Go.Proofs.YtkaciaiooidohaaDoor
open Go.ChangeShapes Go.WideShapes Go.RowKit
namespace Sn
open Oc

theorem laidOutT : laidOutB Tryd.prog = true := by kernel_rfl
def spOf {H : Type} (y : DataW H × List MemPlace) : Sp := match y.1 with | .agg [.lit (.int _ a), .lit (.int _ b)] => (a, b) | _ => (0, 0)
theorem bulk_sps {H : Type} : ∀ es : List (DataW H × List MemPlace), (∀ y ∈ es, ∃ a b, y.1 = .agg [.lit (.int .i64 a), .lit (.int .i64 b)]) → es.length ≤ Rows.uptoBulkAll (es.map (·.1))
  | [], _ => by simp
  | y :: es, h => by
    have ih := bulk_sps es (fun z hz => h z (List.mem_cons_of_mem _ hz))
    obtain ⟨a, b, e⟩ := h y (by simp)
    simp only [List.map_cons, List.length_cons, Rows.uptoBulkAll, e, Rows.uptoBulk]
    omega
theorem addr_addN (g o k : Nat) : Addr.add ⟨g, o, none⟩ k = ⟨g, o + k, none⟩ := by unfold Addr.add; split <;> simp_all
set_option maxRecDepth 100000 in
theorem open_spans {H : Type} {enc : TypeId × Value → H} {W : World} {base : Nat} {v : Value} {d : DataW H} {ps : List MemPlace} (hval : Value.okWide Tryd.prog W .any base 22 v)
    (h : DataW.Trod enc Tryd.prog W 0 (fun _ => true) true 22 v d ps) : ∃ t : List Sp, RdN v t W ∧ t.length ≤ Rows.uptoBulk d := by
  obtain ⟨a0, len, cap, rfl⟩ := okWide_slice Tryd.underlying22 hval
  obtain ⟨fuel, hf⟩ := h
  rcases DataW.trod_slice Tryd.underlying22 hf with ⟨hcs, hx⟩ | ⟨a, len', cap', elems, rest, n, _, hcs, hx, hb, hl, hm, hlen, hel, _, _⟩
  · simp [Value.cells] at hcs
    obtain ⟨rfl, rfl, rfl⟩ := hcs
    exact ⟨[], ⟨none, 0, rfl, .inl rfl⟩, by simp⟩
  · simp [Value.cells] at hcs
    obtain ⟨rfl, rfl, rfl⟩ := hcs
    simp only [Prod.mk.injEq] at hx
    obtain ⟨rfl, rfl⟩ := hx
    have each : ∀ i y, elems[i]? = some y → ∃ (s1 s2 : Int), y.1 = .agg [.lit (.int .i64 s1), .lit (.int .i64 s2)] ∧ W.cell? ((a.add (i * 2)).add 0) = some (.int .i64 s1) ∧ W.cell? ((a.add (i * 2)).add 1) = some (.int .i64 s2) := by
      intro i y hy
      have hi : i < len := by rw [← hlen]; exact (List.getElem?_eq_some_iff.1 hy).1
      have h1 := hel i hi
      rw [hy, cellsSp, Option.bind_eq_some_iff] at h1
      obtain ⟨cs, hcs, ht⟩ := h1
      obtain ⟨ys, m, _, hx, hl4, hy4, hfs⟩ := DataW.trod_struct Tryd.underlying43 ht
      rw [cellsSp] at hl4
      have hcc := (World.cells?_some hcs).2.2
      have t0 := hfs 0 _ rfl
      have t1 := hfs 1 _ rfl
      match cs, hl4 with
      | [x0, x1], _ =>
        match ys, hy4 with
        | [y0, y1], _ =>
          simp [cellsI] at t0 t1
          obtain ⟨m0, e0, q0, _⟩ := DataW.trod_int Tryd.underlying3 t0
          obtain ⟨m1, e1, q1, _⟩ := DataW.trod_int Tryd.underlying3 t1
          simp at e0 e1
          subst e0 e1
          subst q0 q1
          refine ⟨m0, m1, ?_, hcc 0 (by omega), hcc 1 (by omega)⟩
          rw [hx]
          rfl
    refine ⟨elems.map spOf, ⟨some a, cap, by rw [List.length_map, hlen], ?_⟩, ?_⟩
    · by_cases hl0 : len = 0
      · left
        have : elems = [] := List.length_eq_zero_iff.1 (by omega)
        rw [this]; rfl
      · right
        obtain ⟨g, o, spot⟩ := a
        have hspot : spot = none := by
          obtain ⟨y, hy⟩ : ∃ y, elems[0]? = some y := ⟨elems[0]'(by omega), List.getElem?_eq_getElem (by omega)⟩
          obtain ⟨s1, s2, _, c0, _⟩ := each 0 y hy
          simpa [Addr.add] using World.cell?_spot c0
        subst hspot
        refine ⟨g, o, rfl, by rw [List.length_map, hlen]; exact hl, fun j hj => ?_⟩
        rw [List.length_map] at hj
        obtain ⟨s1, s2, ey, c0, c1⟩ := each j _ (List.getElem?_eq_getElem hj)
        have en : nthN (elems.map spOf) j = (s1, s2) := by
          unfold nthN
          rw [List.getD_eq_getElem?_getD, List.getElem?_map, List.getElem?_eq_getElem hj]
          show spOf elems[j] = _
          unfold spOf
          rw [ey]
        rw [addr_addN, addr_addN] at c0 c1
        rw [en]
        exact ⟨c0, c1⟩
    · have hb := bulk_sps elems (fun y hy => by
        obtain ⟨i, hi, rfl⟩ := List.mem_iff_getElem.1 hy
        obtain ⟨s1, s2, ey, _⟩ := each i _ (List.getElem?_eq_getElem hi)
        exact ⟨s1, s2, ey⟩)
      simp only [List.length_map, Rows.uptoBulk, Rows.uptoBulkAll] at hb ⊢
      omega

end Sn
end Go.Proofs.YtkaciaiooidohaaDoor
