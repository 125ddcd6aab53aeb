/- Several texts as one. -/
import Derived.Test.YtkpdaialfcegfaaDoorWrD
import Derived.Test.YtkpdaialfcegfaaDoorMgY
import Derived.Test.YtkpdaialfcegfaaDoorRows
import Derived.Test.YtkpdaialfcegfaaDoorMgN
import Derived.Deep.Strs
import Derived.OpenShut
import Derived.SliceStrings
import Derived.Carry
/-
  The law SheetWrites.
-/
set_option linter.unusedVariables false
set_option linter.unusedSimpArgs false
namespace Go.Proofs.YtkpdaialfcegfaaDoor
open Go.RowKit Go.Shelf
namespace Wr
open Oc Tg Pt Mf

set_option maxRecDepth 100000 in
set_option maxHeartbeats 4000000 in
theorem walk_SheetWrites (s : ByteArray) (v : Value) (t : List P5) (hb : s.size + (t.length + sumT t) ≤ 1048576) (w : World) (hr : RdT v t w) (htb : Tab w) (hm : ML w) :
    Calls Tryd.prog 7 #[.string s, v] w fun e w' => e = .returned (.bool true) ∧ Below w.heap.size w w' := by
  obtain ⟨b, rfl⟩ : ∃ b, s = str b := ⟨s.data.toList, (str_self s).symm⟩
  have hb2 : b.length + t.length + sumT t ≤ 1048576 := by rw [str_size] at hb; omega
  have HA : Hid (∀ w, ML w → _) := fun w h => awake15_any w h
  have HG : Hid (∀ W, RdT v t W → _) := fun W h => given15_any v t W h (by omega)
  have HP : Hid (∀ W, RdT v t W → ML W → Tab W → _) := fun W h h1 h2 => Print15_any b v t hb2 W h h1 h2
  have HR : Hid (∀ u W, RdT u t W → _) := fun u W h => rPrint15_any b u t hb2 W h
  have HS : Hid (∀ v1 v2 w, RdT v1 t w → RdT v2 t w → _) := fun v1 v2 w h1 h2 => parts15_any v1 v2 t w h1 h2 (by omega)
  have HRd : Hid (RdT v t w) := hr
  have HM : Hid (ML w) := hm
  have HT : Hid (Tab w) := htb
  obtain ⟨a, c, rfl, _⟩ := hr
  clear hm htb
  generalize fullR b t = FR at *
  obtain ⟨F1, F2⟩ := FR
  dsimp only at HP HR
  generalize str F1 = FS at *
  generalize str b = SB at *
  go_enter Tryd.func7, Tryd.ntmps7
  go_wp2_with fail
  refine (HG.out _ HRd.out).mono ?_
  rintro e w1 ⟨u, rfl, ho1, hb1⟩
  have HB1 : Hid (Below w.heap.size w w1) := hb1
  have HU1 : Hid (RdT u t w1) := ho1.rd
  clear ho1 hb1
  go_wp2_with fail
  refine (HP.out _ (HRd.out.below HB1.out) (HM.out.below HB1.out) (HT.out.below HB1.out (Nat.le_refl _))).mono ?_
  rintro e w2 ⟨rfl, hb2⟩
  have HB2 : Hid (Below w.heap.size w w2) := bel_trans HB1.out hb2
  have HU2 : Hid (RdT u t w2) := HU1.out.below hb2
  clear hb2
  go_wp2_with fail
  refine (HR.out _ _ HU2.out).mono ?_
  rintro e w3 ⟨rfl, hb3⟩
  have HB3 : Hid (Below w.heap.size w w3) := bel_trans HB2.out hb3
  have HU3 : Hid (RdT u t w3) := HU2.out.below hb3
  clear hb3
  go_wp2_with fail
  refine (HA.out _ (HM.out.below HB3.out)).mono ?_
  rintro e w4 ⟨rfl, hb4⟩
  have HB4 : Hid (Below w.heap.size w w4) := bel_trans HB3.out hb4
  have HU4 : Hid (RdT u t w4) := HU3.out.below hb4
  clear hb4
  go_wp2_with fail
  refine (HS.out _ _ _ (HRd.out.below HB4.out) HU4.out).mono ?_
  rintro e w5 ⟨rfl, q5, hq5⟩
  have HB5 : Hid (Below w.heap.size w w5) := by show Below _ _ _; rw [hq5]; exact below_drewN HB4.out _
  clear hq5
  go_wp2
  go_ret
  exact ⟨rfl, HB5.out⟩

end Wr
end Go.Proofs.YtkpdaialfcegfaaDoor

/-
  The opener of a slice of parts.
-/
set_option linter.unusedVariables false
set_option linter.unusedSimpArgs false
namespace Go.Proofs.YtkpdaialfcegfaaDoor
open Go.ChangeShapes Go.WideShapes Go.RowKit
namespace Pt
open Oc Tg

theorem cells5p : Tryd.prog.cellsOf 71 = 5 := by kernel_rfl
theorem cells4p : Tryd.prog.cellsOf 4 = 1 := by kernel_rfl
theorem cells9p : Tryd.prog.cellsOf 9 = 1 := by kernel_rfl
theorem laidOutP : laidOutB Tryd.prog = true := by kernel_rfl
def bulkparts (t : List P5) : Nat := t.length + sumT t
def p5Of {H : Type} (y : DataW H × List MemPlace) : P5 := match y.1 with | .agg [.lit (.string a), .lit (.string b), .lit (.string c), .lit (.string d), .lit (.bool h)] => ⟨a, b, c, d, h⟩ | _ => p0
theorem bulk_p5s {H : Type} : ∀ es : List (DataW H × List MemPlace), (∀ y ∈ es, ∃ a b c d h, y.1 = .agg [.lit (.string a), .lit (.string b), .lit (.string c), .lit (.string d), .lit (.bool h)]) → (es.map p5Of).length + sumT (es.map p5Of) ≤ Rows.uptoBulkAll (es.map (·.1))
  | [], _ => by simp [sumT, Rows.uptoBulkAll]
  | y :: es, h => by
    have ih := bulk_p5s es (fun z hz => h z (List.mem_cons_of_mem _ hz))
    obtain ⟨a, b, c, d, hh, e⟩ := h y (by simp)
    simp only [sumT, List.map_cons, List.sum_cons, List.length_cons, Rows.uptoBulkAll, e, p5Of, szT, Rows.uptoBulk] at ih ⊢
    omega
theorem addr_addp (g o k : Nat) : Addr.add ⟨g, o, none⟩ k = ⟨g, o + k, none⟩ := by unfold Addr.add; split <;> simp_all
set_option maxRecDepth 100000 in
set_option maxHeartbeats 1000000 in
theorem open_parts {H : Type} {enc : TypeId × Value → H} {W : World} {base : Nat} {v : Value} {d : DataW H} {ps : List MemPlace} (hval : Value.okWide Tryd.prog W .any base 38 v)
    (h : DataW.Trod enc Tryd.prog W 0 (fun _ => true) true 38 v d ps) : ∃ t : List P5, RdT v t W ∧ bulkparts t ≤ Rows.uptoBulk d := by
  obtain ⟨a0, len, cap, rfl⟩ := okWide_slice Tryd.underlying38 hval
  obtain ⟨fuel, hf⟩ := h
  rcases DataW.trod_slice Tryd.underlying38 hf with ⟨hcs, hx⟩ | ⟨a, len', cap', elems, rest, n, _, hcs, hx, hb, hl, hm, hlen, hel, _, _⟩
  · simp [Value.cells] at hcs
    obtain ⟨rfl, rfl, rfl⟩ := hcs
    exact ⟨[], ⟨none, 0, rfl, .inl rfl⟩, by simp [bulkparts, sumT]⟩
  · simp [Value.cells] at hcs
    obtain ⟨rfl, rfl, rfl⟩ := hcs
    simp only [Prod.mk.injEq] at hx
    obtain ⟨rfl, rfl⟩ := hx
    have each : ∀ i y, elems[i]? = some y → ∃ (s1 s2 s3 s4 : ByteArray) (b : Bool), y.1 = .agg [.lit (.string s1.data.toList), .lit (.string s2.data.toList), .lit (.string s3.data.toList), .lit (.string s4.data.toList), .lit (.bool b)] ∧ W.cell? ((a.add (i * 5)).add 0) = some (.string s1) ∧ W.cell? ((a.add (i * 5)).add 1) = some (.string s2) ∧ W.cell? ((a.add (i * 5)).add 2) = some (.string s3) ∧ W.cell? ((a.add (i * 5)).add 3) = some (.string s4) ∧ W.cell? ((a.add (i * 5)).add 4) = some (.bool b) := by
      intro i y hy
      have hi : i < len := by rw [← hlen]; exact (List.getElem?_eq_some_iff.1 hy).1
      have h1 := hel i hi
      rw [hy, cells5p, Option.bind_eq_some_iff] at h1
      obtain ⟨cs, hcs, ht⟩ := h1
      obtain ⟨_, hcl, hcc⟩ := World.cells?_some hcs
      obtain ⟨xs, m, _, hxx, _, hxl, hff⟩ := DataW.trod_struct Tryd.underlying71 ht
      match cs, hcl with
      | [c0, c1, c2, c3, c4], _ =>
        match xs, hxl with
        | [z0, z1, z2, z3, z4], _ =>
          have f0 := hff 0 _ rfl
          have f1 := hff 1 _ rfl
          have f2 := hff 2 _ rfl
          have f3 := hff 3 _ rfl
          have f4 := hff 4 _ rfl
          simp [cells9p, cells4p] at f0 f1 f2 f3 f4
          obtain ⟨s1, e1, r1, _⟩ := DataW.trod_string Tryd.underlying9 f0
          obtain ⟨s2, e2, r2, _⟩ := DataW.trod_string Tryd.underlying9 f1
          obtain ⟨s3, e3, r3, _⟩ := DataW.trod_string Tryd.underlying9 f2
          obtain ⟨s4, e4, r4, _⟩ := DataW.trod_string Tryd.underlying9 f3
          obtain ⟨b, e5, r5⟩ := DataW.trod_bool Tryd.underlying4 f4
          subst r1 r2 r3 r4 r5
          simp at e1 e2 e3 e4 e5
          subst e1 e2 e3 e4 e5
          exact ⟨s1, s2, s3, s4, b, by rw [hxx]; rfl, hcc 0 (by omega), hcc 1 (by omega), hcc 2 (by omega), hcc 3 (by omega), hcc 4 (by omega)⟩
    refine ⟨elems.map p5Of, ⟨some a, cap, by rw [List.length_map, hlen], ?_⟩, ?_⟩
    · by_cases hl0 : len = 0
      · left
        have : elems = [] := List.length_eq_zero_iff.1 (by omega)
        rw [this]; rfl
      · right
        obtain ⟨g, o, spot⟩ := a
        have hspot : spot = none := by
          obtain ⟨y, hy⟩ : ∃ y, elems[0]? = some y := ⟨elems[0]'(by omega), List.getElem?_eq_getElem (by omega)⟩
          obtain ⟨s1, s2, s3, s4, b, _, c0, _⟩ := each 0 y hy
          simpa [Addr.add] using World.cell?_spot c0
        subst hspot
        refine ⟨g, o, rfl, by rw [List.length_map, hlen]; exact hl, fun j hj => ?_⟩
        rw [List.length_map] at hj
        obtain ⟨s1, s2, s3, s4, b, ey, c0, c1, c2, c3, c4⟩ := each j _ (List.getElem?_eq_getElem hj)
        have en : nthT (elems.map p5Of) j = ⟨s1.data.toList, s2.data.toList, s3.data.toList, s4.data.toList, b⟩ := by
          unfold nthT
          rw [List.getD_eq_getElem?_getD, List.getElem?_map, List.getElem?_eq_getElem hj]
          show p5Of elems[j] = _
          unfold p5Of
          rw [ey]
        rw [addr_addp, addr_addp] at c0 c1 c2 c3 c4
        rw [en]
        unfold CellT
        dsimp only
        rw [str_self, str_self, str_self, str_self]
        exact ⟨c0, c1, c2, c3, c4⟩
    · have hb := bulk_p5s elems (fun y hy => by
        obtain ⟨i, hi⟩ := List.getElem?_of_mem hy
        obtain ⟨s1, s2, s3, s4, b, ey, _⟩ := each i y hi
        exact ⟨_, _, _, _, _, ey⟩)
      simp only [Rows.uptoBulk, bulkparts]
      omega

end Pt
end Go.Proofs.YtkpdaialfcegfaaDoor
