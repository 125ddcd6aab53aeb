/-
  Slices of tags and of bytes that came in.
-/
import Derived.Test.YtheeloaebilgiabGreatDoorOpT
import Derived.Test.YtheeloaebilgiabGreatDoorWBk
import Derived.OpenShut
import Derived.SliceStrings
import Derived.Carry
import Derived.ChangeSlices
import Derived.ChangeOld
set_option linter.unusedVariables false
set_option linter.unusedSimpArgs false
namespace Go.Proofs.YtheeloaebilgiabGreatDoor
open Go.ChangeShapes Go.WideShapes Go.RowKit
namespace Tt
open Oc

theorem laidOutT : laidOutB Tryz.prog = true := by kernel_rfl
def szT (p : Tg1) : Nat := p.2.length + 3
def sumT (t : List Tg1) : Nat := (t.map szT).sum
theorem len_sumT : ∀ t : List Tg1, t.length ≤ sumT t
  | [] => by simp
  | p :: t => by
    have := len_sumT t
    unfold sumT at *
    simp [szT]
    omega
theorem each_sumT : ∀ (t : List Tg1) (j : Nat), (nth t j).2.length ≤ sumT t
  | [], j => by simp [nth]
  | p :: t, 0 => by simp [nth, sumT, szT]; omega
  | p :: t, j + 1 => by
    have := each_sumT t j
    have e : nth (p :: t) (j + 1) = nth t j := by unfold nth; simp
    rw [e]
    unfold sumT at *
    simp [szT]
    omega
def tgOf {H : Type} (y : DataW H × List MemPlace) : Tg1 := match y.1 with | .agg [.lit (.bool a), .lit (.string b)] => (a, b) | _ => (false, [])
theorem bulk_tgs {H : Type} : ∀ es : List (DataW H × List MemPlace), (∀ y ∈ es, ∃ a b, y.1 = .agg [.lit (.bool a), .lit (.string b)]) → Rows.uptoBulkAll (es.map (·.1)) = sumT (es.map tgOf)
  | [], _ => by simp [sumT, Rows.uptoBulkAll]
  | y :: es, h => by
    have ih := bulk_tgs es (fun z hz => h z (List.mem_cons_of_mem _ hz))
    obtain ⟨a, b, e⟩ := h y (by simp)
    simp only [sumT, List.map_cons, List.sum_cons, Rows.uptoBulkAll, ih, e, tgOf, szT, Rows.uptoBulk] at ih ⊢
    omega
theorem addr_addT (g o k : Nat) : Addr.add ⟨g, o, none⟩ k = ⟨g, o + k, none⟩ := by unfold Addr.add; split <;> simp_all
set_option maxRecDepth 100000 in
theorem open_tags {H : Type} {enc : TypeId × Value → H} {W : World} {base : Nat} {v : Value} {d : DataW H} {ps : List MemPlace} (hval : Value.okWide Tryz.prog W .any base 22 v)
    (h : DataW.Trod enc Tryz.prog W 0 (fun _ => true) true 22 v d ps) : ∃ t : List Tg1, RdT v t W ∧ sumT t ≤ Rows.uptoBulk d := by
  obtain ⟨a0, len, cap, rfl⟩ := okWide_slice Tryz.underlying22 hval
  obtain ⟨fuel, hf⟩ := h
  rcases DataW.trod_slice Tryz.underlying22 hf with ⟨hcs, hx⟩ | ⟨a, len', cap', elems, rest, n, _, hcs, hx, hb, hl, hm, hlen, hel, _, _⟩
  · simp [Value.cells] at hcs
    obtain ⟨rfl, rfl, rfl⟩ := hcs
    exact ⟨[], ⟨none, 0, rfl, .inl rfl⟩, by simp [sumT]⟩
  · simp [Value.cells] at hcs
    obtain ⟨rfl, rfl, rfl⟩ := hcs
    simp only [Prod.mk.injEq] at hx
    obtain ⟨rfl, rfl⟩ := hx
    have each : ∀ i y, elems[i]? = some y → ∃ (s1 : Bool) (s2 : ByteArray), y.1 = .agg [.lit (.bool s1), .lit (.string s2.data.toList)] ∧ W.cell? ((a.add (i * 2)).add 0) = some (.bool s1) ∧ W.cell? ((a.add (i * 2)).add 1) = some (.string s2) := by
      intro i y hy
      have hi : i < len := by rw [← hlen]; exact (List.getElem?_eq_some_iff.1 hy).1
      have h1 := hel i hi
      rw [hy, cellsTg, Option.bind_eq_some_iff] at h1
      obtain ⟨cs, hcs, ht⟩ := h1
      obtain ⟨ys, m, _, hx, hl4, hy4, hfs⟩ := DataW.trod_struct Tryz.underlying27 ht
      rw [cellsTg] at hl4
      have hcc := (World.cells?_some hcs).2.2
      have t0 := hfs 0 _ rfl
      have t1 := hfs 1 _ rfl
      match cs, hl4 with
      | [x0, x1], _ =>
        match ys, hy4 with
        | [y0, y1], _ =>
          simp [cellsS, cellsB] at t0 t1
          obtain ⟨m0, e0, q0⟩ := DataW.trod_bool Tryz.underlying4 t0
          obtain ⟨m1, e1, q1, w1⟩ := DataW.trod_string Tryz.underlying9 t1
          simp at e0 e1
          subst e0 e1
          subst q0 q1
          refine ⟨m0, m1, ?_, hcc 0 (by omega), hcc 1 (by omega)⟩
          rw [hx]
          rfl
    refine ⟨elems.map tgOf, ⟨some a, cap, by rw [List.length_map, hlen], ?_⟩, ?_⟩
    · by_cases hl0 : len = 0
      · left
        have : elems = [] := List.length_eq_zero_iff.1 (by omega)
        rw [this]; rfl
      · right
        obtain ⟨g, o, spot⟩ := a
        have hspot : spot = none := by
          obtain ⟨y, hy⟩ : ∃ y, elems[0]? = some y := ⟨elems[0]'(by omega), List.getElem?_eq_getElem (by omega)⟩
          obtain ⟨s1, s2, _, c0, _⟩ := each 0 y hy
          simpa [Addr.add] using World.cell?_spot c0
        subst hspot
        refine ⟨g, o, rfl, by rw [List.length_map, hlen]; exact hl, fun j hj => ?_⟩
        rw [List.length_map] at hj
        obtain ⟨s1, s2, ey, c0, c1⟩ := each j _ (List.getElem?_eq_getElem hj)
        have en : nth (elems.map tgOf) j = (s1, s2.data.toList) := by
          unfold nth
          rw [List.getD_eq_getElem?_getD, List.getElem?_map, List.getElem?_eq_getElem hj]
          show tgOf elems[j] = _
          unfold tgOf
          rw [ey]
        rw [addr_addT, addr_addT] at c0 c1
        rw [en]
        dsimp only
        rw [str_self]
        exact ⟨c0, c1⟩
    · have hb := bulk_tgs elems (fun y hy => by
        obtain ⟨i, hi⟩ := List.getElem?_of_mem hy
        obtain ⟨s1, s2, ey, _⟩ := each i y hi
        exact ⟨_, _, ey⟩)
      simp only [Rows.uptoBulk, hb]
      omega


theorem cells5 : Tryz.prog.cellsOf 5 = 1 := by kernel_rfl
theorem bulk_len {H : Type} : ∀ es : List (DataW H), es.length ≤ Rows.uptoBulkAll es
  | [] => by simp
  | d :: es => by
    have ih := bulk_len es
    have h1 : 1 ≤ Rows.uptoBulk d := by
      cases d with
      | lit l => cases l <;> simp [Rows.uptoBulk]
      | _ => simp [Rows.uptoBulk]
    simp only [Rows.uptoBulkAll, List.length_cons]
    omega
set_option maxRecDepth 100000 in
theorem open_y {H : Type} {enc : TypeId × Value → H} {W : World} {base : Nat} {v : Value} {d : DataW H} {ps : List MemPlace} (hval : Value.okWide Tryz.prog W .any base 23 v)
    (h : DataW.Trod enc Tryz.prog W 0 (fun _ => true) true 23 v d ps) : ∃ n : Nat, RdY v n W ∧ n ≤ Rows.uptoBulk d := by
  obtain ⟨a1, len, cap, rfl⟩ := okWide_slice Tryz.underlying23 hval
  obtain ⟨fuel, hf⟩ := h
  rcases open_ints Tryz.underlying23 Tryz.underlying5 cells5 hf with ⟨hcs, hx⟩ | ⟨a, len', cap', zs, hcs, _, hl, hm, hz, hx, hcell, hwz⟩
  · simp [Value.cells] at hcs
    obtain ⟨rfl, rfl, rfl⟩ := hcs
    exact ⟨0, ⟨none, 0, rfl, .inl rfl⟩, Nat.zero_le _⟩
  · simp [Value.cells] at hcs
    obtain ⟨rfl, rfl, rfl⟩ := hcs
    simp only [Prod.mk.injEq] at hx
    obtain ⟨rfl, rfl⟩ := hx
    simp only [if_true] at hz
    refine ⟨len, ⟨some a, cap, rfl, ?_⟩, ?_⟩
    · by_cases hl0 : len = 0
      · exact .inl hl0
      · right
        obtain ⟨g, o, spot⟩ := a
        have hspot : spot = none := by simpa [Addr.add] using World.cell?_spot (hcell 0 (by omega))
        subst hspot
        refine ⟨g, o, rfl, hl, fun j hj => ?_⟩
        have hcj := hcell j (by omega)
        rw [addr_addT] at hcj
        have hb := range_u8 hwz j
        rw [← List.getD_eq_getElem?_getD] at hb
        exact ⟨_, by omega, by omega, hcj⟩
    · simp only [Rows.uptoBulk]
      have := bulk_len (lits .u8 (zs.take len) : List (DataW H))
      simp [lits] at this ⊢
      omega

theorem walkb_TagBack (v0 : Value) (t : List Tg1) (b0 : sumT t ≤ 1048576) (v1 : Value) (n : Nat) (b1 : n ≤ 1048576) (w : World) (h0 : RdT v0 t w) (h1 : RdY v1 n w) (hw : Fd.ML w) :
    Calls Tryz.prog 3 #[v0, v1] w fun e w' => e = .returned (.bool true) ∧ Below w.heap.size w w' :=
  walk_TagBack v0 v1 t (Nat.le_trans (len_sumT t) b0) (fun j => Nat.le_trans (each_sumT t j) b0) n b1 w h0 h1 hw

end Tt
end Go.Proofs.YtheeloaebilgiabGreatDoor
