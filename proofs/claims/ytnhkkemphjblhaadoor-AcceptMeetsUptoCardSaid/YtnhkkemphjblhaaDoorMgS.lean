/- Several texts as one. -/
import Derived.Test.YtnhkkemphjblhaaDoorMgL
import Derived.Test.YtnhkkemphjblhaaDoorMgR
import Derived.Deep.Strs
import Derived.Test.YtnhkkemphjblhaaDoorMgE
import Derived.Test.YtnhkkemphjblhaaDoorMgP
import Derived.Deep.RegionHeld3
/-
  A slice of parameters that came in, read as parameters.
-/
set_option linter.unusedVariables false
set_option linter.unusedSimpArgs false
namespace Go.Proofs.YtnhkkemphjblhaaDoor
open Go.ChangeShapes Go.WideShapes Go.RowKit
namespace Oc

theorem cellsP : Tryd.prog.cellsOf 64 = 3 := by kernel_rfl
theorem cells4 : Tryd.prog.cellsOf 4 = 1 := by kernel_rfl
def bulkparams (t : List Prm) : Nat := sumP t
def prmOf {H : Type} (y : DataW H × List MemPlace) : Prm := match y.1 with | .agg [.lit (.string a), .lit (.string b), .lit (.bool c)] => (a, b, c) | _ => ([], [], false)
theorem bulk_prms {H : Type} : ∀ es : List (DataW H × List MemPlace), (∀ y ∈ es, ∃ a b c, y.1 = .agg [.lit (.string a), .lit (.string b), .lit (.bool c)]) → Rows.uptoBulkAll (es.map (·.1)) = sumP (es.map prmOf)
  | [], _ => by simp [sumP, Rows.uptoBulkAll]
  | y :: es, h => by
    have ih := bulk_prms es (fun z hz => h z (List.mem_cons_of_mem _ hz))
    obtain ⟨a, b, c, e⟩ := h y (by simp)
    simp only [sumP, List.map_cons, List.sum_cons, Rows.uptoBulkAll, ih, e, prmOf, szP, Rows.uptoBulk] at ih ⊢
    omega
/-- The form of a slice of none. -/
def NilP (v : Value) (t : List Prm) : Prop := t = [] → v = .slice none 0 0 ∨ ∃ g c, v = .slice (some g) 0 c
theorem len_sumP : ∀ t : List Prm, t.length ≤ sumP t
  | [] => Nat.zero_le _
  | p :: t => by
    have := len_sumP t
    simp only [sumP, List.map_cons, List.sum_cons, List.length_cons, szP] at this ⊢
    omega
theorem prts_len : ∀ {t : List Prm} {x : List UInt8}, prts t = some x → x.length ≤ 2 * sumP t
  | [], x, h => by cases h; exact Nat.zero_le _
  | p :: r, x, h => by
    unfold prts at h
    cases hp : prt1 p with
    | none => rw [hp] at h; cases h
    | some a =>
      rw [hp] at h
      obtain ⟨b, hb, rfl⟩ := Option.map_eq_some_iff.1 h
      have h1 := prt1_len hp
      have h2 := prts_len hb
      show (a ++ b).length ≤ 2 * (szP p + sumP r)
      rw [List.length_append]
      omega
theorem addr_add (g o k : Nat) : Addr.add ⟨g, o, none⟩ k = ⟨g, o + k, none⟩ := by unfold Addr.add; split <;> simp_all
set_option maxRecDepth 100000 in
theorem open_params {H : Type} {enc : TypeId × Value → H} {W : World} {base : Nat} {v : Value} {d : DataW H} {ps : List MemPlace} (hval : Value.okWide Tryd.prog W .any base 22 v)
    (h : DataW.Trod enc Tryd.prog W 0 (fun _ => true) true 22 v d ps) : ∃ t : List Prm, (RdP v t W ∧ NilP v t) ∧ bulkparams t ≤ Rows.uptoBulk d := by
  obtain ⟨a0, len, cap, rfl⟩ := okWide_slice Tryd.underlying22 hval
  obtain ⟨fuel, hf⟩ := h
  rcases DataW.trod_slice Tryd.underlying22 hf with ⟨hcs, hx⟩ | ⟨a, len', cap', elems, rest, n, _, hcs, hx, hb, hl, hm, hlen, hel, _, _⟩
  · simp [Value.cells] at hcs
    obtain ⟨rfl, rfl, rfl⟩ := hcs
    exact ⟨[], ⟨⟨none, 0, rfl, .inl rfl⟩, fun _ => .inl rfl⟩, by simp [bulkparams, sumP]⟩
  · simp [Value.cells] at hcs
    obtain ⟨rfl, rfl, rfl⟩ := hcs
    simp only [Prod.mk.injEq] at hx
    obtain ⟨rfl, rfl⟩ := hx
    have each : ∀ i y, elems[i]? = some y → ∃ (s1 s2 : ByteArray) (b : Bool), y.1 = .agg [.lit (.string s1.data.toList), .lit (.string s2.data.toList), .lit (.bool b)] ∧ W.cell? ((a.add (i * 3)).add 0) = some (.string s1) ∧ W.cell? ((a.add (i * 3)).add 1) = some (.string s2) ∧ W.cell? ((a.add (i * 3)).add 2) = some (.bool b) := by
      intro i y hy
      have hi : i < len := by rw [← hlen]; exact (List.getElem?_eq_some_iff.1 hy).1
      have h1 := hel i hi
      rw [hy, cellsP, Option.bind_eq_some_iff] at h1
      obtain ⟨cs, hcs, ht⟩ := h1
      obtain ⟨_, hcl, hcc⟩ := World.cells?_some hcs
      obtain ⟨y0, y1, y2, m, rfl, _, t0, t1, t2⟩ := Deep.trod_struct3 Tryd.underlying64 ht
      simp only [cells9, cells4, List.drop_zero] at t0 t1 t2
      obtain ⟨s1, e1, r1, _⟩ := DataW.trod_string Tryd.underlying9 t0
      obtain ⟨s2, e2, r2, _⟩ := DataW.trod_string Tryd.underlying9 t1
      obtain ⟨b, e3, r3⟩ := DataW.trod_bool Tryd.underlying4 t2
      subst r1 r2 r3
      match cs, hcl with
      | [c0, c1, c2], _ =>
        simp at e1 e2 e3
        subst e1 e2 e3
        exact ⟨s1, s2, b, rfl, hcc 0 (by omega), hcc 1 (by omega), hcc 2 (by omega)⟩
    refine ⟨elems.map prmOf, ⟨⟨some a, cap, by rw [List.length_map, hlen], ?_⟩, fun e => .inr ⟨a, cap, by have := congrArg List.length e; rw [List.length_map, hlen] at this; rw [this]; rfl⟩⟩, ?_⟩
    · by_cases hl0 : len = 0
      · left
        have : elems = [] := List.length_eq_zero_iff.1 (by omega)
        rw [this]; rfl
      · right
        obtain ⟨g, o, spot⟩ := a
        have hspot : spot = none := by
          obtain ⟨y, hy⟩ : ∃ y, elems[0]? = some y := ⟨elems[0]'(by omega), List.getElem?_eq_getElem (by omega)⟩
          obtain ⟨s1, s2, b, _, c0, _, _⟩ := each 0 y hy
          simpa [Addr.add] using World.cell?_spot c0
        subst hspot
        refine ⟨g, o, rfl, by rw [List.length_map, hlen]; exact hl, fun j hj => ?_⟩
        rw [List.length_map] at hj
        obtain ⟨s1, s2, b, ey, c0, c1, c2⟩ := each j _ (List.getElem?_eq_getElem hj)
        have en : nth (elems.map prmOf) j = (s1.data.toList, s2.data.toList, b) := by
          unfold nth
          rw [List.getD_eq_getElem?_getD, List.getElem?_map, List.getElem?_eq_getElem hj]
          show prmOf elems[j] = _
          unfold prmOf
          rw [ey]
        rw [addr_add, addr_add] at c0 c1 c2
        rw [en]
        dsimp only
        rw [str_self, str_self]
        exact ⟨c0, c1, c2⟩
    · have hb := bulk_prms elems (fun y hy => by
        obtain ⟨i, hi⟩ := List.getElem?_of_mem hy
        obtain ⟨s1, s2, b, ey, _⟩ := each i y hi
        exact ⟨_, _, _, ey⟩)
      simp only [Rows.uptoBulk, hb, bulkparams]
      omega

end Oc
end Go.Proofs.YtnhkkemphjblhaaDoor

/-
  A media type that came in, by value.
-/
set_option linter.unusedVariables false
set_option linter.unusedSimpArgs false
namespace Go.Proofs.YtnhkkemphjblhaaDoor
open Go.ChangeShapes Go.WideShapes Go.RowKit
namespace Ac
open Oc

set_option maxRecDepth 100000 in
theorem open_paramsT {H : Type} {enc : TypeId × Value → H} {W : World} {v : Value} {d : DataW H} {ps : List MemPlace} (hval : ∃ a len cap, v = .slice a len cap)
    (h : DataW.Trod enc Tryd.prog W 0 (fun _ => true) true 22 v d ps) : ∃ t : List Prm, (RdP v t W ∧ NilP v t) ∧ bulkparams t ≤ Rows.uptoBulk d := by
  obtain ⟨a0, len, cap, rfl⟩ := hval
  obtain ⟨fuel, hf⟩ := h
  rcases DataW.trod_slice Tryd.underlying22 hf with ⟨hcs, hx⟩ | ⟨a, len', cap', elems, rest, n, _, hcs, hx, hb, hl, hm, hlen, hel, _, _⟩
  · simp [Value.cells] at hcs
    obtain ⟨rfl, rfl, rfl⟩ := hcs
    exact ⟨[], ⟨⟨none, 0, rfl, .inl rfl⟩, fun _ => .inl rfl⟩, by simp [bulkparams, sumP]⟩
  · simp [Value.cells] at hcs
    obtain ⟨rfl, rfl, rfl⟩ := hcs
    simp only [Prod.mk.injEq] at hx
    obtain ⟨rfl, rfl⟩ := hx
    have each : ∀ i y, elems[i]? = some y → ∃ (s1 s2 : ByteArray) (b : Bool), y.1 = .agg [.lit (.string s1.data.toList), .lit (.string s2.data.toList), .lit (.bool b)] ∧ W.cell? ((a.add (i * 3)).add 0) = some (.string s1) ∧ W.cell? ((a.add (i * 3)).add 1) = some (.string s2) ∧ W.cell? ((a.add (i * 3)).add 2) = some (.bool b) := by
      intro i y hy
      have hi : i < len := by rw [← hlen]; exact (List.getElem?_eq_some_iff.1 hy).1
      have h1 := hel i hi
      rw [hy, cellsP, Option.bind_eq_some_iff] at h1
      obtain ⟨cs, hcs, ht⟩ := h1
      obtain ⟨_, hcl, hcc⟩ := World.cells?_some hcs
      obtain ⟨y0, y1, y2, m, rfl, _, t0, t1, t2⟩ := Deep.trod_struct3 Tryd.underlying64 ht
      simp only [cells9, cells4, List.drop_zero] at t0 t1 t2
      obtain ⟨s1, e1, r1, _⟩ := DataW.trod_string Tryd.underlying9 t0
      obtain ⟨s2, e2, r2, _⟩ := DataW.trod_string Tryd.underlying9 t1
      obtain ⟨b, e3, r3⟩ := DataW.trod_bool Tryd.underlying4 t2
      subst r1 r2 r3
      match cs, hcl with
      | [c0, c1, c2], _ =>
        simp at e1 e2 e3
        subst e1 e2 e3
        exact ⟨s1, s2, b, rfl, hcc 0 (by omega), hcc 1 (by omega), hcc 2 (by omega)⟩
    refine ⟨elems.map prmOf, ⟨⟨some a, cap, by rw [List.length_map, hlen], ?_⟩, fun e => .inr ⟨a, cap, by have := congrArg List.length e; rw [List.length_map, hlen] at this; rw [this]; rfl⟩⟩, ?_⟩
    · by_cases hl0 : len = 0
      · left
        have : elems = [] := List.length_eq_zero_iff.1 (by omega)
        rw [this]; rfl
      · right
        obtain ⟨g, o, spot⟩ := a
        have hspot : spot = none := by
          obtain ⟨y, hy⟩ : ∃ y, elems[0]? = some y := ⟨elems[0]'(by omega), List.getElem?_eq_getElem (by omega)⟩
          obtain ⟨s1, s2, b, _, c0, _, _⟩ := each 0 y hy
          simpa [Addr.add] using World.cell?_spot c0
        subst hspot
        refine ⟨g, o, rfl, by rw [List.length_map, hlen]; exact hl, fun j hj => ?_⟩
        rw [List.length_map] at hj
        obtain ⟨s1, s2, b, ey, c0, c1, c2⟩ := each j _ (List.getElem?_eq_getElem hj)
        have en : nth (elems.map prmOf) j = (s1.data.toList, s2.data.toList, b) := by
          unfold nth
          rw [List.getD_eq_getElem?_getD, List.getElem?_map, List.getElem?_eq_getElem hj]
          show prmOf elems[j] = _
          unfold prmOf
          rw [ey]
        rw [addr_add, addr_add] at c0 c1 c2
        rw [en]
        dsimp only
        rw [str_self, str_self]
        exact ⟨c0, c1, c2⟩
    · have hb := bulk_prms elems (fun y hy => by
        obtain ⟨i, hi⟩ := List.getElem?_of_mem hy
        obtain ⟨s1, s2, b, ey, _⟩ := each i y hi
        exact ⟨_, _, _, ey⟩)
      simp only [Rows.uptoBulk, hb, bulkparams]
      omega


theorem cellsM : Tryd.prog.cellsOf 24 = 3 := by kernel_rfl
theorem cellsL : Tryd.prog.cellsOf 22 = 1 := by kernel_rfl
theorem array3 {α : Type} {cs : Array α} (h : cs.size = 3) : ∃ c0 c1 c2, cs = #[c0, c1, c2] := by
  obtain ⟨l⟩ := cs
  match l, h with
  | [c0, c1, c2], _ => exact ⟨c0, c1, c2, rfl⟩

set_option maxRecDepth 100000 in
theorem open_media {H : Type} {enc : TypeId × Value → H} {W : World} {base : Nat} {v : Value} {d : DataW H} {ps : List MemPlace} (hval : Value.okWide Tryd.prog W .any base 24 v)
    (h : DataW.Trod enc Tryd.prog W 0 (fun _ => true) true 24 v d ps) :
    ∃ (A B : ByteArray) (u : Value) (t : List Prm), v = .agg #[.string A, .string B, u] ∧ (RdP u t W ∧ NilP u t) ∧ A.size + B.size + bulkparams t ≤ Rows.uptoBulk d := by
  obtain ⟨cs, rfl, hsz⟩ := okWide_struct Tryd.underlying24 hval
  obtain ⟨c0, c1, c2, rfl⟩ := array3 (hsz.trans cellsM)
  obtain ⟨fuel, hf⟩ := h
  obtain ⟨y0, y1, y2, m, hx, _, t0, t1, t2⟩ := Deep.trod_struct3 Tryd.underlying24 hf
  simp only [cells9, cellsL, Value.cells, List.drop_zero] at t0 t1 t2
  obtain ⟨s1, e1, r1, _⟩ := DataW.trod_string Tryd.underlying9 t0
  obtain ⟨s2, e2, r2, _⟩ := DataW.trod_string Tryd.underlying9 t1
  simp at e1 e2
  subst e1 e2 r1 r2
  have hs2 : ∃ a len cap, c2 = .slice a len cap := by
    rcases DataW.trod_slice Tryd.underlying22 t2 with ⟨hcs, _⟩ | ⟨a, len', cap', elems, rest, n, _, hcs, _⟩
    · simp at hcs; exact ⟨_, _, _, hcs⟩
    · simp at hcs; exact ⟨_, _, _, hcs⟩
  obtain ⟨a2, l2, cap2, rfl⟩ := hs2
  obtain ⟨t, ht, hb⟩ := open_paramsT (enc := enc) (W := W) (v := .slice a2 l2 cap2) (d := y2.1) (ps := y2.2) ⟨_, _, _, rfl⟩ ⟨m, by simpa [Value.cells] using t2⟩
  refine ⟨s1, s2, _, t, rfl, ht, ?_⟩
  have hd : d = .agg [.lit (.string s1.data.toList), .lit (.string s2.data.toList), y2.1] := by
    injection hx
  rw [hd]
  simp only [Rows.uptoBulk, Rows.uptoBulkAll]
  have h1 := size_list s1
  have h2 := size_list s2
  omega

end Ac
end Go.Proofs.YtnhkkemphjblhaaDoor

/-
  AcceptMeets.
-/
set_option linter.unusedVariables false
set_option linter.unusedSimpArgs false
namespace Go.Proofs.YtnhkkemphjblhaaDoor
open Go.RowKit Go.Shelf
namespace Ac
open Oc Tg

set_option maxRecDepth 100000 in
set_option maxHeartbeats 4000000 in
theorem walk_AcceptMeets0 (A B C D : ByteArray) (v u : Value) (rs ms : List Prm) (hA : A.size ≤ maxLen) (hB : B.size ≤ maxLen) (hC : C.size ≤ maxLen) (hD : D.size ≤ maxLen) (hR : EachP maxLen rs) (hM : EachP maxLen ms) (hl : rs.length ≤ 16777216) (hl2 : ms.length ≤ 16777216) (w : World) (hv : RdP v rs w) (hu : RdP u ms w) (hw : Env w) :
    Calls Tryd.prog 4 #[.agg #[.string A, .string B, v], .agg #[.string C, .string D, u]] w fun e w' => e = .returned (.bool true) ∧ Below w.heap.size w w' := by
  obtain ⟨w2, hw2⟩ : ∃ w2, w2 = (w.alloc (.cells #[.string A, .string B, v] 24)).alloc (.cells #[.string C, .string D, u] 24) := ⟨_, rfl⟩
  have hb2 : Below w.heap.size w w2 := by rw [hw2]; exact ((Below.refl _ w).alloc (Nat.le_refl _) _).alloc (by simp) _
  have R1 : w2.heap[w.heap.size]? = some (.cells #[.string A, .string B, v] 24 (0, 0)) := by
    rw [hw2, Below.heap_alloc _ _ _ (by simp)]
    exact heap_alloc_new w _
  have R2 : w2.heap[w.heap.size + 1]? = some (.cells #[.string C, .string D, u] 24 (0, 0)) := by
    rw [hw2]
    have := heap_alloc_new (w.alloc (.cells #[.string A, .string B, v] 24)) (.cells #[.string C, .string D, u] 24)
    rwa [World.size_alloc] at this
  have HX : Hid (∀ W, Below w2.heap.size w2 W → (W.cell? ⟨w.heap.size, 0, none⟩ = some (.string A) ∧ W.cell? ⟨w.heap.size, 1, none⟩ = some (.string B) ∧ W.cell? ⟨w.heap.size, 2, none⟩ = some v) ∧ (W.cell? ⟨w.heap.size + 1, 0, none⟩ = some (.string C) ∧ W.cell? ⟨w.heap.size + 1, 1, none⟩ = some (.string D) ∧ W.cell? ⟨w.heap.size + 1, 2, none⟩ = some u)) := fun W b => by
    have S1 := (b.block _ (Array.getElem?_eq_some_iff.1 R1).1).trans R1
    have S2 := (b.block _ (Array.getElem?_eq_some_iff.1 R2).1).trans R2
    exact ⟨⟨Lib.cell_of_heap S1 0, Lib.cell_of_heap S1 1, Lib.cell_of_heap S1 2⟩, ⟨Lib.cell_of_heap S2 0, Lib.cell_of_heap S2 1, Lib.cell_of_heap S2 2⟩⟩
  have HA : Hid (∀ W, Below w2.heap.size w2 W → Calls Tryd.prog 9 #[] W fun e w' => e = .returned (.bool true) ∧ Below (World.heap W).size W w') := fun W b => awake_any W (hw.below (bel_trans hb2 b))
  have HM : Hid (∀ W, Below w2.heap.size w2 W → Calls Tryd.prog 11 #[.agg #[.string A, .string B, v], .agg #[.string C, .string D, u]] W fun e w' => e = .returned (.bool (metM A B C D rs ms)) ∧ Below (World.heap W).size W w') := fun W b => Meets_any A B C D v u rs ms hA hB hC hD hR hM hl hl2 W (hv.below (bel_trans hb2 b)) (hu.below (bel_trans hb2 b))
  have HR : Hid (∀ W x y, RdP x rs W → RdP y ms W → Calls Tryd.prog 12 #[.agg #[.string A, .string B, x], .agg #[.string C, .string D, y]] W fun e w' => e = .returned (.bool (metM A B C D rs ms)) ∧ Below (World.heap W).size W w') := fun W x y h1 h2 => rMeets_any A B C D x y rs ms hA hB hC hD hR hM hl hl2 W h1 h2
  have HD1 : Hid (∀ W, Below w2.heap.size w2 W → Calls Tryd.prog 13 #[.agg #[.string A, .string B, v]] W fun e w' => ∃ a c, e = .returned (.agg #[.string A, .string B, .slice a rs.length c]) ∧ RdP (.slice a rs.length c) rs w' ∧ Below (World.heap W).size W w') := fun W b => (media_any A B v rs hl W (hv.below (bel_trans hb2 b))).mono fun e w' ⟨x, he, ho, hb⟩ => by
    obtain ⟨a, c, rfl, hh⟩ := OwnP.rd ho
    exact ⟨a, c, he, ⟨a, c, rfl, hh⟩, hb⟩
  have HD2 : Hid (∀ W, Below w2.heap.size w2 W → Calls Tryd.prog 13 #[.agg #[.string C, .string D, u]] W fun e w' => ∃ a c, e = .returned (.agg #[.string C, .string D, .slice a ms.length c]) ∧ RdP (.slice a ms.length c) ms w' ∧ Below (World.heap W).size W w') := fun W b => (media_any C D u ms hl2 W (hu.below (bel_trans hb2 b))).mono fun e w' ⟨x, he, ho, hb⟩ => by
    obtain ⟨a, c, rfl, hh⟩ := OwnP.rd ho
    exact ⟨a, c, he, ⟨a, c, rfl, hh⟩, hb⟩
  have HB2 : Hid (Below w.heap.size w w2) := hb2
  have HBn : Hid (Below w2.heap.size w2 w2.drew) := below_drewN (Below.refl _ w2) 1
  obtain ⟨⟨x0, x1, x2⟩, ⟨y0, y1, y2⟩⟩ := HX.out w2 (Below.refl _ _)
  obtain ⟨⟨c0, c1, c2⟩, ⟨d0, d1, d2⟩⟩ := HX.out _ HBn.out
  obtain ⟨av, cv, rfl, _⟩ := hv
  obtain ⟨au, cu, rfl, _⟩ := hu
  generalize metM A B C D rs ms = V at *
  have HU1 : Hid True := trivial
  have HU2 : Hid True := trivial
  have hVV : (V == V) = true := by simp
  clear hR hM hw R1 R2 hb2
  go_enter Tryd.func4, Tryd.ntmps4
  go_upto_region 1 with fail
  rw [← hw2]
  clear hw2
  go_region_held3 (fun W => (W.cell? ⟨w.heap.size, 0, none⟩ = some (.string A) ∧ W.cell? ⟨w.heap.size, 1, none⟩ = some (.string B) ∧ W.cell? ⟨w.heap.size, 2, none⟩ = some (.slice av rs.length cv)) ∧ (W.cell? ⟨w.heap.size + 1, 0, none⟩ = some (.string C) ∧ W.cell? ⟨w.heap.size + 1, 1, none⟩ = some (.string D) ∧ W.cell? ⟨w.heap.size + 1, 2, none⟩ = some (.slice au ms.length cu))) (first | with_reducible exact HX.out _ HBn.out) (first
    | (go_at_call 9; refine (HA.out _ HBn.out).mono ?_; rintro e wn ⟨rfl, hbn⟩; have HBn : Hid (Below w2.heap.size w2 wn) := bel_trans HBn.out hbn; clear hbn)
    | (go_at_call 11; refine (HM.out _ HBn.out).mono ?_; rintro e wn ⟨rfl, hbn⟩; (try (have HU1 : Hid (RdP _ rs wn) := HU1.out.below hbn)); (try (have HU2 : Hid (RdP _ ms wn) := HU2.out.below hbn)); have HBn : Hid (Below w2.heap.size w2 wn) := bel_trans HBn.out hbn; clear hbn)
    | (go_at_call 13; (with_reducible refine (HD1.out _ HBn.out).mono ?_); rintro e wn ⟨a1, c1, rfl, ho, hbn⟩; (try (have HU2 : Hid (RdP _ ms wn) := HU2.out.below hbn)); have HU1 : Hid (RdP (.slice a1 rs.length c1) rs wn) := ho; have HBn : Hid (Below w2.heap.size w2 wn) := bel_trans HBn.out hbn; clear hbn ho)
    | (go_at_call 13; (with_reducible refine (HD2.out _ HBn.out).mono ?_); rintro e wn ⟨a2, c2, rfl, ho, hbn⟩; (try (have HU1 : Hid (RdP _ rs wn) := HU1.out.below hbn)); have HU2 : Hid (RdP (.slice a2 ms.length c2) ms wn) := ho; have HBn : Hid (Below w2.heap.size w2 wn) := bel_trans HBn.out hbn; clear hbn ho)
    | (go_at_call 12; refine (HR.out _ _ _ HU1.out HU2.out).mono ?_; rintro e wn ⟨rfl, hbn⟩; have HBn : Hid (Below w2.heap.size w2 wn) := bel_trans HBn.out hbn; clear hbn))
  all_goals
    go_wp2
    go_ret
    exact ⟨by simp, bel_trans HB2.out HBn.out⟩

theorem eachP_of_bulk (t : List Prm) (h : bulkparams t ≤ 1048576) : EachP maxLen t ∧ t.length ≤ 16777216 := by
  unfold bulkparams at h
  have h3 := len_sumP t
  refine ⟨fun p hp => ?_, by omega⟩
  obtain ⟨k, hk, rfl⟩ := List.mem_iff_getElem.1 hp
  have := nth_sz t k hk
  have e : nth t k = t[k] := by
    unfold nth
    rw [List.getD_eq_getElem?_getD, List.getElem?_eq_getElem hk]
    rfl
  rw [e] at this
  unfold szP at this
  unfold maxLen
  omega

theorem walk_AcceptMeets (A B : ByteArray) (v : Value) (rs : List Prm) (h1 : A.size + B.size + bulkparams rs ≤ 1048576) (C D : ByteArray) (u : Value) (ms : List Prm) (h2 : C.size + D.size + bulkparams ms ≤ 1048576) (w : World) (hv : RdP v rs w ∧ NilP v rs) (hu : RdP u ms w ∧ NilP u ms) (hw : Env w) :
    Calls Tryd.prog 4 #[.agg #[.string A, .string B, v], .agg #[.string C, .string D, u]] w fun e w' => e = .returned (.bool true) ∧ Below w.heap.size w w' := by
  obtain ⟨e1, l1⟩ := eachP_of_bulk rs (by omega)
  obtain ⟨e2, l2⟩ := eachP_of_bulk ms (by omega)
  have hm : 1048576 ≤ maxLen := by unfold maxLen; omega
  exact walk_AcceptMeets0 A B C D v u rs ms (by omega) (by omega) (by omega) (by omega) e1 e2 l1 l2 w hv.1 hu.1 hw

end Ac
end Go.Proofs.YtnhkkemphjblhaaDoor
