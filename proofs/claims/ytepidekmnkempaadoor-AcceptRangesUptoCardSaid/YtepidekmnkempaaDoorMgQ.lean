/- Several texts as one. -/
import Derived.Test.YtepidekmnkempaaDoorMgP
import Derived.Test.YtepidekmnkempaaDoorMgK
import Derived.ChangeSlices
import Derived.ChangeOld
import Derived.Deep.RegionHeld3
import Derived.Deep.RegionWith
/-
  A media type that came in, by value.
-/
set_option linter.unusedVariables false
set_option linter.unusedSimpArgs false
namespace Go.Proofs.YtepidekmnkempaaDoor
open Go.ChangeShapes Go.WideShapes Go.RowKit
namespace Ac
open Oc

set_option maxRecDepth 100000 in
theorem open_paramsT {H : Type} {enc : TypeId × Value → H} {W : World} {v : Value} {d : DataW H} {ps : List MemPlace} (hval : ∃ a len cap, v = .slice a len cap)
    (h : DataW.Trod enc Tryd.prog W 0 (fun _ => true) true 22 v d ps) : ∃ t : List Prm, (RdP v t W ∧ NilP v t) ∧ bulkparams t ≤ Rows.uptoBulk d := by
  obtain ⟨a0, len, cap, rfl⟩ := hval
  obtain ⟨fuel, hf⟩ := h
  rcases DataW.trod_slice Tryd.underlying22 hf with ⟨hcs, hx⟩ | ⟨a, len', cap', elems, rest, n, _, hcs, hx, hb, hl, hm, hlen, hel, _, _⟩
  · simp [Value.cells] at hcs
    obtain ⟨rfl, rfl, rfl⟩ := hcs
    exact ⟨[], ⟨⟨none, 0, rfl, .inl rfl⟩, fun _ => .inl rfl⟩, by simp [bulkparams, sumP]⟩
  · simp [Value.cells] at hcs
    obtain ⟨rfl, rfl, rfl⟩ := hcs
    simp only [Prod.mk.injEq] at hx
    obtain ⟨rfl, rfl⟩ := hx
    have each : ∀ i y, elems[i]? = some y → ∃ (s1 s2 : ByteArray) (b : Bool), y.1 = .agg [.lit (.string s1.data.toList), .lit (.string s2.data.toList), .lit (.bool b)] ∧ W.cell? ((a.add (i * 3)).add 0) = some (.string s1) ∧ W.cell? ((a.add (i * 3)).add 1) = some (.string s2) ∧ W.cell? ((a.add (i * 3)).add 2) = some (.bool b) := by
      intro i y hy
      have hi : i < len := by rw [← hlen]; exact (List.getElem?_eq_some_iff.1 hy).1
      have h1 := hel i hi
      rw [hy, cellsP, Option.bind_eq_some_iff] at h1
      obtain ⟨cs, hcs, ht⟩ := h1
      obtain ⟨_, hcl, hcc⟩ := World.cells?_some hcs
      obtain ⟨y0, y1, y2, m, rfl, _, t0, t1, t2⟩ := Deep.trod_struct3 Tryd.underlying71 ht
      simp only [cells9, cells4, List.drop_zero] at t0 t1 t2
      obtain ⟨s1, e1, r1, _⟩ := DataW.trod_string Tryd.underlying9 t0
      obtain ⟨s2, e2, r2, _⟩ := DataW.trod_string Tryd.underlying9 t1
      obtain ⟨b, e3, r3⟩ := DataW.trod_bool Tryd.underlying4 t2
      subst r1 r2 r3
      match cs, hcl with
      | [c0, c1, c2], _ =>
        simp at e1 e2 e3
        subst e1 e2 e3
        exact ⟨s1, s2, b, rfl, hcc 0 (by omega), hcc 1 (by omega), hcc 2 (by omega)⟩
    refine ⟨elems.map prmOf, ⟨⟨some a, cap, by rw [List.length_map, hlen], ?_⟩, fun e => .inr ⟨a, cap, by have := congrArg List.length e; rw [List.length_map, hlen] at this; rw [this]; rfl⟩⟩, ?_⟩
    · by_cases hl0 : len = 0
      · left
        have : elems = [] := List.length_eq_zero_iff.1 (by omega)
        rw [this]; rfl
      · right
        obtain ⟨g, o, spot⟩ := a
        have hspot : spot = none := by
          obtain ⟨y, hy⟩ : ∃ y, elems[0]? = some y := ⟨elems[0]'(by omega), List.getElem?_eq_getElem (by omega)⟩
          obtain ⟨s1, s2, b, _, c0, _, _⟩ := each 0 y hy
          simpa [Addr.add] using World.cell?_spot c0
        subst hspot
        refine ⟨g, o, rfl, by rw [List.length_map, hlen]; exact hl, fun j hj => ?_⟩
        rw [List.length_map] at hj
        obtain ⟨s1, s2, b, ey, c0, c1, c2⟩ := each j _ (List.getElem?_eq_getElem hj)
        have en : nth (elems.map prmOf) j = (s1.data.toList, s2.data.toList, b) := by
          unfold nth
          rw [List.getD_eq_getElem?_getD, List.getElem?_map, List.getElem?_eq_getElem hj]
          show prmOf elems[j] = _
          unfold prmOf
          rw [ey]
        rw [addr_add, addr_add] at c0 c1 c2
        rw [en]
        dsimp only
        rw [str_self, str_self]
        exact ⟨c0, c1, c2⟩
    · have hb := bulk_prms elems (fun y hy => by
        obtain ⟨i, hi⟩ := List.getElem?_of_mem hy
        obtain ⟨s1, s2, b, ey, _⟩ := each i y hi
        exact ⟨_, _, _, ey⟩)
      simp only [Rows.uptoBulk, hb, bulkparams]
      omega


theorem cellsM : Tryd.prog.cellsOf 24 = 3 := by kernel_rfl
theorem cellsL : Tryd.prog.cellsOf 22 = 1 := by kernel_rfl
theorem array3 {α : Type} {cs : Array α} (h : cs.size = 3) : ∃ c0 c1 c2, cs = #[c0, c1, c2] := by
  obtain ⟨l⟩ := cs
  match l, h with
  | [c0, c1, c2], _ => exact ⟨c0, c1, c2, rfl⟩

set_option maxRecDepth 100000 in
theorem open_media {H : Type} {enc : TypeId × Value → H} {W : World} {base : Nat} {v : Value} {d : DataW H} {ps : List MemPlace} (hval : Value.okWide Tryd.prog W .any base 24 v)
    (h : DataW.Trod enc Tryd.prog W 0 (fun _ => true) true 24 v d ps) :
    ∃ (A B : ByteArray) (u : Value) (t : List Prm), v = .agg #[.string A, .string B, u] ∧ (RdP u t W ∧ NilP u t) ∧ A.size + B.size + bulkparams t ≤ Rows.uptoBulk d := by
  obtain ⟨cs, rfl, hsz⟩ := okWide_struct Tryd.underlying24 hval
  obtain ⟨c0, c1, c2, rfl⟩ := array3 (hsz.trans cellsM)
  obtain ⟨fuel, hf⟩ := h
  obtain ⟨y0, y1, y2, m, hx, _, t0, t1, t2⟩ := Deep.trod_struct3 Tryd.underlying24 hf
  simp only [cells9, cellsL, Value.cells, List.drop_zero] at t0 t1 t2
  obtain ⟨s1, e1, r1, _⟩ := DataW.trod_string Tryd.underlying9 t0
  obtain ⟨s2, e2, r2, _⟩ := DataW.trod_string Tryd.underlying9 t1
  simp at e1 e2
  subst e1 e2 r1 r2
  have hs2 : ∃ a len cap, c2 = .slice a len cap := by
    rcases DataW.trod_slice Tryd.underlying22 t2 with ⟨hcs, _⟩ | ⟨a, len', cap', elems, rest, n, _, hcs, _⟩
    · simp at hcs; exact ⟨_, _, _, hcs⟩
    · simp at hcs; exact ⟨_, _, _, hcs⟩
  obtain ⟨a2, l2, cap2, rfl⟩ := hs2
  obtain ⟨t, ht, hb⟩ := open_paramsT (enc := enc) (W := W) (v := .slice a2 l2 cap2) (d := y2.1) (ps := y2.2) ⟨_, _, _, rfl⟩ ⟨m, by simpa [Value.cells] using t2⟩
  refine ⟨s1, s2, _, t, rfl, ht, ?_⟩
  have hd : d = .agg [.lit (.string s1.data.toList), .lit (.string s2.data.toList), y2.1] := by
    injection hx
  rw [hd]
  simp only [Rows.uptoBulk, Rows.uptoBulkAll]
  have h1 := size_list s1
  have h2 := size_list s2
  omega

end Ac
end Go.Proofs.YtepidekmnkempaaDoor

/-
  A slice of media ranges that came in; a slice of media types.
-/
set_option linter.unusedVariables false
set_option linter.unusedSimpArgs false
namespace Go.Proofs.YtepidekmnkempaaDoor
open Go.ChangeShapes Go.WideShapes Go.RowKit
namespace Ac
open Oc

def inZ (z : Int) : Prop := -9223372036854775808 ≤ z ∧ z ≤ 9223372036854775807
theorem inZ_of_wf {x : Int} (h : (Lit.int .i64 x).wf = true) : inZ x := by
  have h1 : IntKind.i64.min = -9223372036854775808 := rfl
  have h2 : IntKind.i64.max = 9223372036854775807 := rfl
  simp only [Lit.wf, Bool.and_eq_true, decide_eq_true_eq] at h
  unfold inZ
  omega
theorem cellsI3r : Tryd.prog.cellsOf 3 = 1 := by kernel_rfl
theorem cellsRg : Tryd.prog.cellsOf 55 = 4 := by kernel_rfl
/-- A media type; a range. -/
structure Md where
  ty : ByteArray
  sub : ByteArray
  ps : List Prm
structure Rng where
  md : Md
  q : Int
def md0 : Md := ⟨⟨#[]⟩, ⟨#[]⟩, []⟩
def rg0 : Rng := ⟨md0, 0⟩
def nthR (t : List Rng) (j : Nat) : Rng := t.getD j rg0
def nthM (t : List Md) (j : Nat) : Md := t.getD j md0
/-- The cells of a media type lie from there on. -/
def RdMd (W : World) (g o : Nat) (m : Md) : Prop := W.cell? ⟨g, o, none⟩ = some (.string m.ty) ∧ W.cell? ⟨g, o + 1, none⟩ = some (.string m.sub) ∧ ∃ u, W.cell? ⟨g, o + 2, none⟩ = some u ∧ RdP u m.ps W ∧ NilP u m.ps
def RdRg (v : Value) (t : List Rng) (W : World) : Prop := ∃ a c, v = .slice a t.length c ∧ (t = [] ∨ ∃ g o, a = some ⟨g, o, none⟩ ∧ t.length ≤ c ∧ ∀ j, j < t.length → (RdMd W g (o + j * 4) (nthR t j).md ∧ W.cell? ⟨g, o + j * 4 + 3, none⟩ = some (.int .i64 (nthR t j).q)) ∧ inZ (nthR t j).q)
def RdMs (v : Value) (t : List Md) (W : World) : Prop := ∃ a c, v = .slice a t.length c ∧ (t = [] ∨ ∃ g o, a = some ⟨g, o, none⟩ ∧ t.length ≤ c ∧ ∀ j, j < t.length → RdMd W g (o + j * 3) (nthM t j))
def szM (m : Md) : Nat := m.ty.size + m.sub.size + bulkparams m.ps
def bulkM (t : List Md) : Nat := (t.map szM).sum
def bulkR (t : List Rng) : Nat := (t.map fun r => szM r.md).sum

set_option maxRecDepth 100000 in
/-- The three cells of a media type that was trodden. -/
theorem md_of {H : Type} {enc : TypeId × Value → H} {W : World} {fuel : Nat} {cs : List Value} {x : DataW H × List MemPlace} (h : DataW.trod enc Tryd.prog W 0 (fun _ => true) true fuel 24 cs = some x) :
    ∃ (A B : ByteArray) (u : Value) (t : List Prm), cs = [.string A, .string B, u] ∧ (RdP u t W ∧ NilP u t) ∧ A.size + B.size + bulkparams t + 1 ≤ Rows.uptoBulk x.1 := by
  obtain ⟨y0, y1, y2, m, rfl, hl, t0, t1, t2⟩ := Deep.trod_struct3 Tryd.underlying24 h
  rw [cellsM] at hl
  match cs, hl with
  | [c0, c1, c2], _ =>
    simp only [cells9, cellsL, List.drop_zero] at t0 t1 t2
    obtain ⟨s1, e1, r1, _⟩ := DataW.trod_string Tryd.underlying9 t0
    obtain ⟨s2, e2, r2, _⟩ := DataW.trod_string Tryd.underlying9 t1
    simp at e1 e2
    subst e1 e2 r1 r2
    have hs2 : ∃ a len cap, c2 = .slice a len cap := by
      rcases DataW.trod_slice Tryd.underlying22 t2 with ⟨hcs, _⟩ | ⟨a, len', cap', elems, rest, n, _, hcs, _⟩
      · simp at hcs; exact ⟨_, _, _, hcs⟩
      · simp at hcs; exact ⟨_, _, _, hcs⟩
    obtain ⟨a2, l2, cap2, rfl⟩ := hs2
    obtain ⟨t, ht, hb⟩ := open_paramsT (enc := enc) (W := W) (v := .slice a2 l2 cap2) (d := y2.1) (ps := y2.2) ⟨_, _, _, rfl⟩ ⟨m, by simpa [Value.cells] using t2⟩
    refine ⟨s1, s2, _, t, rfl, ht, ?_⟩
    simp only [Rows.uptoBulk, Rows.uptoBulkAll]
    have h1 := size_list s1
    have h2 := size_list s2
    omega

theorem addr_addR (g o k : Nat) : Addr.add ⟨g, o, none⟩ k = ⟨g, o + k, none⟩ := by unfold Addr.add; split <;> simp_all

theorem bulk_sum {H : Type} {α : Type} (f : Nat → α) (sz : α → Nat) : ∀ (es : List (DataW H × List MemPlace)) (k : Nat), (∀ i y, es[i]? = some y → sz (f (k + i)) ≤ Rows.uptoBulk y.1) → (((List.range es.length).map fun i => f (k + i)).map sz).sum ≤ Rows.uptoBulkAll (es.map (·.1))
  | [], _, _ => by simp [Rows.uptoBulkAll]
  | y :: es, k, h => by
    have ih := bulk_sum f sz es (k + 1) (fun i z hz => by
      have := h (i + 1) z (by simpa using hz)
      rwa [show k + (i + 1) = k + 1 + i by omega] at this)
    have h0 := h 0 y rfl
    rw [List.length_cons, List.range_succ_eq_map]
    simp only [List.map_cons, List.map_map, List.sum_cons, Rows.uptoBulkAll] at ih ⊢
    have e : (List.map (sz ∘ (fun i => f (k + i)) ∘ Nat.succ) (List.range es.length)) = List.map (sz ∘ fun i => f (k + 1 + i)) (List.range es.length) := by
      apply List.map_congr_left
      intro i _
      simp only [Function.comp]
      rw [show k + Nat.succ i = k + 1 + i by omega]
    rw [e]
    omega

set_option maxRecDepth 100000 in
theorem open_ranges {H : Type} {enc : TypeId × Value → H} {W : World} {base : Nat} {v : Value} {d : DataW H} {ps : List MemPlace} (hval : Value.okWide Tryd.prog W .any base 36 v)
    (h : DataW.Trod enc Tryd.prog W 0 (fun _ => true) true 36 v d ps) : ∃ t : List Rng, RdRg v t W ∧ (t.map fun r => szM r.md + 1).sum ≤ Rows.uptoBulk d := by
  obtain ⟨a0, len, cap, rfl⟩ := okWide_slice Tryd.underlying36 hval
  obtain ⟨fuel, hf⟩ := h
  rcases DataW.trod_slice Tryd.underlying36 hf with ⟨hcs, hx⟩ | ⟨a, len', cap', elems, rest, n, _, hcs, hx, hb, hl, hm, hlen, hel, _, _⟩
  · simp [Value.cells] at hcs
    obtain ⟨rfl, rfl, rfl⟩ := hcs
    exact ⟨[], ⟨none, 0, rfl, .inl rfl⟩, by simp⟩
  · simp [Value.cells] at hcs
    obtain ⟨rfl, rfl, rfl⟩ := hcs
    simp only [Prod.mk.injEq] at hx
    obtain ⟨rfl, rfl⟩ := hx
    by_cases c : len = 0
    · exact ⟨[], ⟨some a, cap, by rw [c]; rfl, .inl rfl⟩, by simp⟩
    obtain ⟨b, off, spot⟩ := a
    have hspot : spot = none := by
      have h1 := hel 0 (by omega)
      have hy : elems[0]? = some elems[0] := List.getElem?_eq_getElem (by omega)
      rw [hy, cellsRg, Option.bind_eq_some_iff] at h1
      obtain ⟨cs, hcs, ht⟩ := h1
      obtain ⟨_, hl4, hcell⟩ := World.cells?_some hcs
      have k0 := hcell 0 (by omega)
      rw [List.getElem?_eq_getElem (by omega)] at k0
      simpa [Addr.add] using World.cell?_spot k0
    subst hspot
    have each : ∀ i, ∃ x : Rng, ∀ hi : i < len, ((RdMd W b (off + i * 4) x.md ∧ W.cell? ⟨b, off + i * 4 + 3, none⟩ = some (.int .i64 x.q)) ∧ inZ x.q) ∧ ∀ y, elems[i]? = some y → szM x.md + 1 ≤ Rows.uptoBulk y.1 := by
      intro i
      by_cases hi : i < len
      · have h1 := hel i hi
        have hy : elems[i]? = some elems[i] := List.getElem?_eq_getElem (by omega)
        rw [hy, cellsRg, Option.bind_eq_some_iff] at h1
        obtain ⟨cs, hcs, ht⟩ := h1
        obtain ⟨ys, m, _, hx, hl4, hy4, hfs⟩ := DataW.trod_struct Tryd.underlying55 ht
        rw [cellsRg] at hl4
        have hcell := (World.cells?_some hcs).2.2
        have t0 := hfs 0 _ rfl
        have t1 := hfs 1 _ rfl
        match cs, hl4 with
        | [x0, x1, x2, x3], _ =>
          match ys, hy4 with
          | [y0, y1], _ =>
            simp [cellsM, cellsI3r] at t0 t1
            obtain ⟨A, B, u, t, e0, hR, hbk⟩ := md_of t0
            obtain ⟨m1, e1, q1, w1⟩ := DataW.trod_int Tryd.underlying3 t1
            simp at e0 e1
            obtain ⟨rfl, rfl, rfl⟩ := e0
            subst e1
            have k0 := hcell 0 (by omega)
            have k1 := hcell 1 (by omega)
            have k2 := hcell 2 (by omega)
            have k3 := hcell 3 (by omega)
            rw [addr_addR, addr_addR] at k0 k1 k2 k3
            refine ⟨⟨⟨A, B, t⟩, m1⟩, fun _ => ⟨⟨⟨⟨k0, k1, _, k2, hR⟩, k3⟩, inZ_of_wf w1⟩, fun y hy' => ?_⟩⟩
            rw [hy] at hy'
            injection hy' with hy'
            rw [← hy', hx]
            simp only [List.map_cons, List.map_nil, Rows.uptoBulk, Rows.uptoBulkAll]
            simp only [szM]
            omega
      · exact ⟨rg0, fun h => absurd h hi⟩
    obtain ⟨f, hf⟩ := Classical.axiomOfChoice each
    have hl2 : ((List.range len).map f).length = len := by simp
    refine ⟨(List.range len).map f, ⟨some ⟨b, off, none⟩, cap, by rw [hl2], .inr ⟨b, off, rfl, by omega, fun j hj => ?_⟩⟩, ?_⟩
    · have hjl : j < len := by omega
      have e : nthR ((List.range len).map f) j = f j := by
        unfold nthR
        rw [List.getD_eq_getElem?_getD, List.getElem?_map, List.getElem?_range hjl]
        rfl
      rw [e]
      exact (hf j hjl).1
    · have := bulk_sum f (fun r => szM r.md + 1) elems 0 (fun i y hy => by
        have hi : i < len := by rw [← hlen]; exact (List.getElem?_eq_some_iff.1 hy).1
        rw [Nat.zero_add]
        exact (hf i hi).2 y hy)
      simp only [Nat.zero_add] at this
      rw [hlen] at this
      change (List.map (fun r => szM r.md + 1) (List.map f (List.range len))).sum ≤ _ at this
      simp only [Rows.uptoBulk]
      omega

end Ac
end Go.Proofs.YtepidekmnkempaaDoor

/-
  The greater of two kinds of narrowness.
-/
set_option maxRecDepth 100000
set_option linter.unusedVariables false
set_option linter.unusedSimpArgs false
namespace Go.Proofs.YtepidekmnkempaaDoor
open Go.RowKit Go.Shelf
namespace Ac
open Oc Tg

def cmpZ (x y : Int) : Int := if x < y then -1 else if y < x then 1 else 0
theorem cmpZ_eq {x y : Int} (h : x = y) : cmpZ x y = 0 := by unfold cmpZ; subst h; simp
theorem cmpZ_lt {x y : Int} (h : x < y) : cmpZ x y = -1 := by unfold cmpZ; rw [if_pos h]
theorem cmpZ_gt {x y : Int} (h : y < x) : cmpZ x y = 1 := by unfold cmpZ; rw [if_neg (by omega), if_pos h]
theorem cmpZ_ne {x y : Int} (h : x ≠ y) : cmpZ x y ≠ 0 := by
  rcases Int.lt_or_gt_of_ne h with h | h
  · rw [cmpZ_lt h]; decide
  · rw [cmpZ_gt h]; decide

/-- Three numbers against three. -/
def cm3 (f g : Nat → Int) : Int := if f 0 ≠ g 0 then cmpZ (f 0) (g 0) else if f 1 ≠ g 1 then cmpZ (f 1) (g 1) else cmpZ (f 2) (g 2)
theorem cm3_no {f g : Nat → Int} {k : Nat} (hk : k < 3) (h : ∀ j, j < k → f j = g j) (hn : f k ≠ g k) : cm3 f g = cmpZ (f k) (g k) := by
  unfold cm3
  match k, hk with
  | 0, _ => rw [if_pos hn]
  | 1, _ => rw [if_neg (by simpa using h 0 (by omega)), if_pos hn]
  | 2, _ => rw [if_neg (by simpa using h 0 (by omega)), if_neg (by simpa using h 1 (by omega))]
theorem cm3_yes {f g : Nat → Int} (h : ∀ j, j < 3 → f j = g j) : cm3 f g = 0 := by
  unfold cm3
  rw [if_neg (by simpa using h 0 (by omega)), if_neg (by simpa using h 1 (by omega)), cmpZ_eq (h 2 (by omega))]

def sel3 (a b c : Int) (j : Nat) : Int := if j = 0 then a else if j = 1 then b else c
/-- The greater of two rows of three numbers. -/
def gr3 (x y : Int × Int × Int) : Int × Int × Int := if cm3 (sel3 x.1 x.2.1 x.2.2) (sel3 y.1 y.2.1 y.2.2) < 0 then y else x
def ag3 (x : Int × Int × Int) : Value := .agg #[.int .i64 x.1, .int .i64 x.2.1, .int .i64 x.2.2]

theorem cells3_of {W : World} {p : Nat} {a b c : Int} {T : TypeId} (h : W.heap[p]? = some (.cells #[.int .i64 a, .int .i64 b, .int .i64 c] T (0, 0))) : ∀ j, j < 3 → W.cell? ⟨p, 0 + j, none⟩ = some (.int .i64 (sel3 a b c j)) := by
  intro j hj
  match j, hj with
  | 0, _ => simp [World.cell?, h, sel3]
  | 1, _ => simp [World.cell?, h, sel3]
  | 2, _ => simp [World.cell?, h, sel3]
theorem set3g {W : World} {p : Nat} {x y z a b c : Value} {T : TypeId} (h : W.heap[p]? = some (.cells #[x, y, z] T (0, 0))) :
    (((W.setCell ⟨p, 0, none⟩ a).setCell ⟨p, 1, none⟩ b).setCell ⟨p, 2, none⟩ c).heap[p]? = some (.cells #[a, b, c] T (0, 0)) := by
  have h1 := heap_setCell_same W p 0 #[x, y, z] T a h
  have h2 := heap_setCell_same _ p 1 _ T b h1
  have h3 := heap_setCell_same _ p 2 _ T c h2
  simpa using h3
theorem set3c {W : World} {p : Nat} {x y z a b c : Value} {T : TypeId} (h : W.heap[p]? = some (.cells #[x, y, z] T (0, 0))) :
    ((((W.setCell ⟨p, 0, none⟩ a).setCell ⟨p, 1, none⟩ b).setCell ⟨p, 2, none⟩ c).cell? ⟨p, 0, none⟩ = some a ∧ (((W.setCell ⟨p, 0, none⟩ a).setCell ⟨p, 1, none⟩ b).setCell ⟨p, 2, none⟩ c).cell? ⟨p, 1, none⟩ = some b ∧ (((W.setCell ⟨p, 0, none⟩ a).setCell ⟨p, 1, none⟩ b).setCell ⟨p, 2, none⟩ c).cell? ⟨p, 2, none⟩ = some c) := by
  have h3 := set3g (a := a) (b := b) (c := c) h
  refine ⟨?_, ?_, ?_⟩ <;> (simp only [World.cell?, h3]; rfl)

end Ac
end Go.Proofs.YtepidekmnkempaaDoor
