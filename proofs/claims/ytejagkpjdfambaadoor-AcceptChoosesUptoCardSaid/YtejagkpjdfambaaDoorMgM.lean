/- Several texts as one. -/
import Derived.Test.YtejagkpjdfambaaDoorMgL
import Derived.Test.YtejagkpjdfambaaDoorMgD
import Derived.Test.YtejagkpjdfambaaDoorMgE
import Derived.ChangeSlices
import Derived.ChangeOld
/-
  What lies in the world, and the library's Cut.
-/
set_option linter.unusedVariables false
set_option linter.unusedSimpArgs false
namespace Go.Proofs.YtejagkpjdfambaaDoor
open Go.RowKit Go.Shelf
namespace Ac
open Oc Tg

/-- The library's MaxLen lies. -/
def ML (w : World) : Prop := ∃ m : Int, w.cell? ⟨0, 0, none⟩ = some (.int .i64 m)
theorem ML.below {w w' : World} (h : ML w) (hb : Below w.heap.size w w') : ML w' := by
  obtain ⟨m, hm⟩ := h
  exact ⟨m, (hb.cell (p := ⟨0, 0, none⟩) (World.block_lt_of_cell? w _ hm)).trans hm⟩
/-- What the walks lean on: the table of signs, and MaxLen. -/
def Env (w : World) : Prop := Tab w ∧ ML w
theorem Env.below {w w' : World} (h : Env w) (hb : Below w.heap.size w w') : Env w' := ⟨h.1.below hb (Nat.le_refl _), h.2.below hb⟩

theorem Cut_any (s p : ByteArray) (hs : s.size ≤ 4000000000) (w : World) (h : ML w) :
    Calls Tryd.prog 26 #[.string s, .string p] w fun e w' => e = .returned (.tuple #[.string (str (Lib.cut s.data.toList p.data.toList).1), .string (str (Lib.cut s.data.toList p.data.toList).2.1), .bool (Lib.cut s.data.toList p.data.toList).2.2]) ∧ Below w.heap.size w w' := by
  obtain ⟨m, hm⟩ := h
  refine (Tryd.strings_Cut s p m w (by omega) hm).mono ?_
  rintro e w' ⟨rfl, n, rfl⟩
  exact ⟨rfl, ⟨rfl, rfl, rfl, Nat.le_refl _, fun _ _ => rfl⟩⟩
theorem Cut_one (s : ByteArray) (b : UInt8) (hs : s.size ≤ 4000000000) (w : World) (h : ML w) :
    Calls Tryd.prog 26 #[.string s, .string ⟨#[b]⟩] w fun e w' => e = .returned (.tuple #[.string (str (cutA b s.data.toList)), .string (str (cutB b s.data.toList)), .bool (has b s.data.toList)]) ∧ Below w.heap.size w w' := by
  have h := Cut_any s ⟨#[b]⟩ hs w h
  rw [show (⟨#[b]⟩ : ByteArray).data.toList = [b] from rfl, cut_one] at h
  exact h

end Ac
end Go.Proofs.YtejagkpjdfambaaDoor

/-
  A media type that came in, by value.
-/
set_option linter.unusedVariables false
set_option linter.unusedSimpArgs false
namespace Go.Proofs.YtejagkpjdfambaaDoor
open Go.ChangeShapes Go.WideShapes Go.RowKit
namespace Ac
open Oc

set_option maxRecDepth 100000 in
theorem open_paramsT {H : Type} {enc : TypeId × Value → H} {W : World} {v : Value} {d : DataW H} {ps : List MemPlace} (hval : ∃ a len cap, v = .slice a len cap)
    (h : DataW.Trod enc Tryd.prog W 0 (fun _ => true) true 23 v d ps) : ∃ t : List Prm, (RdP v t W ∧ NilP v t) ∧ bulkparams t ≤ Rows.uptoBulk d := by
  obtain ⟨a0, len, cap, rfl⟩ := hval
  obtain ⟨fuel, hf⟩ := h
  rcases DataW.trod_slice Tryd.underlying23 hf with ⟨hcs, hx⟩ | ⟨a, len', cap', elems, rest, n, _, hcs, hx, hb, hl, hm, hlen, hel, _, _⟩
  · simp [Value.cells] at hcs
    obtain ⟨rfl, rfl, rfl⟩ := hcs
    exact ⟨[], ⟨⟨none, 0, rfl, .inl rfl⟩, fun _ => .inl rfl⟩, by simp [bulkparams, sumP]⟩
  · simp [Value.cells] at hcs
    obtain ⟨rfl, rfl, rfl⟩ := hcs
    simp only [Prod.mk.injEq] at hx
    obtain ⟨rfl, rfl⟩ := hx
    have each : ∀ i y, elems[i]? = some y → ∃ (s1 s2 : ByteArray) (b : Bool), y.1 = .agg [.lit (.string s1.data.toList), .lit (.string s2.data.toList), .lit (.bool b)] ∧ W.cell? ((a.add (i * 3)).add 0) = some (.string s1) ∧ W.cell? ((a.add (i * 3)).add 1) = some (.string s2) ∧ W.cell? ((a.add (i * 3)).add 2) = some (.bool b) := by
      intro i y hy
      have hi : i < len := by rw [← hlen]; exact (List.getElem?_eq_some_iff.1 hy).1
      have h1 := hel i hi
      rw [hy, cellsP, Option.bind_eq_some_iff] at h1
      obtain ⟨cs, hcs, ht⟩ := h1
      obtain ⟨_, hcl, hcc⟩ := World.cells?_some hcs
      obtain ⟨y0, y1, y2, m, rfl, _, t0, t1, t2⟩ := Deep.trod_struct3 Tryd.underlying60 ht
      simp only [cells9, cells4, List.drop_zero] at t0 t1 t2
      obtain ⟨s1, e1, r1, _⟩ := DataW.trod_string Tryd.underlying9 t0
      obtain ⟨s2, e2, r2, _⟩ := DataW.trod_string Tryd.underlying9 t1
      obtain ⟨b, e3, r3⟩ := DataW.trod_bool Tryd.underlying4 t2
      subst r1 r2 r3
      match cs, hcl with
      | [c0, c1, c2], _ =>
        simp at e1 e2 e3
        subst e1 e2 e3
        exact ⟨s1, s2, b, rfl, hcc 0 (by omega), hcc 1 (by omega), hcc 2 (by omega)⟩
    refine ⟨elems.map prmOf, ⟨⟨some a, cap, by rw [List.length_map, hlen], ?_⟩, fun e => .inr ⟨a, cap, by have := congrArg List.length e; rw [List.length_map, hlen] at this; rw [this]; rfl⟩⟩, ?_⟩
    · by_cases hl0 : len = 0
      · left
        have : elems = [] := List.length_eq_zero_iff.1 (by omega)
        rw [this]; rfl
      · right
        obtain ⟨g, o, spot⟩ := a
        have hspot : spot = none := by
          obtain ⟨y, hy⟩ : ∃ y, elems[0]? = some y := ⟨elems[0]'(by omega), List.getElem?_eq_getElem (by omega)⟩
          obtain ⟨s1, s2, b, _, c0, _, _⟩ := each 0 y hy
          simpa [Addr.add] using World.cell?_spot c0
        subst hspot
        refine ⟨g, o, rfl, by rw [List.length_map, hlen]; exact hl, fun j hj => ?_⟩
        rw [List.length_map] at hj
        obtain ⟨s1, s2, b, ey, c0, c1, c2⟩ := each j _ (List.getElem?_eq_getElem hj)
        have en : nth (elems.map prmOf) j = (s1.data.toList, s2.data.toList, b) := by
          unfold nth
          rw [List.getD_eq_getElem?_getD, List.getElem?_map, List.getElem?_eq_getElem hj]
          show prmOf elems[j] = _
          unfold prmOf
          rw [ey]
        rw [addr_add, addr_add] at c0 c1 c2
        rw [en]
        dsimp only
        rw [str_self, str_self]
        exact ⟨c0, c1, c2⟩
    · have hb := bulk_prms elems (fun y hy => by
        obtain ⟨i, hi⟩ := List.getElem?_of_mem hy
        obtain ⟨s1, s2, b, ey, _⟩ := each i y hi
        exact ⟨_, _, _, ey⟩)
      simp only [Rows.uptoBulk, hb, bulkparams]
      omega


theorem cellsM : Tryd.prog.cellsOf 25 = 3 := by kernel_rfl
theorem cellsL : Tryd.prog.cellsOf 23 = 1 := by kernel_rfl
theorem array3 {α : Type} {cs : Array α} (h : cs.size = 3) : ∃ c0 c1 c2, cs = #[c0, c1, c2] := by
  obtain ⟨l⟩ := cs
  match l, h with
  | [c0, c1, c2], _ => exact ⟨c0, c1, c2, rfl⟩

set_option maxRecDepth 100000 in
theorem open_media {H : Type} {enc : TypeId × Value → H} {W : World} {base : Nat} {v : Value} {d : DataW H} {ps : List MemPlace} (hval : Value.okWide Tryd.prog W .any base 25 v)
    (h : DataW.Trod enc Tryd.prog W 0 (fun _ => true) true 25 v d ps) :
    ∃ (A B : ByteArray) (u : Value) (t : List Prm), v = .agg #[.string A, .string B, u] ∧ (RdP u t W ∧ NilP u t) ∧ A.size + B.size + bulkparams t ≤ Rows.uptoBulk d := by
  obtain ⟨cs, rfl, hsz⟩ := okWide_struct Tryd.underlying25 hval
  obtain ⟨c0, c1, c2, rfl⟩ := array3 (hsz.trans cellsM)
  obtain ⟨fuel, hf⟩ := h
  obtain ⟨y0, y1, y2, m, hx, _, t0, t1, t2⟩ := Deep.trod_struct3 Tryd.underlying25 hf
  simp only [cells9, cellsL, Value.cells, List.drop_zero] at t0 t1 t2
  obtain ⟨s1, e1, r1, _⟩ := DataW.trod_string Tryd.underlying9 t0
  obtain ⟨s2, e2, r2, _⟩ := DataW.trod_string Tryd.underlying9 t1
  simp at e1 e2
  subst e1 e2 r1 r2
  have hs2 : ∃ a len cap, c2 = .slice a len cap := by
    rcases DataW.trod_slice Tryd.underlying23 t2 with ⟨hcs, _⟩ | ⟨a, len', cap', elems, rest, n, _, hcs, _⟩
    · simp at hcs; exact ⟨_, _, _, hcs⟩
    · simp at hcs; exact ⟨_, _, _, hcs⟩
  obtain ⟨a2, l2, cap2, rfl⟩ := hs2
  obtain ⟨t, ht, hb⟩ := open_paramsT (enc := enc) (W := W) (v := .slice a2 l2 cap2) (d := y2.1) (ps := y2.2) ⟨_, _, _, rfl⟩ ⟨m, by simpa [Value.cells] using t2⟩
  refine ⟨s1, s2, _, t, rfl, ht, ?_⟩
  have hd : d = .agg [.lit (.string s1.data.toList), .lit (.string s2.data.toList), y2.1] := by
    injection hx
  rw [hd]
  simp only [Rows.uptoBulk, Rows.uptoBulkAll]
  have h1 := size_list s1
  have h2 := size_list s2
  omega

end Ac
end Go.Proofs.YtejagkpjdfambaaDoor

/-
  A slice of media ranges that came in; a slice of media types.
-/
set_option linter.unusedVariables false
set_option linter.unusedSimpArgs false
namespace Go.Proofs.YtejagkpjdfambaaDoor
open Go.ChangeShapes Go.WideShapes Go.RowKit
namespace Ac
open Oc

def inZ (z : Int) : Prop := -9223372036854775808 ≤ z ∧ z ≤ 9223372036854775807
theorem inZ_of_wf {x : Int} (h : (Lit.int .i64 x).wf = true) : inZ x := by
  have h1 : IntKind.i64.min = -9223372036854775808 := rfl
  have h2 : IntKind.i64.max = 9223372036854775807 := rfl
  simp only [Lit.wf, Bool.and_eq_true, decide_eq_true_eq] at h
  unfold inZ
  omega
theorem cellsI3r : Tryd.prog.cellsOf 3 = 1 := by kernel_rfl
theorem cellsRg : Tryd.prog.cellsOf 44 = 4 := by kernel_rfl
/-- A media type; a range. -/
structure Md where
  ty : ByteArray
  sub : ByteArray
  ps : List Prm
structure Rng where
  md : Md
  q : Int
def md0 : Md := ⟨⟨#[]⟩, ⟨#[]⟩, []⟩
def rg0 : Rng := ⟨md0, 0⟩
def nthR (t : List Rng) (j : Nat) : Rng := t.getD j rg0
def nthM (t : List Md) (j : Nat) : Md := t.getD j md0
/-- The cells of a media type lie from there on. -/
def RdMd (W : World) (g o : Nat) (m : Md) : Prop := W.cell? ⟨g, o, none⟩ = some (.string m.ty) ∧ W.cell? ⟨g, o + 1, none⟩ = some (.string m.sub) ∧ ∃ u, W.cell? ⟨g, o + 2, none⟩ = some u ∧ RdP u m.ps W ∧ NilP u m.ps
def RdRg (v : Value) (t : List Rng) (W : World) : Prop := ∃ a c, v = .slice a t.length c ∧ (t = [] ∨ ∃ g o, a = some ⟨g, o, none⟩ ∧ t.length ≤ c ∧ ∀ j, j < t.length → (RdMd W g (o + j * 4) (nthR t j).md ∧ W.cell? ⟨g, o + j * 4 + 3, none⟩ = some (.int .i64 (nthR t j).q)) ∧ inZ (nthR t j).q)
def RdMs (v : Value) (t : List Md) (W : World) : Prop := ∃ a c, v = .slice a t.length c ∧ (t = [] ∨ ∃ g o, a = some ⟨g, o, none⟩ ∧ t.length ≤ c ∧ ∀ j, j < t.length → RdMd W g (o + j * 3) (nthM t j))
def szM (m : Md) : Nat := m.ty.size + m.sub.size + bulkparams m.ps
def bulkM (t : List Md) : Nat := (t.map szM).sum
def bulkR (t : List Rng) : Nat := (t.map fun r => szM r.md).sum

set_option maxRecDepth 100000 in
/-- The three cells of a media type that was trodden. -/
theorem md_of {H : Type} {enc : TypeId × Value → H} {W : World} {fuel : Nat} {cs : List Value} {x : DataW H × List MemPlace} (h : DataW.trod enc Tryd.prog W 0 (fun _ => true) true fuel 25 cs = some x) :
    ∃ (A B : ByteArray) (u : Value) (t : List Prm), cs = [.string A, .string B, u] ∧ (RdP u t W ∧ NilP u t) ∧ A.size + B.size + bulkparams t + 1 ≤ Rows.uptoBulk x.1 := by
  obtain ⟨y0, y1, y2, m, rfl, hl, t0, t1, t2⟩ := Deep.trod_struct3 Tryd.underlying25 h
  rw [cellsM] at hl
  match cs, hl with
  | [c0, c1, c2], _ =>
    simp only [cells9, cellsL, List.drop_zero] at t0 t1 t2
    obtain ⟨s1, e1, r1, _⟩ := DataW.trod_string Tryd.underlying9 t0
    obtain ⟨s2, e2, r2, _⟩ := DataW.trod_string Tryd.underlying9 t1
    simp at e1 e2
    subst e1 e2 r1 r2
    have hs2 : ∃ a len cap, c2 = .slice a len cap := by
      rcases DataW.trod_slice Tryd.underlying23 t2 with ⟨hcs, _⟩ | ⟨a, len', cap', elems, rest, n, _, hcs, _⟩
      · simp at hcs; exact ⟨_, _, _, hcs⟩
      · simp at hcs; exact ⟨_, _, _, hcs⟩
    obtain ⟨a2, l2, cap2, rfl⟩ := hs2
    obtain ⟨t, ht, hb⟩ := open_paramsT (enc := enc) (W := W) (v := .slice a2 l2 cap2) (d := y2.1) (ps := y2.2) ⟨_, _, _, rfl⟩ ⟨m, by simpa [Value.cells] using t2⟩
    refine ⟨s1, s2, _, t, rfl, ht, ?_⟩
    simp only [Rows.uptoBulk, Rows.uptoBulkAll]
    have h1 := size_list s1
    have h2 := size_list s2
    omega

theorem addr_addR (g o k : Nat) : Addr.add ⟨g, o, none⟩ k = ⟨g, o + k, none⟩ := by unfold Addr.add; split <;> simp_all

theorem bulk_sum {H : Type} {α : Type} (f : Nat → α) (sz : α → Nat) : ∀ (es : List (DataW H × List MemPlace)) (k : Nat), (∀ i y, es[i]? = some y → sz (f (k + i)) ≤ Rows.uptoBulk y.1) → (((List.range es.length).map fun i => f (k + i)).map sz).sum ≤ Rows.uptoBulkAll (es.map (·.1))
  | [], _, _ => by simp [Rows.uptoBulkAll]
  | y :: es, k, h => by
    have ih := bulk_sum f sz es (k + 1) (fun i z hz => by
      have := h (i + 1) z (by simpa using hz)
      rwa [show k + (i + 1) = k + 1 + i by omega] at this)
    have h0 := h 0 y rfl
    rw [List.length_cons, List.range_succ_eq_map]
    simp only [List.map_cons, List.map_map, List.sum_cons, Rows.uptoBulkAll] at ih ⊢
    have e : (List.map (sz ∘ (fun i => f (k + i)) ∘ Nat.succ) (List.range es.length)) = List.map (sz ∘ fun i => f (k + 1 + i)) (List.range es.length) := by
      apply List.map_congr_left
      intro i _
      simp only [Function.comp]
      rw [show k + Nat.succ i = k + 1 + i by omega]
    rw [e]
    omega

set_option maxRecDepth 100000 in
theorem open_ranges {H : Type} {enc : TypeId × Value → H} {W : World} {base : Nat} {v : Value} {d : DataW H} {ps : List MemPlace} (hval : Value.okWide Tryd.prog W .any base 22 v)
    (h : DataW.Trod enc Tryd.prog W 0 (fun _ => true) true 22 v d ps) : ∃ t : List Rng, RdRg v t W ∧ (t.map fun r => szM r.md + 1).sum ≤ Rows.uptoBulk d := by
  obtain ⟨a0, len, cap, rfl⟩ := okWide_slice Tryd.underlying22 hval
  obtain ⟨fuel, hf⟩ := h
  rcases DataW.trod_slice Tryd.underlying22 hf with ⟨hcs, hx⟩ | ⟨a, len', cap', elems, rest, n, _, hcs, hx, hb, hl, hm, hlen, hel, _, _⟩
  · simp [Value.cells] at hcs
    obtain ⟨rfl, rfl, rfl⟩ := hcs
    exact ⟨[], ⟨none, 0, rfl, .inl rfl⟩, by simp⟩
  · simp [Value.cells] at hcs
    obtain ⟨rfl, rfl, rfl⟩ := hcs
    simp only [Prod.mk.injEq] at hx
    obtain ⟨rfl, rfl⟩ := hx
    by_cases c : len = 0
    · exact ⟨[], ⟨some a, cap, by rw [c]; rfl, .inl rfl⟩, by simp⟩
    obtain ⟨b, off, spot⟩ := a
    have hspot : spot = none := by
      have h1 := hel 0 (by omega)
      have hy : elems[0]? = some elems[0] := List.getElem?_eq_getElem (by omega)
      rw [hy, cellsRg, Option.bind_eq_some_iff] at h1
      obtain ⟨cs, hcs, ht⟩ := h1
      obtain ⟨_, hl4, hcell⟩ := World.cells?_some hcs
      have k0 := hcell 0 (by omega)
      rw [List.getElem?_eq_getElem (by omega)] at k0
      simpa [Addr.add] using World.cell?_spot k0
    subst hspot
    have each : ∀ i, ∃ x : Rng, ∀ hi : i < len, ((RdMd W b (off + i * 4) x.md ∧ W.cell? ⟨b, off + i * 4 + 3, none⟩ = some (.int .i64 x.q)) ∧ inZ x.q) ∧ ∀ y, elems[i]? = some y → szM x.md + 1 ≤ Rows.uptoBulk y.1 := by
      intro i
      by_cases hi : i < len
      · have h1 := hel i hi
        have hy : elems[i]? = some elems[i] := List.getElem?_eq_getElem (by omega)
        rw [hy, cellsRg, Option.bind_eq_some_iff] at h1
        obtain ⟨cs, hcs, ht⟩ := h1
        obtain ⟨ys, m, _, hx, hl4, hy4, hfs⟩ := DataW.trod_struct Tryd.underlying44 ht
        rw [cellsRg] at hl4
        have hcell := (World.cells?_some hcs).2.2
        have t0 := hfs 0 _ rfl
        have t1 := hfs 1 _ rfl
        match cs, hl4 with
        | [x0, x1, x2, x3], _ =>
          match ys, hy4 with
          | [y0, y1], _ =>
            simp [cellsM, cellsI3r] at t0 t1
            obtain ⟨A, B, u, t, e0, hR, hbk⟩ := md_of t0
            obtain ⟨m1, e1, q1, w1⟩ := DataW.trod_int Tryd.underlying3 t1
            simp at e0 e1
            obtain ⟨rfl, rfl, rfl⟩ := e0
            subst e1
            have k0 := hcell 0 (by omega)
            have k1 := hcell 1 (by omega)
            have k2 := hcell 2 (by omega)
            have k3 := hcell 3 (by omega)
            rw [addr_addR, addr_addR] at k0 k1 k2 k3
            refine ⟨⟨⟨A, B, t⟩, m1⟩, fun _ => ⟨⟨⟨⟨k0, k1, _, k2, hR⟩, k3⟩, inZ_of_wf w1⟩, fun y hy' => ?_⟩⟩
            rw [hy] at hy'
            injection hy' with hy'
            rw [← hy', hx]
            simp only [List.map_cons, List.map_nil, Rows.uptoBulk, Rows.uptoBulkAll]
            simp only [szM]
            omega
      · exact ⟨rg0, fun h => absurd h hi⟩
    obtain ⟨f, hf⟩ := Classical.axiomOfChoice each
    have hl2 : ((List.range len).map f).length = len := by simp
    refine ⟨(List.range len).map f, ⟨some ⟨b, off, none⟩, cap, by rw [hl2], .inr ⟨b, off, rfl, by omega, fun j hj => ?_⟩⟩, ?_⟩
    · have hjl : j < len := by omega
      have e : nthR ((List.range len).map f) j = f j := by
        unfold nthR
        rw [List.getD_eq_getElem?_getD, List.getElem?_map, List.getElem?_range hjl]
        rfl
      rw [e]
      exact (hf j hjl).1
    · have := bulk_sum f (fun r => szM r.md + 1) elems 0 (fun i y hy => by
        have hi : i < len := by rw [← hlen]; exact (List.getElem?_eq_some_iff.1 hy).1
        rw [Nat.zero_add]
        exact (hf i hi).2 y hy)
      simp only [Nat.zero_add] at this
      rw [hlen] at this
      change (List.map (fun r => szM r.md + 1) (List.map f (List.range len))).sum ≤ _ at this
      simp only [Rows.uptoBulk]
      omega

set_option maxRecDepth 100000 in
theorem open_medias {H : Type} {enc : TypeId × Value → H} {W : World} {base : Nat} {v : Value} {d : DataW H} {ps : List MemPlace} (hval : Value.okWide Tryd.prog W .any base 37 v)
    (h : DataW.Trod enc Tryd.prog W 0 (fun _ => true) true 37 v d ps) : ∃ t : List Md, RdMs v t W ∧ (t.map fun r => szM r + 1).sum ≤ Rows.uptoBulk d := by
  obtain ⟨a0, len, cap, rfl⟩ := okWide_slice Tryd.underlying37 hval
  obtain ⟨fuel, hf⟩ := h
  rcases DataW.trod_slice Tryd.underlying37 hf with ⟨hcs, hx⟩ | ⟨a, len', cap', elems, rest, n, _, hcs, hx, hb, hl, hm, hlen, hel, _, _⟩
  · simp [Value.cells] at hcs
    obtain ⟨rfl, rfl, rfl⟩ := hcs
    exact ⟨[], ⟨none, 0, rfl, .inl rfl⟩, by simp⟩
  · simp [Value.cells] at hcs
    obtain ⟨rfl, rfl, rfl⟩ := hcs
    simp only [Prod.mk.injEq] at hx
    obtain ⟨rfl, rfl⟩ := hx
    by_cases c : len = 0
    · exact ⟨[], ⟨some a, cap, by rw [c]; rfl, .inl rfl⟩, by simp⟩
    obtain ⟨b, off, spot⟩ := a
    have hspot : spot = none := by
      have h1 := hel 0 (by omega)
      have hy : elems[0]? = some elems[0] := List.getElem?_eq_getElem (by omega)
      rw [hy, cellsM, Option.bind_eq_some_iff] at h1
      obtain ⟨cs, hcs, ht⟩ := h1
      obtain ⟨_, hl4, hcell⟩ := World.cells?_some hcs
      have k0 := hcell 0 (by omega)
      rw [List.getElem?_eq_getElem (by omega)] at k0
      simpa [Addr.add] using World.cell?_spot k0
    subst hspot
    have each : ∀ i, ∃ x : Md, ∀ hi : i < len, RdMd W b (off + i * 3) x ∧ ∀ y, elems[i]? = some y → szM x + 1 ≤ Rows.uptoBulk y.1 := by
      intro i
      by_cases hi : i < len
      · have h1 := hel i hi
        have hy : elems[i]? = some elems[i] := List.getElem?_eq_getElem (by omega)
        rw [hy, cellsM, Option.bind_eq_some_iff] at h1
        obtain ⟨cs, hcs, ht⟩ := h1
        have hcell := (World.cells?_some hcs).2.2
        obtain ⟨A, B, u, t, e0, hR, hbk⟩ := md_of ht
        subst e0
        have k0 := hcell 0 (by omega)
        have k1 := hcell 1 (by omega)
        have k2 := hcell 2 (by omega)
        rw [addr_addR, addr_addR] at k0 k1 k2
        refine ⟨⟨A, B, t⟩, fun _ => ⟨⟨k0, k1, _, k2, hR⟩, fun y hy' => ?_⟩⟩
        rw [hy] at hy'
        injection hy' with hy'
        rw [← hy']
        simp only [szM]
        omega
      · exact ⟨md0, fun h => absurd h hi⟩
    obtain ⟨f, hf⟩ := Classical.axiomOfChoice each
    have hl2 : ((List.range len).map f).length = len := by simp
    refine ⟨(List.range len).map f, ⟨some ⟨b, off, none⟩, cap, by rw [hl2], .inr ⟨b, off, rfl, by omega, fun j hj => ?_⟩⟩, ?_⟩
    · have hjl : j < len := by omega
      have e : nthM ((List.range len).map f) j = f j := by
        unfold nthM
        rw [List.getD_eq_getElem?_getD, List.getElem?_map, List.getElem?_range hjl]
        rfl
      rw [e]
      exact (hf j hjl).1
    · have := bulk_sum f (fun r => szM r + 1) elems 0 (fun i y hy => by
        have hi : i < len := by rw [← hlen]; exact (List.getElem?_eq_some_iff.1 hy).1
        rw [Nat.zero_add]
        exact (hf i hi).2 y hy)
      simp only [Nat.zero_add] at this
      rw [hlen] at this
      change (List.map (fun r => szM r + 1) (List.map f (List.range len))).sum ≤ _ at this
      simp only [Rows.uptoBulk]
      omega

end Ac
end Go.Proofs.YtejagkpjdfambaaDoor
