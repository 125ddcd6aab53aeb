/-
  What was asked, and a state, that came in by value (written by mkopa.py).
-/
import Derived.Test.YtjngpafokkjkdaaGreatDoorRows
import Derived.Test.YtjngpafokkjkdaaGreatDoorFOp
import Derived.Test.YtjngpafokkjkdaaGreatDoorTDe
import Derived.OpenShut
import Derived.SliceStrings
import Derived.Carry
import Derived.Deep.Strs
set_option linter.unusedVariables false
set_option linter.unusedSimpArgs false
namespace Go.Proofs.YtjngpafokkjkdaaGreatDoor
open Go.ChangeShapes Go.WideShapes Go.RowKit
namespace Fd
open Oc

set_option maxRecDepth 100000 in
theorem open_fieldsT {H : Type} {enc : TypeId × Value → H} {W : World} {v : Value} {d : DataW H} {ps : List MemPlace} (hval : ∃ a len cap, v = .slice a len cap)
    (h : DataW.Trod enc Tryz.prog W 0 (fun _ => true) true 22 v d ps) : ∃ t : List Fl, InF v t W ∧ bulkfields t ≤ Rows.uptoBulk d := by
  obtain ⟨a0, len, cap, rfl⟩ := hval
  obtain ⟨fuel, hf⟩ := h
  rcases DataW.trod_slice Tryz.underlying22 hf with ⟨hcs, hx⟩ | ⟨a, len', cap', elems, rest, n, _, hcs, hx, hb, hl, hm, hlen, hel, _, _⟩
  · simp [Value.cells] at hcs
    obtain ⟨rfl, rfl, rfl⟩ := hcs
    exact ⟨[], ⟨⟨none, 0, rfl, .inl rfl⟩, fun _ => .inl rfl⟩, by simp [bulkfields, sumF]⟩
  · simp [Value.cells] at hcs
    obtain ⟨rfl, rfl, rfl⟩ := hcs
    simp only [Prod.mk.injEq] at hx
    obtain ⟨rfl, rfl⟩ := hx
    have each : ∀ i y, elems[i]? = some y → ∃ (s1 s2 : ByteArray), y.1 = .agg [.lit (.string s1.data.toList), .lit (.string s2.data.toList)] ∧ W.cell? ((a.add (i * 2)).add 0) = some (.string s1) ∧ W.cell? ((a.add (i * 2)).add 1) = some (.string s2) := by
      intro i y hy
      have hi : i < len := by rw [← hlen]; exact (List.getElem?_eq_some_iff.1 hy).1
      have h1 := hel i hi
      rw [hy, cellsF, Option.bind_eq_some_iff] at h1
      obtain ⟨cs, hcs, ht⟩ := h1
      obtain ⟨ys, m, _, hx, hl4, hy4, hfs⟩ := DataW.trod_struct Tryz.underlying31 ht
      rw [cellsF] at hl4
      have hcc := (World.cells?_some hcs).2.2
      have t0 := hfs 0 _ rfl
      have t1 := hfs 1 _ rfl
      match cs, hl4 with
      | [x0, x1], _ =>
        match ys, hy4 with
        | [y0, y1], _ =>
          simp [cells9] at t0 t1
          obtain ⟨m0, e0, q0, w0⟩ := DataW.trod_string Tryz.underlying9 t0
          obtain ⟨m1, e1, q1, w1⟩ := DataW.trod_string Tryz.underlying9 t1
          simp at e0 e1
          subst e0 e1
          subst q0 q1
          refine ⟨m0, m1, ?_, hcc 0 (by omega), hcc 1 (by omega)⟩
          rw [hx]
          rfl
    refine ⟨elems.map flOf, ⟨⟨some a, cap, by rw [List.length_map, hlen], ?_⟩, fun e => .inr ⟨a, cap, by have := congrArg List.length e; rw [List.length_map, hlen] at this; rw [this]; rfl⟩⟩, ?_⟩
    · by_cases hl0 : len = 0
      · left
        have : elems = [] := List.length_eq_zero_iff.1 (by omega)
        rw [this]; rfl
      · right
        obtain ⟨g, o, spot⟩ := a
        have hspot : spot = none := by
          obtain ⟨y, hy⟩ : ∃ y, elems[0]? = some y := ⟨elems[0]'(by omega), List.getElem?_eq_getElem (by omega)⟩
          obtain ⟨s1, s2, _, c0, _⟩ := each 0 y hy
          simpa [Addr.add] using World.cell?_spot c0
        subst hspot
        refine ⟨g, o, rfl, by rw [List.length_map, hlen]; exact hl, fun j hj => ?_⟩
        rw [List.length_map] at hj
        obtain ⟨s1, s2, ey, c0, c1⟩ := each j _ (List.getElem?_eq_getElem hj)
        have en : nth (elems.map flOf) j = (s1.data.toList, s2.data.toList) := by
          unfold nth
          rw [List.getD_eq_getElem?_getD, List.getElem?_map, List.getElem?_eq_getElem hj]
          show flOf elems[j] = _
          unfold flOf
          rw [ey]
        rw [addr_add, addr_add] at c0 c1
        rw [en]
        dsimp only
        rw [str_self, str_self]
        exact ⟨c0, c1⟩
    · have hb := bulk_fls elems (fun y hy => by
        obtain ⟨i, hi⟩ := List.getElem?_of_mem hy
        obtain ⟨s1, s2, ey, _⟩ := each i y hi
        exact ⟨_, _, ey⟩)
      simp only [Rows.uptoBulk, hb, bulkfields]
      omega


theorem cells3a : Tryz.prog.cellsOf 3 = 1 := by kernel_rfl
theorem cells4a : Tryz.prog.cellsOf 4 = 1 := by kernel_rfl
theorem cellsA : Tryz.prog.cellsOf 24 = 3 := by kernel_rfl
theorem cellsLF : Tryz.prog.cellsOf 22 = 1 := by kernel_rfl
theorem cellsTa : Tryz.prog.cellsOf 26 = 2 := by kernel_rfl
theorem cellsSt : Tryz.prog.cellsOf 28 = 6 := by kernel_rfl
theorem array3 {α : Type} {cs : Array α} (h : cs.size = 3) : ∃ c0 c1 c2, cs = #[c0, c1, c2] := by
  obtain ⟨l⟩ := cs
  match l, h with
  | [c0, c1, c2], _ => exact ⟨c0, c1, c2, rfl⟩
theorem array6 {α : Type} {cs : Array α} (h : cs.size = 6) : ∃ c0 c1 c2 c3 c4 c5, cs = #[c0, c1, c2, c3, c4, c5] := by
  obtain ⟨l⟩ := cs
  match l, h with
  | [c0, c1, c2, c3, c4, c5], _ => exact ⟨c0, c1, c2, c3, c4, c5, rfl⟩
theorem list5 {α : Type} {cs : List α} (h : cs.length = 5) : ∃ c0 c1 c2 c3 c4, cs = [c0, c1, c2, c3, c4] := by
  match cs, h with
  | [c0, c1, c2, c3, c4], _ => exact ⟨c0, c1, c2, c3, c4, rfl⟩
theorem list2 {α : Type} {cs : List α} (h : cs.length = 2) : ∃ c0 c1, cs = [c0, c1] := by
  match cs, h with
  | [c0, c1], _ => exact ⟨c0, c1, rfl⟩
theorem i64_of {n : Int} (h : (Lit.int .i64 n).wf = true) : -9223372036854775808 ≤ n ∧ n ≤ 9223372036854775807 := by
  simpa [Lit.wf, IntKind.min, IntKind.max, IntKind.signed, IntKind.bits] using h

set_option maxRecDepth 100000 in
theorem open_asked {H : Type} {enc : TypeId × Value → H} {W : World} {base : Nat} {v : Value} {d : DataW H} {ps : List MemPlace} (hval : Value.okWide Tryz.prog W .any base 24 v)
    (h : DataW.Trod enc Tryz.prog W 0 (fun _ => true) true 24 v d ps) :
    ∃ (A : ByteArray) (u : Value) (t : List Fl) (n : Int), v = .agg #[.string A, u, .int .i64 n] ∧ InF u t W ∧ (-9223372036854775808 ≤ n ∧ n ≤ 9223372036854775807) ∧ A.size + bulkfields t ≤ Rows.uptoBulk d := by
  obtain ⟨cs, rfl, hsz⟩ := okWide_struct Tryz.underlying24 hval
  obtain ⟨c0, c1, c2, rfl⟩ := array3 (hsz.trans cellsA)
  obtain ⟨fuel, hf⟩ := h
  obtain ⟨y0, y1, y2, m, hx, _, t0, t1, t2⟩ := Deep.trod_struct3 Tryz.underlying24 hf
  simp only [cells9, cellsLF, cells3a, Value.cells, List.drop_zero] at t0 t1 t2
  obtain ⟨s1, e1, r1, _⟩ := DataW.trod_string Tryz.underlying9 t0
  obtain ⟨n, e3, r3, w3⟩ := DataW.trod_int Tryz.underlying3 t2
  have hs2 : ∃ a len cap, c1 = .slice a len cap := by
    rcases DataW.trod_slice Tryz.underlying22 t1 with ⟨hcs, _⟩ | ⟨a, len', cap', elems, rest, n, _, hcs, _⟩
    · simp at hcs; exact ⟨_, _, _, hcs⟩
    · simp at hcs; exact ⟨_, _, _, hcs⟩
  obtain ⟨a2, l2, cap2, rfl⟩ := hs2
  obtain ⟨t, ht, hb⟩ := open_fieldsT (enc := enc) (W := W) (v := .slice a2 l2 cap2) (d := y1.1) (ps := y1.2) ⟨_, _, _, rfl⟩ ⟨m, by simpa [Value.cells] using t1⟩
  simp at e1 e3
  subst e1 e3 r1 r3
  refine ⟨s1, _, t, n, rfl, ht, i64_of w3, ?_⟩
  have hd : d = .agg [.lit (.string s1.data.toList), y1.1, .lit (.int .i64 n)] := by
    injection hx
  rw [hd]
  simp only [Rows.uptoBulk, Rows.uptoBulkAll]
  have h1 := size_list s1
  omega

set_option maxRecDepth 100000 in
theorem open_state {H : Type} {enc : TypeId × Value → H} {W : World} {base : Nat} {v : Value} {d : DataW H} {ps : List MemPlace} (hval : Value.okWide Tryz.prog W .any base 28 v)
    (h : DataW.Trod enc Tryz.prog W 0 (fun _ => true) true 28 v d ps) :
    ∃ s : Tt.St, v = .agg #[.bool s.th, .bool s.own.1, .string (str s.own.2), .bool s.tg, .int .i64 s.tm, .bool s.td] ∧ (-9223372036854775808 ≤ s.tm ∧ s.tm ≤ 9223372036854775807) ∧ s.own.2.length ≤ Rows.uptoBulk d := by
  obtain ⟨cs, rfl, hsz⟩ := okWide_struct Tryz.underlying28 hval
  obtain ⟨x0, x1, x2, x3, x4, x5, rfl⟩ := array6 (hsz.trans cellsSt)
  obtain ⟨fuel, hf⟩ := h
  obtain ⟨xs, n, _, hx, hl, hlen, hff⟩ := DataW.trod_struct Tryz.underlying28 hf
  obtain ⟨z0, z1, z2, z3, z4, rfl⟩ := list5 (hlen.trans rfl)
  have f0 := hff 0 _ rfl
  have f1 := hff 1 _ rfl
  have f2 := hff 2 _ rfl
  have f3 := hff 3 _ rfl
  have f4 := hff 4 _ rfl
  simp [Value.cells, cells9, cells4a, cells3a, cellsTa] at f0 f1 f2 f3 f4
  obtain ⟨b0, e0, r0⟩ := DataW.trod_bool Tryz.underlying4 f0
  obtain ⟨ys, n1, _, hx1, hl1, hlen1, hff1⟩ := DataW.trod_struct Tryz.underlying26 f1
  obtain ⟨q0, q1, rfl⟩ := list2 (hlen1.trans rfl)
  have g0 := hff1 0 _ rfl
  have g1 := hff1 1 _ rfl
  simp [cells9, cells4a] at g0 g1
  obtain ⟨b1, e1, r1⟩ := DataW.trod_bool Tryz.underlying4 g0
  obtain ⟨t2, e2, r2, _⟩ := DataW.trod_string Tryz.underlying9 g1
  obtain ⟨b3, e3, r3⟩ := DataW.trod_bool Tryz.underlying4 f2
  obtain ⟨m4, e4, r4, w4⟩ := DataW.trod_int Tryz.underlying3 f3
  obtain ⟨b5, e5, r5⟩ := DataW.trod_bool Tryz.underlying4 f4
  subst r0 r1 r2 r3 r4 r5
  simp at e0 e1 e2 e3 e4 e5 hx hx1
  subst e0 e1 e2 e3 e4 e5
  refine ⟨⟨b0, (b1, t2.data.toList), b3, m4, b5⟩, by simp [str_self], i64_of w4, ?_⟩
  rw [hx.1, hx1]
  simp only [Rows.uptoBulk, Rows.uptoBulkAll]
  omega

end Fd
end Go.Proofs.YtjngpafokkjkdaaGreatDoor
