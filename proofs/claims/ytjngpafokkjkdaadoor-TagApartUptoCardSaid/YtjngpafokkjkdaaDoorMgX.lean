/- Several texts as one. -/
import Derived.Test.YtjngpafokkjkdaaDoorRows
import Derived.Test.YtjngpafokkjkdaaDoorMgJ
import Derived.Test.YtjngpafokkjkdaaDoorMgO
import Derived.OpenShut
import Derived.SliceStrings
import Derived.Carry
import Derived.Deep.Strs
import Derived.Test.YtjngpafokkjkdaaDoorMgP
import Derived.LaidMore
import Derived.Deep.DeepHandedRow
import Derived.Lib.LaidTab
import Derived.Stop.LaidErr
import Derived.Test.YtjngpafokkjkdaaDoorMgW
/-
  What was asked, and a state, that came in by value (written by mkopa.py).
-/
set_option linter.unusedVariables false
set_option linter.unusedSimpArgs false
namespace Go.Proofs.YtjngpafokkjkdaaDoor
open Go.ChangeShapes Go.WideShapes Go.RowKit
namespace Fd
open Oc

set_option maxRecDepth 100000 in
theorem open_fieldsT {H : Type} {enc : TypeId × Value → H} {W : World} {v : Value} {d : DataW H} {ps : List MemPlace} (hval : ∃ a len cap, v = .slice a len cap)
    (h : DataW.Trod enc Tryd.prog W 0 (fun _ => true) true 22 v d ps) : ∃ t : List Fl, InF v t W ∧ bulkfields t ≤ Rows.uptoBulk d := by
  obtain ⟨a0, len, cap, rfl⟩ := hval
  obtain ⟨fuel, hf⟩ := h
  rcases DataW.trod_slice Tryd.underlying22 hf with ⟨hcs, hx⟩ | ⟨a, len', cap', elems, rest, n, _, hcs, hx, hb, hl, hm, hlen, hel, _, _⟩
  · simp [Value.cells] at hcs
    obtain ⟨rfl, rfl, rfl⟩ := hcs
    exact ⟨[], ⟨⟨none, 0, rfl, .inl rfl⟩, fun _ => .inl rfl⟩, by simp [bulkfields, sumF]⟩
  · simp [Value.cells] at hcs
    obtain ⟨rfl, rfl, rfl⟩ := hcs
    simp only [Prod.mk.injEq] at hx
    obtain ⟨rfl, rfl⟩ := hx
    have each : ∀ i y, elems[i]? = some y → ∃ (s1 s2 : ByteArray), y.1 = .agg [.lit (.string s1.data.toList), .lit (.string s2.data.toList)] ∧ W.cell? ((a.add (i * 2)).add 0) = some (.string s1) ∧ W.cell? ((a.add (i * 2)).add 1) = some (.string s2) := by
      intro i y hy
      have hi : i < len := by rw [← hlen]; exact (List.getElem?_eq_some_iff.1 hy).1
      have h1 := hel i hi
      rw [hy, cellsF, Option.bind_eq_some_iff] at h1
      obtain ⟨cs, hcs, ht⟩ := h1
      obtain ⟨ys, m, _, hx, hl4, hy4, hfs⟩ := DataW.trod_struct Tryd.underlying32 ht
      rw [cellsF] at hl4
      have hcc := (World.cells?_some hcs).2.2
      have t0 := hfs 0 _ rfl
      have t1 := hfs 1 _ rfl
      match cs, hl4 with
      | [x0, x1], _ =>
        match ys, hy4 with
        | [y0, y1], _ =>
          simp [cells9] at t0 t1
          obtain ⟨m0, e0, q0, w0⟩ := DataW.trod_string Tryd.underlying9 t0
          obtain ⟨m1, e1, q1, w1⟩ := DataW.trod_string Tryd.underlying9 t1
          simp at e0 e1
          subst e0 e1
          subst q0 q1
          refine ⟨m0, m1, ?_, hcc 0 (by omega), hcc 1 (by omega)⟩
          rw [hx]
          rfl
    refine ⟨elems.map flOf, ⟨⟨some a, cap, by rw [List.length_map, hlen], ?_⟩, fun e => .inr ⟨a, cap, by have := congrArg List.length e; rw [List.length_map, hlen] at this; rw [this]; rfl⟩⟩, ?_⟩
    · by_cases hl0 : len = 0
      · left
        have : elems = [] := List.length_eq_zero_iff.1 (by omega)
        rw [this]; rfl
      · right
        obtain ⟨g, o, spot⟩ := a
        have hspot : spot = none := by
          obtain ⟨y, hy⟩ : ∃ y, elems[0]? = some y := ⟨elems[0]'(by omega), List.getElem?_eq_getElem (by omega)⟩
          obtain ⟨s1, s2, _, c0, _⟩ := each 0 y hy
          simpa [Addr.add] using World.cell?_spot c0
        subst hspot
        refine ⟨g, o, rfl, by rw [List.length_map, hlen]; exact hl, fun j hj => ?_⟩
        rw [List.length_map] at hj
        obtain ⟨s1, s2, ey, c0, c1⟩ := each j _ (List.getElem?_eq_getElem hj)
        have en : nth (elems.map flOf) j = (s1.data.toList, s2.data.toList) := by
          unfold nth
          rw [List.getD_eq_getElem?_getD, List.getElem?_map, List.getElem?_eq_getElem hj]
          show flOf elems[j] = _
          unfold flOf
          rw [ey]
        rw [addr_add, addr_add] at c0 c1
        rw [en]
        dsimp only
        rw [str_self, str_self]
        exact ⟨c0, c1⟩
    · have hb := bulk_fls elems (fun y hy => by
        obtain ⟨i, hi⟩ := List.getElem?_of_mem hy
        obtain ⟨s1, s2, ey, _⟩ := each i y hi
        exact ⟨_, _, ey⟩)
      simp only [Rows.uptoBulk, hb, bulkfields]
      omega


theorem cells3a : Tryd.prog.cellsOf 3 = 1 := by kernel_rfl
theorem cells4a : Tryd.prog.cellsOf 4 = 1 := by kernel_rfl
theorem cellsA : Tryd.prog.cellsOf 24 = 3 := by kernel_rfl
theorem cellsLF : Tryd.prog.cellsOf 22 = 1 := by kernel_rfl
theorem cellsTa : Tryd.prog.cellsOf 26 = 2 := by kernel_rfl
theorem cellsSt : Tryd.prog.cellsOf 28 = 6 := by kernel_rfl
theorem array3 {α : Type} {cs : Array α} (h : cs.size = 3) : ∃ c0 c1 c2, cs = #[c0, c1, c2] := by
  obtain ⟨l⟩ := cs
  match l, h with
  | [c0, c1, c2], _ => exact ⟨c0, c1, c2, rfl⟩
theorem array6 {α : Type} {cs : Array α} (h : cs.size = 6) : ∃ c0 c1 c2 c3 c4 c5, cs = #[c0, c1, c2, c3, c4, c5] := by
  obtain ⟨l⟩ := cs
  match l, h with
  | [c0, c1, c2, c3, c4, c5], _ => exact ⟨c0, c1, c2, c3, c4, c5, rfl⟩
theorem list5 {α : Type} {cs : List α} (h : cs.length = 5) : ∃ c0 c1 c2 c3 c4, cs = [c0, c1, c2, c3, c4] := by
  match cs, h with
  | [c0, c1, c2, c3, c4], _ => exact ⟨c0, c1, c2, c3, c4, rfl⟩
theorem list2 {α : Type} {cs : List α} (h : cs.length = 2) : ∃ c0 c1, cs = [c0, c1] := by
  match cs, h with
  | [c0, c1], _ => exact ⟨c0, c1, rfl⟩
theorem i64_of {n : Int} (h : (Lit.int .i64 n).wf = true) : -9223372036854775808 ≤ n ∧ n ≤ 9223372036854775807 := by
  simpa [Lit.wf, IntKind.min, IntKind.max, IntKind.signed, IntKind.bits] using h

set_option maxRecDepth 100000 in
theorem open_asked {H : Type} {enc : TypeId × Value → H} {W : World} {base : Nat} {v : Value} {d : DataW H} {ps : List MemPlace} (hval : Value.okWide Tryd.prog W .any base 24 v)
    (h : DataW.Trod enc Tryd.prog W 0 (fun _ => true) true 24 v d ps) :
    ∃ (A : ByteArray) (u : Value) (t : List Fl) (n : Int), v = .agg #[.string A, u, .int .i64 n] ∧ InF u t W ∧ (-9223372036854775808 ≤ n ∧ n ≤ 9223372036854775807) ∧ A.size + bulkfields t ≤ Rows.uptoBulk d := by
  obtain ⟨cs, rfl, hsz⟩ := okWide_struct Tryd.underlying24 hval
  obtain ⟨c0, c1, c2, rfl⟩ := array3 (hsz.trans cellsA)
  obtain ⟨fuel, hf⟩ := h
  obtain ⟨y0, y1, y2, m, hx, _, t0, t1, t2⟩ := Deep.trod_struct3 Tryd.underlying24 hf
  simp only [cells9, cellsLF, cells3a, Value.cells, List.drop_zero] at t0 t1 t2
  obtain ⟨s1, e1, r1, _⟩ := DataW.trod_string Tryd.underlying9 t0
  obtain ⟨n, e3, r3, w3⟩ := DataW.trod_int Tryd.underlying3 t2
  have hs2 : ∃ a len cap, c1 = .slice a len cap := by
    rcases DataW.trod_slice Tryd.underlying22 t1 with ⟨hcs, _⟩ | ⟨a, len', cap', elems, rest, n, _, hcs, _⟩
    · simp at hcs; exact ⟨_, _, _, hcs⟩
    · simp at hcs; exact ⟨_, _, _, hcs⟩
  obtain ⟨a2, l2, cap2, rfl⟩ := hs2
  obtain ⟨t, ht, hb⟩ := open_fieldsT (enc := enc) (W := W) (v := .slice a2 l2 cap2) (d := y1.1) (ps := y1.2) ⟨_, _, _, rfl⟩ ⟨m, by simpa [Value.cells] using t1⟩
  simp at e1 e3
  subst e1 e3 r1 r3
  refine ⟨s1, _, t, n, rfl, ht, i64_of w3, ?_⟩
  have hd : d = .agg [.lit (.string s1.data.toList), y1.1, .lit (.int .i64 n)] := by
    injection hx
  rw [hd]
  simp only [Rows.uptoBulk, Rows.uptoBulkAll]
  have h1 := size_list s1
  omega

set_option maxRecDepth 100000 in
theorem open_state {H : Type} {enc : TypeId × Value → H} {W : World} {base : Nat} {v : Value} {d : DataW H} {ps : List MemPlace} (hval : Value.okWide Tryd.prog W .any base 28 v)
    (h : DataW.Trod enc Tryd.prog W 0 (fun _ => true) true 28 v d ps) :
    ∃ s : Tt.St, v = .agg #[.bool s.th, .bool s.own.1, .string (str s.own.2), .bool s.tg, .int .i64 s.tm, .bool s.td] ∧ (-9223372036854775808 ≤ s.tm ∧ s.tm ≤ 9223372036854775807) ∧ s.own.2.length ≤ Rows.uptoBulk d := by
  obtain ⟨cs, rfl, hsz⟩ := okWide_struct Tryd.underlying28 hval
  obtain ⟨x0, x1, x2, x3, x4, x5, rfl⟩ := array6 (hsz.trans cellsSt)
  obtain ⟨fuel, hf⟩ := h
  obtain ⟨xs, n, _, hx, hl, hlen, hff⟩ := DataW.trod_struct Tryd.underlying28 hf
  obtain ⟨z0, z1, z2, z3, z4, rfl⟩ := list5 (hlen.trans rfl)
  have f0 := hff 0 _ rfl
  have f1 := hff 1 _ rfl
  have f2 := hff 2 _ rfl
  have f3 := hff 3 _ rfl
  have f4 := hff 4 _ rfl
  simp [Value.cells, cells9, cells4a, cells3a, cellsTa] at f0 f1 f2 f3 f4
  obtain ⟨b0, e0, r0⟩ := DataW.trod_bool Tryd.underlying4 f0
  obtain ⟨ys, n1, _, hx1, hl1, hlen1, hff1⟩ := DataW.trod_struct Tryd.underlying26 f1
  obtain ⟨q0, q1, rfl⟩ := list2 (hlen1.trans rfl)
  have g0 := hff1 0 _ rfl
  have g1 := hff1 1 _ rfl
  simp [cells9, cells4a] at g0 g1
  obtain ⟨b1, e1, r1⟩ := DataW.trod_bool Tryd.underlying4 g0
  obtain ⟨t2, e2, r2, _⟩ := DataW.trod_string Tryd.underlying9 g1
  obtain ⟨b3, e3, r3⟩ := DataW.trod_bool Tryd.underlying4 f2
  obtain ⟨m4, e4, r4, w4⟩ := DataW.trod_int Tryd.underlying3 f3
  obtain ⟨b5, e5, r5⟩ := DataW.trod_bool Tryd.underlying4 f4
  subst r0 r1 r2 r3 r4 r5
  simp at e0 e1 e2 e3 e4 e5 hx hx1
  subst e0 e1 e2 e3 e4 e5
  refine ⟨⟨b0, (b1, t2.data.toList), b3, m4, b5⟩, by simp [str_self], i64_of w4, ?_⟩
  rw [hx.1, hx1]
  simp only [Rows.uptoBulk, Rows.uptoBulkAll]
  omega

end Fd
end Go.Proofs.YtjngpafokkjkdaaDoor

/-
  The tables of dates lie where the program's text lays them (for the rows of tag).
-/
set_option linter.unusedVariables false
set_option linter.unusedSimpArgs false
namespace Go.Proofs.YtjngpafokkjkdaaDoor
open Go.ChangeShapes Go.WideShapes Go.ChangeAt Go.RowKit
namespace Bs

def stabData {H : Type} (zs : List (List UInt8)) : DataW H := .agg (zs.map fun z => .lit (.string z))
theorem cells_of_stab {H : Type} {enc : TypeId × Value → H} {P : Program} {w : World} {base : Nat} {sp : Nat → Bool} {held : Bool} {fuel : Nat} {t e : TypeId} {n : Nat} {cs : List Value} {zs : List (List UInt8)} {p : List MemPlace}
    (ht : P.underlying t = some (.array n e)) (he : P.underlying e = some .string) (hce : P.cellsOf e = 1) (hct : P.cellsOf t = n)
    (h : DataW.trod enc P w base sp held fuel t cs = some (stabData zs, p)) : cs = zs.map fun z => Value.string (str z) := by
  cases fuel with
  | zero => simp [DataW.trod] at h
  | succ fuel =>
    simp only [DataW.trod, ht, hce, hct, Nat.mul_one] at h
    split at h
    · rename_i hl
      obtain ⟨xs, hm, hx⟩ := Option.map_eq_some_iff.1 h
      have hxs : xs.map (·.1) = zs.map fun z => (DataW.lit (.string z) : DataW H) := by
        have := congrArg Prod.fst hx
        simpa [stabData] using this
      have hxl : xs.length = n := by simpa using Lib.mapM_length hm
      have hzl : zs.length = n := by
        have := congrArg List.length hxs
        simp at this
        omega
      apply List.ext_getElem?
      intro i
      by_cases hi : i < n
      · obtain ⟨b, hb, hf⟩ := Lib.mapM_at hm i i (by simp [hi])
        obtain ⟨z, hc, rfl, _⟩ := DataW.trod_string he hf
        have h1 : cs[i]? = some (.string z) := by
          have := congrArg (·[0]?) hc
          simpa [List.getElem?_take, List.getElem?_drop] using this
        have h2 : (xs.map (·.1))[i]? = some (DataW.lit (.string z.data.toList) : DataW H) := by simp [hb]
        rw [hxs] at h2
        simp only [List.getElem?_map, Option.map_eq_some_iff, DataW.lit.injEq, Lit.string.injEq] at h2
        obtain ⟨z', hz', e⟩ := h2
        simp [h1, hz', e, str_self]
      · rw [List.getElem?_eq_none (by omega), List.getElem?_eq_none (by simp; omega)]
    · cases h
theorem stab_cell {P : Program} {W : World} {name : String} {zs : List (List UInt8)} {rest : List (String × DataW Unit)} {g : Nat} {t e : TypeId} {n : Nat}
    (hg : P.globalNamed name = some g) (hty : (P.globals[g]?).map (·.type) = some t) (ht : P.underlying t = some (.array n e)) (he : P.underlying e = some .string) (hce : P.cellsOf e = 1) (hct : P.cellsOf t = n)
    (h : laidMet P ((name, stabData zs) :: rest) W) (i : Nat) (hi : i < zs.length) : W.cell? ⟨g, i, none⟩ = some (.string (str (zs.getD i []))) := by
  obtain ⟨ps, ⟨g', t', cs, fuel, p, q, hg', ht', hvar, hd, _, _⟩, _⟩ := h
  obtain rfl := Option.some.inj (hg.symm.trans hg')
  obtain rfl := Option.some.inj (hty.symm.trans ht')
  have hv : W.var? P name = some (zs.map fun z => Value.string (str z)).toArray := by rw [hvar, ← cells_of_stab ht he hce hct hd]
  have := World.var?_cell hg hv i
  simpa [List.getD, hi] using this

def laidL8 : List (String × DataW Unit) := [("unicode/utf8.acceptRanges", Rows.laid_unicode_utf8_acceptRanges), ("turnpike/stamp.plainMonths", Rows.laid_turnpike_stamp_plainMonths), ("turnpike/stamp.shortDays", Rows.laid_turnpike_stamp_shortDays), ("turnpike/stamp.longDays", Rows.laid_turnpike_stamp_longDays), ("turnpike/stamp.months", Rows.laid_turnpike_stamp_months), ("unicode/utf8.first", Rows.laid_unicode_utf8_first)]
theorem gPm : Tryd.prog.globalNamed "turnpike/stamp.plainMonths" = some 3 := by kernel_rfl
theorem gSd : Tryd.prog.globalNamed "turnpike/stamp.shortDays" = some 0 := by kernel_rfl
theorem gLd : Tryd.prog.globalNamed "turnpike/stamp.longDays" = some 1 := by kernel_rfl
theorem gMo : Tryd.prog.globalNamed "turnpike/stamp.months" = some 4 := by kernel_rfl
theorem tPm : (Tryd.prog.globals[3]?).map (·.type) = some 121 := by kernel_rfl
theorem tSd : (Tryd.prog.globals[0]?).map (·.type) = some 93 := by kernel_rfl
theorem tLd : (Tryd.prog.globals[1]?).map (·.type) = some 93 := by kernel_rfl
theorem tMo : (Tryd.prog.globals[4]?).map (·.type) = some 125 := by kernel_rfl

theorem tb_of_laid8 {W : World} (h : laidMetH Tryd.prog laidL8 W) : Tb W := by
  rw [MakeChecks.laidMetH_plain _ _ _ (by kernel_rfl)] at h
  have h3 := laidMet.tail h
  have h4 := laidMet.tail h3
  have h5 := laidMet.tail h4
  have h6 := laidMet.tail h5
  have hM := Lib.tabIs_of_head (k := .i64) (zs := pms) gPm tPm Tryd.underlying121 Tryd.underlying3 (by kernel_rfl) (by kernel_rfl) h3
  have hS := stab_cell (zs := shorts) gSd tSd Tryd.underlying93 Tryd.underlying9 (by kernel_rfl) (by kernel_rfl) h4
  have hL := stab_cell (zs := longs) gLd tLd Tryd.underlying93 Tryd.underlying9 (by kernel_rfl) (by kernel_rfl) h5
  have hO := stab_cell (zs := mons) gMo tMo Tryd.underlying125 Tryd.underlying9 (by kernel_rfl) (by kernel_rfl) h6
  exact ⟨World.block_lt_of_cell? W _ (hM.cell gPm 0 (by decide)), World.block_lt_of_cell? W _ (hS 0 (by decide)), World.block_lt_of_cell? W _ (hL 0 (by decide)), World.block_lt_of_cell? W _ (hO 0 (by decide)), fun i hi => hM.cell gPm i hi, fun i hi => hS i hi, fun i hi => hL i hi, fun i hi => hO i hi⟩

end Bs
end Go.Proofs.YtjngpafokkjkdaaDoor

/-
  The law TagApart, as its row hands it.
-/
