/- Several texts as one. -/
import Derived.Test.YtkaciaiooidohaaDoorZzS
import Derived.Deep.Strs
import Derived.Test.YtkaciaiooidohaaDoorRows
import Derived.Deep.DeepHandedRow
import Derived.Lay
import Derived.Stop.Joined
/-
  A body in parts that came in by value.
-/
set_option linter.unusedVariables false
set_option linter.unusedSimpArgs false
namespace Go.Proofs.YtkaciaiooidohaaDoor
open Go.ChangeShapes Go.WideShapes Go.RowKit
namespace Sn
open Oc

set_option maxRecDepth 100000 in
theorem open_spansT {H : Type} {enc : TypeId × Value → H} {W : World} {v : Value} {d : DataW H} {ps : List MemPlace} (hval : ∃ a len cap, v = .slice a len cap)
    (h : DataW.Trod enc Tryd.prog W 0 (fun _ => true) true 22 v d ps) : ∃ t : List Sp, RdN v t W ∧ t.length ≤ Rows.uptoBulk d ∧ ∀ k, k < t.length → -9223372036854775808 ≤ (nthN t k).1 ∧ (nthN t k).1 ≤ 9223372036854775807 ∧ -9223372036854775808 ≤ (nthN t k).2 ∧ (nthN t k).2 ≤ 9223372036854775807 := by
  obtain ⟨a0, len, cap, rfl⟩ := hval
  obtain ⟨fuel, hf⟩ := h
  rcases DataW.trod_slice Tryd.underlying22 hf with ⟨hcs, hx⟩ | ⟨a, len', cap', elems, rest, n, _, hcs, hx, hb, hl, hm, hlen, hel, _, _⟩
  · simp [Value.cells] at hcs
    obtain ⟨rfl, rfl, rfl⟩ := hcs
    exact ⟨[], ⟨none, 0, rfl, .inl rfl⟩, by simp, fun k hk => by simp at hk⟩
  · simp [Value.cells] at hcs
    obtain ⟨rfl, rfl, rfl⟩ := hcs
    simp only [Prod.mk.injEq] at hx
    obtain ⟨rfl, rfl⟩ := hx
    have each : ∀ i y, elems[i]? = some y → ∃ (s1 s2 : Int), y.1 = .agg [.lit (.int .i64 s1), .lit (.int .i64 s2)] ∧ W.cell? ((a.add (i * 2)).add 0) = some (.int .i64 s1) ∧ W.cell? ((a.add (i * 2)).add 1) = some (.int .i64 s2) ∧ (Lit.int .i64 s1).wf = true ∧ (Lit.int .i64 s2).wf = true := by
      intro i y hy
      have hi : i < len := by rw [← hlen]; exact (List.getElem?_eq_some_iff.1 hy).1
      have h1 := hel i hi
      rw [hy, cellsSp, Option.bind_eq_some_iff] at h1
      obtain ⟨cs, hcs, ht⟩ := h1
      obtain ⟨ys, m, _, hx, hl4, hy4, hfs⟩ := DataW.trod_struct Tryd.underlying43 ht
      rw [cellsSp] at hl4
      have hcc := (World.cells?_some hcs).2.2
      have t0 := hfs 0 _ rfl
      have t1 := hfs 1 _ rfl
      match cs, hl4 with
      | [x0, x1], _ =>
        match ys, hy4 with
        | [y0, y1], _ =>
          simp [cellsI] at t0 t1
          obtain ⟨m0, e0, q0, f0⟩ := DataW.trod_int Tryd.underlying3 t0
          obtain ⟨m1, e1, q1, f1⟩ := DataW.trod_int Tryd.underlying3 t1
          simp at e0 e1
          subst e0 e1
          subst q0 q1
          refine ⟨m0, m1, ?_, hcc 0 (by omega), hcc 1 (by omega), f0, f1⟩
          rw [hx]
          rfl
    refine ⟨elems.map spOf, ⟨some a, cap, by rw [List.length_map, hlen], ?_⟩, ?_, fun j hj => ?_⟩
    · by_cases hl0 : len = 0
      · left
        have : elems = [] := List.length_eq_zero_iff.1 (by omega)
        rw [this]; rfl
      · right
        obtain ⟨g, o, spot⟩ := a
        have hspot : spot = none := by
          obtain ⟨y, hy⟩ : ∃ y, elems[0]? = some y := ⟨elems[0]'(by omega), List.getElem?_eq_getElem (by omega)⟩
          obtain ⟨s1, s2, _, c0, _⟩ := each 0 y hy
          simpa [Addr.add] using World.cell?_spot c0
        subst hspot
        refine ⟨g, o, rfl, by rw [List.length_map, hlen]; exact hl, fun j hj => ?_⟩
        rw [List.length_map] at hj
        obtain ⟨s1, s2, ey, c0, c1, _, _⟩ := each j _ (List.getElem?_eq_getElem hj)
        have en : nthN (elems.map spOf) j = (s1, s2) := by
          unfold nthN
          rw [List.getD_eq_getElem?_getD, List.getElem?_map, List.getElem?_eq_getElem hj]
          show spOf elems[j] = _
          unfold spOf
          rw [ey]
        rw [addr_addN, addr_addN] at c0 c1
        rw [en]
        exact ⟨c0, c1⟩
    · have hb := bulk_sps elems (fun y hy => by
        obtain ⟨i, hi, rfl⟩ := List.mem_iff_getElem.1 hy
        obtain ⟨s1, s2, ey, _⟩ := each i _ (List.getElem?_eq_getElem hi)
        exact ⟨s1, s2, ey⟩)
      simp only [List.length_map, Rows.uptoBulk, Rows.uptoBulkAll] at hb ⊢
      omega
    · rw [List.length_map] at hj
      obtain ⟨s1, s2, ey, _, _, f0, f1⟩ := each j _ (List.getElem?_eq_getElem hj)
      have en : nthN (elems.map spOf) j = (s1, s2) := by
        unfold nthN
        rw [List.getD_eq_getElem?_getD, List.getElem?_map, List.getElem?_eq_getElem hj]
        show spOf elems[j] = _
        unfold spOf
        rw [ey]
      rw [en]
      obtain ⟨g0, g1⟩ := i64_of_wf f0
      obtain ⟨g2, g3⟩ := i64_of_wf f1
      exact ⟨g0, g1, g2, g3⟩

theorem cells9p : Tryd.prog.cellsOf 9 = 1 := by kernel_rfl
theorem cellsPd : Tryd.prog.cellsOf 38 = 4 := by kernel_rfl
theorem cellsLS : Tryd.prog.cellsOf 22 = 1 := by kernel_rfl
theorem array4 {α : Type} {cs : Array α} (h : cs.size = 4) : ∃ c0 c1 c2 c3, cs = #[c0, c1, c2, c3] := by
  obtain ⟨l⟩ := cs
  match l, h with
  | [c0, c1, c2, c3], _ => exact ⟨c0, c1, c2, c3, rfl⟩

set_option maxRecDepth 100000 in
theorem open_parted {H : Type} {enc : TypeId × Value → H} {W : World} {base : Nat} {v : Value} {d : DataW H} {ps : List MemPlace} (hval : Value.okWide Tryd.prog W .any base 38 v)
    (h : DataW.Trod enc Tryd.prog W 0 (fun _ => true) true 38 v d ps) :
    ∃ (A M Y : ByteArray) (u : Value) (t : List Sp), v = .agg #[.string A, .string M, .string Y, u] ∧ RdN u t W ∧ (∀ k, k < t.length → -9223372036854775808 ≤ (nthN t k).1 ∧ (nthN t k).1 ≤ 9223372036854775807 ∧ -9223372036854775808 ≤ (nthN t k).2 ∧ (nthN t k).2 ≤ 9223372036854775807) ∧ A.size + M.size + Y.size + t.length ≤ Rows.uptoBulk d := by
  obtain ⟨cs, rfl, hsz⟩ := okWide_struct Tryd.underlying38 hval
  obtain ⟨c0, c1, c2, c3, rfl⟩ := array4 (hsz.trans cellsPd)
  obtain ⟨fuel, hf⟩ := h
  obtain ⟨ys, m, _, hx, _, hy4, hfs⟩ := DataW.trod_struct Tryd.underlying38 hf
  have t0 := hfs 0 _ rfl
  have t1 := hfs 1 _ rfl
  have t2 := hfs 2 _ rfl
  have t3 := hfs 3 _ rfl
  match ys, hy4 with
  | [y0, y1, y2, y3], _ =>
    simp [cells9p, cellsLS, Value.cells] at t0 t1 t2 t3
    obtain ⟨s0, e0, r0, _⟩ := DataW.trod_string Tryd.underlying9 t0
    obtain ⟨s1, e1, r1, _⟩ := DataW.trod_string Tryd.underlying9 t1
    obtain ⟨s2, e2, r2, _⟩ := DataW.trod_string Tryd.underlying9 t2
    have hs3 : ∃ a len cap, c3 = .slice a len cap := by
      rcases DataW.trod_slice Tryd.underlying22 t3 with ⟨hcs, _⟩ | ⟨a, len', cap', elems, rest, n, _, hcs, _⟩
      · simp at hcs; exact ⟨_, _, _, hcs⟩
      · simp at hcs; exact ⟨_, _, _, hcs⟩
    simp at e0 e1 e2
    subst e0 e1 e2
    obtain ⟨a3, l3, cap3, rfl⟩ := hs3
    obtain ⟨t, hr, hb, hw⟩ := open_spansT (enc := enc) (W := W) (v := .slice a3 l3 cap3) (d := y3.1) (ps := y3.2) ⟨_, _, _, rfl⟩ ⟨m, by simpa [Value.cells] using t3⟩
    refine ⟨s0, s1, s2, _, t, rfl, hr, hw, ?_⟩
    subst r0 r1 r2
    rw [Prod.mk.injEq] at hx
    rw [hx.1]
    simp only [List.map_cons, List.map_nil, Rows.uptoBulk, Rows.uptoBulkAll]
    have z0 := size_list s0
    have z1 := size_list s1
    have z2 := size_list s2
    omega

end Sn
end Go.Proofs.YtkaciaiooidohaaDoor

/-
  A witness for a row with a condition of its own, at a world whose listed tables are laid.
-/
set_option linter.unusedVariables false
namespace Go.Proofs.YtkaciaiooidohaaDoor
namespace Oc

theorem witness_zip {H : Type} {enc : TypeId × Value → H} {C : Checked} {os : Os} {f : FuncId} {fn : Func} {s : OpenSpec} {conds : List PathCond} {apart : Bool} {laid : List (String × DataW Unit)} (modest : Bool) (w0 : World) (args : Array Value) (hos : w0.os = os)
    (hsh : (w0.forCall (fun _ _ => 0) ⟨#[], args, []⟩).Shaped C.prog)
    (hok : Input.okWideB C.prog (w0.forCall (fun _ _ => 0) ⟨#[], args, []⟩) f ⟨#[], args, []⟩ = true)
    (hrow : s.preRow enc C.prog fn conds apart laid (w0.forCall (fun _ _ => 0) ⟨#[], args, []⟩).memory args) :
    ∃ (w : World) (tape : Tape) (i : Input), w.os = os ∧ (w.forCall tape i).Shaped C.prog ∧ i.vars = [] ∧ Input.okWide C.prog (w.forCall tape i) .any w.heap.size f i ∧
      s.preRow enc C.prog fn conds apart laid (w.forCall tape i).memory i.args ∧ ({ modest := modest } : Assume).holds C.prog (lone (Frame.enter C.prog f i.args .normal) [] (w.forCall tape i)) :=
  ⟨w0, fun _ _ => 0, ⟨#[], args, []⟩, hos, hsh, (Input.okWide_of_okWideB (base := 0) hok).1, (Input.okWide_of_okWideB hok).2, hrow, by
    simp only [Assume.holds]
    exact ⟨by simp, by simp, fun _ => Modest.zero, by simp, by simp⟩⟩

end Oc
end Go.Proofs.YtkaciaiooidohaaDoor
