/- Several texts as one. -/
import Derived.Test.YtkaciaiooidohaaDoorZzO
import Derived.Test.YtkaciaiooidohaaDoorZzP
import Derived.Test.YtkaciaiooidohaaDoorZzI
import Derived.OpenShut
import Derived.SliceStrings
import Derived.Carry
import Derived.ChangeSlices
import Derived.ChangeOld
import Derived.Test.YtkaciaiooidohaaDoorRows
import Derived.Deep.DeepHandedRow
import Derived.Lay
import Derived.Stop.Joined
/-
  SpanPrints.
-/
set_option linter.unusedVariables false
set_option linter.unusedSimpArgs false
namespace Go.Proofs.YtkaciaiooidohaaDoor
open Go.RowKit Go.Shelf
namespace Sn
open Oc Tg Ac

theorem prt_back {t : List Sp} {size : Int} (h : (prtR t size).2 = 0) (hs : size ≤ 4611686018427387904) : parR (prtR t size).1 size = (t, 0) := by
  unfold prtR at h ⊢
  by_cases h1 : size < 0
  · rw [if_pos h1] at h; cases h
  rw [if_neg h1] at h ⊢
  by_cases h2 : t.length = 0
  · rw [if_pos h2] at h; cases h
  rw [if_neg h2] at h ⊢
  by_cases h3 : allSp t size = true
  · rw [if_pos h3]
    exact par_prt (by omega) (fun e => h2 (by rw [e]; rfl)) h3 hs
  · rw [if_neg h3] at h; cases h
theorem prt_len {t : List Sp} {size : Int} (hn : t.length ≤ 1048576) (s1 : size ≤ 9223372036854775807) : (prtR t size).1.length ≤ 67108864 := by
  unfold prtR
  split
  · simp
  · split
    · simp
    · split
      · rename_i h
        have hl := jn_len 43 (t.map extR) (ext_short s1 h)
        rw [List.length_map] at hl
        simp
        omega
      · simp

set_option maxRecDepth 100000 in
set_option maxHeartbeats 2000000 in
theorem walk_SpanPrints (v : Value) (t : List Sp) (ht : t.length ≤ 1048576) (size : Int) (hz : (Lit.int .i64 size).wf = true) (w : World) (hrd : RdN v t w) (hw : ML w ∧ Pow w) :
    Calls Tryd.prog 3 #[v, .int .i64 size] w fun e w' => e = .returned (.bool true) ∧ Below w.heap.size w w' := by
  obtain ⟨z0, z1⟩ := i64_of_wf hz
  obtain ⟨hml, hpw⟩ := hw
  have HA : Hid (∀ W, Below w.heap.size w W → Calls Tryd.prog 9 #[] W fun e w' => e = .returned (.bool true) ∧ Below (World.heap W).size W w') := fun W hb => awake_any W (hml.below hb)
  have HS : Hid (Calls _ _ _ w _) := spans_any v t w hrd (by omega)
  have HP : Hid (∀ W, Below w.heap.size w W → Calls Tryd.prog 7 #[v, .int .i64 size] W fun e w' => e = .returned (.tuple #[.string (str (prtR t size).1), .int .i64 (prtR t size).2]) ∧ Below (World.heap W).size W w') := fun W hb => Print_any v t size ht z1 W (hrd.below hb) (Oc.Pow.below hpw hb (Nat.le_refl _))
  have HrP : Hid (∀ u W, RdN u t W → Calls Tryd.prog 8 #[u, .int .i64 size] W fun e w' => e = .returned (.tuple #[.string (str (prtR t size).1), .int .i64 (prtR t size).2]) ∧ Below (World.heap W).size W w') := fun u W h => rPrint_any u t size ht z1 W h
  have HSm : Hid (∀ x y W, RdN x t W → RdN y t W → Calls Tryd.prog 10 #[x, y] W fun e w' => e = .returned (.bool true) ∧ Below (World.heap W).size W w') := fun x y W h1 h2 => same_any x y t W h1 h2 (by omega)
  have HPa : Hid ((prtR t size).2 = 0 → size ≤ 4611686018427387904 → ∀ W, Below w.heap.size w W → Calls Tryd.prog 11 #[.string (str (prtR t size).1), .int .i64 size] W fun e w' => ∃ v, e = .returned (.tuple #[v, .int .i64 0]) ∧ OwnN 43 (World.heap W).size v t w' ∧ Below (World.heap W).size W w') := fun h1 h2 W hb => by
    have h := Parse2_any (str (prtR t size).1) (by rw [str_size]; exact prt_len ht z1) size z0 z1 W (hml.below hb)
    rw [str_list, prt_back h1 h2] at h
    exact h
  have HR : Hid (∀ W, Below w.heap.size w W → RdN v t W) := fun W hb => hrd.below hb
  obtain ⟨a, c, rfl, _⟩ := hrd
  clear hml hpw hz
  generalize str (prtR t size).1 = PS at *
  generalize (prtR t size).2 = PZ at *
  have e1 : (PS.toList != PS.toList) = false := by simp
  have e2 : (PZ != PZ) = false := by simp
  go_enter Tryd.func3, Tryd.ntmps3
  go_wp2_with fail
  refine HS.out.mono ?_
  rintro e w1 ⟨u, rfl, hou, hb1⟩
  have HU1 : Hid (RdN u t w1) := hou.rd
  have HB1 : Hid (Below w.heap.size w w1) := hb1
  clear hou hb1
  go_wp2_with fail
  refine (HP.out _ HB1.out).mono ?_
  rintro e w2 ⟨rfl, hb2⟩
  have HU2 : Hid (RdN u t w2) := HU1.out.below hb2
  have HB2 : Hid (Below w.heap.size w w2) := bel_trans HB1.out hb2
  clear hb2
  go_wp2_with fail
  refine (HrP.out _ _ HU2.out).mono ?_
  rintro e w3 ⟨rfl, hb3⟩
  have HU3 : Hid (RdN u t w3) := HU2.out.below hb3
  have HB3 : Hid (Below w.heap.size w w3) := bel_trans HB2.out hb3
  clear hb3
  go_wp2_with fail
  refine (HA.out _ HB3.out).mono ?_
  rintro e w4 ⟨rfl, hb4⟩
  have HU4 : Hid (RdN u t w4) := HU3.out.below hb4
  have HB4 : Hid (Below w.heap.size w w4) := bel_trans HB3.out hb4
  clear hb4
  go_wp2_with fail
  refine (HSm.out _ _ _ (HR.out _ HB4.out) HU4.out).mono ?_
  rintro e w5 ⟨rfl, hb5⟩
  have HU5 : Hid (RdN u t w5) := HU4.out.below hb5
  have HB5 : Hid (Below w.heap.size w w5) := bel_trans HB4.out hb5
  clear hb5
  by_cases hp0 : PZ = 0
  · subst hp0
    by_cases hbig : 4611686018427387904 < size
    · go_wp2
      go_ret
      exact ⟨rfl, HB5.out⟩
    · have HPq : Hid (Calls _ _ _ _ _) := HPa.out rfl (by omega) w5 HB5.out
      go_wp2_with fail
      refine HPq.out.mono ?_
      rintro e w6 ⟨x, rfl, hox, hb6⟩
      have HU6 : Hid (RdN u t w6) := HU5.out.below hb6
      have HX6 : Hid (RdN x t w6) := hox.rd
      have HB6 : Hid (Below w.heap.size w w6) := bel_trans HB5.out hb6
      clear hox hb6
      go_wp2_with fail
      refine (HSm.out _ _ _ HX6.out HU6.out).mono ?_
      rintro e w7 ⟨rfl, hb7⟩
      have HB7 : Hid (Below w.heap.size w w7) := bel_trans HB6.out hb7
      clear hb7
      go_wp2
      go_ret
      exact ⟨rfl, HB7.out⟩
  · have hq : (PZ != 0) = true := by simp [hp0]
    go_wp2
    go_ret
    exact ⟨rfl, HB5.out⟩

end Sn
end Go.Proofs.YtkaciaiooidohaaDoor

/-
  Slices of spans that came in.
-/
set_option linter.unusedVariables false
set_option linter.unusedSimpArgs false
namespace Go.Proofs.YtkaciaiooidohaaDoor
open Go.ChangeShapes Go.WideShapes Go.RowKit
namespace Sn
open Oc

theorem laidOutT : laidOutB Tryd.prog = true := by kernel_rfl
def spOf {H : Type} (y : DataW H × List MemPlace) : Sp := match y.1 with | .agg [.lit (.int _ a), .lit (.int _ b)] => (a, b) | _ => (0, 0)
theorem bulk_sps {H : Type} : ∀ es : List (DataW H × List MemPlace), (∀ y ∈ es, ∃ a b, y.1 = .agg [.lit (.int .i64 a), .lit (.int .i64 b)]) → es.length ≤ Rows.uptoBulkAll (es.map (·.1))
  | [], _ => by simp
  | y :: es, h => by
    have ih := bulk_sps es (fun z hz => h z (List.mem_cons_of_mem _ hz))
    obtain ⟨a, b, e⟩ := h y (by simp)
    simp only [List.map_cons, List.length_cons, Rows.uptoBulkAll, e, Rows.uptoBulk]
    omega
theorem addr_addN (g o k : Nat) : Addr.add ⟨g, o, none⟩ k = ⟨g, o + k, none⟩ := by unfold Addr.add; split <;> simp_all
set_option maxRecDepth 100000 in
theorem open_spans {H : Type} {enc : TypeId × Value → H} {W : World} {base : Nat} {v : Value} {d : DataW H} {ps : List MemPlace} (hval : Value.okWide Tryd.prog W .any base 22 v)
    (h : DataW.Trod enc Tryd.prog W 0 (fun _ => true) true 22 v d ps) : ∃ t : List Sp, RdN v t W ∧ t.length ≤ Rows.uptoBulk d := by
  obtain ⟨a0, len, cap, rfl⟩ := okWide_slice Tryd.underlying22 hval
  obtain ⟨fuel, hf⟩ := h
  rcases DataW.trod_slice Tryd.underlying22 hf with ⟨hcs, hx⟩ | ⟨a, len', cap', elems, rest, n, _, hcs, hx, hb, hl, hm, hlen, hel, _, _⟩
  · simp [Value.cells] at hcs
    obtain ⟨rfl, rfl, rfl⟩ := hcs
    exact ⟨[], ⟨none, 0, rfl, .inl rfl⟩, by simp⟩
  · simp [Value.cells] at hcs
    obtain ⟨rfl, rfl, rfl⟩ := hcs
    simp only [Prod.mk.injEq] at hx
    obtain ⟨rfl, rfl⟩ := hx
    have each : ∀ i y, elems[i]? = some y → ∃ (s1 s2 : Int), y.1 = .agg [.lit (.int .i64 s1), .lit (.int .i64 s2)] ∧ W.cell? ((a.add (i * 2)).add 0) = some (.int .i64 s1) ∧ W.cell? ((a.add (i * 2)).add 1) = some (.int .i64 s2) := by
      intro i y hy
      have hi : i < len := by rw [← hlen]; exact (List.getElem?_eq_some_iff.1 hy).1
      have h1 := hel i hi
      rw [hy, cellsSp, Option.bind_eq_some_iff] at h1
      obtain ⟨cs, hcs, ht⟩ := h1
      obtain ⟨ys, m, _, hx, hl4, hy4, hfs⟩ := DataW.trod_struct Tryd.underlying43 ht
      rw [cellsSp] at hl4
      have hcc := (World.cells?_some hcs).2.2
      have t0 := hfs 0 _ rfl
      have t1 := hfs 1 _ rfl
      match cs, hl4 with
      | [x0, x1], _ =>
        match ys, hy4 with
        | [y0, y1], _ =>
          simp [cellsI] at t0 t1
          obtain ⟨m0, e0, q0, _⟩ := DataW.trod_int Tryd.underlying3 t0
          obtain ⟨m1, e1, q1, _⟩ := DataW.trod_int Tryd.underlying3 t1
          simp at e0 e1
          subst e0 e1
          subst q0 q1
          refine ⟨m0, m1, ?_, hcc 0 (by omega), hcc 1 (by omega)⟩
          rw [hx]
          rfl
    refine ⟨elems.map spOf, ⟨some a, cap, by rw [List.length_map, hlen], ?_⟩, ?_⟩
    · by_cases hl0 : len = 0
      · left
        have : elems = [] := List.length_eq_zero_iff.1 (by omega)
        rw [this]; rfl
      · right
        obtain ⟨g, o, spot⟩ := a
        have hspot : spot = none := by
          obtain ⟨y, hy⟩ : ∃ y, elems[0]? = some y := ⟨elems[0]'(by omega), List.getElem?_eq_getElem (by omega)⟩
          obtain ⟨s1, s2, _, c0, _⟩ := each 0 y hy
          simpa [Addr.add] using World.cell?_spot c0
        subst hspot
        refine ⟨g, o, rfl, by rw [List.length_map, hlen]; exact hl, fun j hj => ?_⟩
        rw [List.length_map] at hj
        obtain ⟨s1, s2, ey, c0, c1⟩ := each j _ (List.getElem?_eq_getElem hj)
        have en : nthN (elems.map spOf) j = (s1, s2) := by
          unfold nthN
          rw [List.getD_eq_getElem?_getD, List.getElem?_map, List.getElem?_eq_getElem hj]
          show spOf elems[j] = _
          unfold spOf
          rw [ey]
        rw [addr_addN, addr_addN] at c0 c1
        rw [en]
        exact ⟨c0, c1⟩
    · have hb := bulk_sps elems (fun y hy => by
        obtain ⟨i, hi, rfl⟩ := List.mem_iff_getElem.1 hy
        obtain ⟨s1, s2, ey, _⟩ := each i _ (List.getElem?_eq_getElem hi)
        exact ⟨s1, s2, ey⟩)
      simp only [List.length_map, Rows.uptoBulk, Rows.uptoBulkAll] at hb ⊢
      omega

end Sn
end Go.Proofs.YtkaciaiooidohaaDoor

/-
  A witness for a row with a condition of its own, at a world whose listed tables are laid.
-/
set_option linter.unusedVariables false
namespace Go.Proofs.YtkaciaiooidohaaDoor
namespace Oc

theorem witness_zip {H : Type} {enc : TypeId × Value → H} {C : Checked} {os : Os} {f : FuncId} {fn : Func} {s : OpenSpec} {conds : List PathCond} {apart : Bool} {laid : List (String × DataW Unit)} (modest : Bool) (w0 : World) (args : Array Value) (hos : w0.os = os)
    (hsh : (w0.forCall (fun _ _ => 0) ⟨#[], args, []⟩).Shaped C.prog)
    (hok : Input.okWideB C.prog (w0.forCall (fun _ _ => 0) ⟨#[], args, []⟩) f ⟨#[], args, []⟩ = true)
    (hrow : s.preRow enc C.prog fn conds apart laid (w0.forCall (fun _ _ => 0) ⟨#[], args, []⟩).memory args) :
    ∃ (w : World) (tape : Tape) (i : Input), w.os = os ∧ (w.forCall tape i).Shaped C.prog ∧ i.vars = [] ∧ Input.okWide C.prog (w.forCall tape i) .any w.heap.size f i ∧
      s.preRow enc C.prog fn conds apart laid (w.forCall tape i).memory i.args ∧ ({ modest := modest } : Assume).holds C.prog (lone (Frame.enter C.prog f i.args .normal) [] (w.forCall tape i)) :=
  ⟨w0, fun _ _ => 0, ⟨#[], args, []⟩, hos, hsh, (Input.okWide_of_okWideB (base := 0) hok).1, (Input.okWide_of_okWideB hok).2, hrow, by
    simp only [Assume.holds]
    exact ⟨by simp, by simp, fun _ => Modest.zero, by simp, by simp⟩⟩

end Oc
end Go.Proofs.YtkaciaiooidohaaDoor
