/-
  A slice of pieces that came in.
-/
import Derived.Test.YtcnjnlmjgbmjnabRows
import Derived.Test.YtcnjnlmjgbmjnabSDone
import Derived.OpenShut
import Derived.SliceStrings
import Derived.Carry
import Derived.Deep.Strs
set_option linter.unusedVariables false
set_option linter.unusedSimpArgs false
namespace Go.Proofs.Ytcnjnlmjgbmjnab
open Go.ChangeShapes Go.WideShapes Go.RowKit
namespace Bs

/-- Which of the two, asked or not, the text. -/
abbrev Pc := Bool × Bool × List UInt8
def nthc (t : List Pc) (j : Nat) : Pc := t.getD j (false, false, [])
def sumc (t : List Pc) : Nat := (t.map fun p => p.2.2.length).sum
theorem sumc_take (t : List Pc) (k : Nat) (h : k < t.length) : sumc (t.take (k + 1)) = sumc (t.take k) + (nthc t k).2.2.length := by
  have e : t.take (k + 1) = t.take k ++ [nthc t k] := by
    unfold nthc
    rw [List.take_add_one, List.getElem?_eq_getElem h, List.getD_eq_getElem?_getD, List.getElem?_eq_getElem h]
    rfl
  unfold sumc
  rw [e, List.map_append, List.sum_append]
  simp
theorem sumc_le : ∀ (t : List Pc) (k : Nat), sumc (t.take k) ≤ sumc t
  | [], k => by simp [sumc]
  | p :: t, 0 => by simp [sumc]
  | p :: t, k + 1 => by
    have := sumc_le t k
    simp only [sumc, List.take_succ_cons, List.map_cons, List.sum_cons] at this ⊢
    omega
def RdPc (v : Value) (t : List Pc) (w : World) : Prop :=
  ∃ a c, v = .slice a t.length c ∧ (t = [] ∨ ∃ g o, a = some ⟨g, o, none⟩ ∧ t.length ≤ c ∧ ∀ j, j < t.length → w.cell? ⟨g, o + j * 3, none⟩ = some (.bool (nthc t j).1) ∧ w.cell? ⟨g, o + j * 3 + 1, none⟩ = some (.bool (nthc t j).2.1) ∧ w.cell? ⟨g, o + j * 3 + 2, none⟩ = some (.string (str (nthc t j).2.2)))
theorem laidOutT : laidOutB Try.prog = true := by kernel_rfl
theorem cells9 : Try.prog.cellsOf 9 = 1 := by kernel_rfl
theorem cells4 : Try.prog.cellsOf 4 = 1 := by kernel_rfl
theorem cellsPc : Try.prog.cellsOf 33 = 3 := by kernel_rfl
def pcOf {H : Type} (y : DataW H × List MemPlace) : Pc := match y.1 with | .agg [.lit (.bool a), .lit (.bool b), .lit (.string c)] => (a, b, c) | _ => (false, false, [])
theorem bulk_pcs {H : Type} : ∀ es : List (DataW H × List MemPlace), (∀ y ∈ es, ∃ a b c, y.1 = .agg [.lit (.bool a), .lit (.bool b), .lit (.string c)]) → sumc (es.map pcOf) ≤ Rows.uptoBulkAll (es.map (·.1))
  | [], _ => by simp [sumc]
  | y :: es, h => by
    have ih := bulk_pcs es (fun z hz => h z (List.mem_cons_of_mem _ hz))
    obtain ⟨a, b, c, e⟩ := h y (by simp)
    simp only [sumc, List.map_cons, List.sum_cons, Rows.uptoBulkAll, e, pcOf, Rows.uptoBulk] at ih ⊢
    omega
theorem addr_add (g o k : Nat) : Addr.add ⟨g, o, none⟩ k = ⟨g, o + k, none⟩ := by unfold Addr.add; split <;> simp_all
set_option maxRecDepth 100000 in
theorem open_pieces {H : Type} {enc : TypeId × Value → H} {W : World} {base : Nat} {v : Value} {d : DataW H} {ps : List MemPlace} (hval : Value.okWide Try.prog W .any base 29 v)
    (h : DataW.Trod enc Try.prog W 0 (fun _ => true) true 29 v d ps) : ∃ t : List Pc, RdPc v t W ∧ sumc t ≤ Rows.uptoBulk d ∧ t.length ≤ 9223372036854775807 := by
  obtain ⟨a0, len, cap, rfl⟩ := okWide_slice Try.underlying29 hval
  obtain ⟨fuel, hf⟩ := h
  rcases DataW.trod_slice Try.underlying29 hf with ⟨hcs, hx⟩ | ⟨a, len', cap', elems, rest, n, _, hcs, hx, hb, hl, hm, hlen, hel, _, _⟩
  · simp [Value.cells] at hcs
    obtain ⟨rfl, rfl, rfl⟩ := hcs
    exact ⟨[], ⟨none, 0, rfl, .inl rfl⟩, by simp [sumc], by simp⟩
  · simp [Value.cells] at hcs
    obtain ⟨rfl, rfl, rfl⟩ := hcs
    simp only [Prod.mk.injEq] at hx
    obtain ⟨rfl, rfl⟩ := hx
    have each : ∀ i y, elems[i]? = some y → ∃ (b1 b2 : Bool) (s : ByteArray), y.1 = .agg [.lit (.bool b1), .lit (.bool b2), .lit (.string s.data.toList)] ∧ W.cell? ((a.add (i * 3)).add 0) = some (.bool b1) ∧ W.cell? ((a.add (i * 3)).add 1) = some (.bool b2) ∧ W.cell? ((a.add (i * 3)).add 2) = some (.string s) := by
      intro i y hy
      have hi : i < len := by rw [← hlen]; exact (List.getElem?_eq_some_iff.1 hy).1
      have h1 := hel i hi
      rw [hy, cellsPc, Option.bind_eq_some_iff] at h1
      obtain ⟨cs, hcs, ht⟩ := h1
      obtain ⟨_, hcl, hcc⟩ := World.cells?_some hcs
      obtain ⟨y0, y1, y2, m, rfl, _, t0, t1, t2⟩ := Deep.trod_struct3 Try.underlying33 ht
      simp only [cells9, cells4, List.drop_zero] at t0 t1 t2
      obtain ⟨b1, e1, r1⟩ := DataW.trod_bool Try.underlying4 t0
      obtain ⟨b2, e2, r2⟩ := DataW.trod_bool Try.underlying4 t1
      obtain ⟨s, e3, r3, _⟩ := DataW.trod_string Try.underlying9 t2
      subst r1 r2 r3
      match cs, hcl with
      | [c0, c1, c2], _ =>
        simp at e1 e2 e3
        subst e1 e2 e3
        exact ⟨b1, b2, s, rfl, hcc 0 (by omega), hcc 1 (by omega), hcc 2 (by omega)⟩
    refine ⟨elems.map pcOf, ⟨some a, cap, by rw [List.length_map, hlen], ?_⟩, ?_, by rw [List.length_map, hlen]; unfold maxLen at hm; omega⟩
    · by_cases hl0 : len = 0
      · left
        have : elems = [] := List.length_eq_zero_iff.1 (by omega)
        rw [this]; rfl
      · right
        obtain ⟨g, o, spot⟩ := a
        have hspot : spot = none := by
          obtain ⟨y, hy⟩ : ∃ y, elems[0]? = some y := ⟨elems[0]'(by omega), List.getElem?_eq_getElem (by omega)⟩
          obtain ⟨s1, s2, b, _, c0, _, _⟩ := each 0 y hy
          simpa [Addr.add] using World.cell?_spot c0
        subst hspot
        refine ⟨g, o, rfl, by rw [List.length_map, hlen]; exact hl, fun j hj => ?_⟩
        rw [List.length_map] at hj
        obtain ⟨s1, s2, b, ey, c0, c1, c2⟩ := each j _ (List.getElem?_eq_getElem hj)
        have en : nthc (elems.map pcOf) j = (s1, s2, b.data.toList) := by
          unfold nthc
          rw [List.getD_eq_getElem?_getD, List.getElem?_map, List.getElem?_eq_getElem hj]
          show pcOf elems[j] = _
          unfold pcOf
          rw [ey]
        rw [addr_add, addr_add] at c0 c1 c2
        rw [en]
        dsimp only
        rw [str_self]
        exact ⟨c0, c1, c2⟩
    · have hb := bulk_pcs elems (fun y hy => by
        obtain ⟨i, hi⟩ := List.getElem?_of_mem hy
        obtain ⟨s1, s2, b, ey, _⟩ := each i y hi
        exact ⟨_, _, _, ey⟩)
      simp only [Rows.uptoBulk]
      omega

end Bs
end Go.Proofs.Ytcnjnlmjgbmjnab
