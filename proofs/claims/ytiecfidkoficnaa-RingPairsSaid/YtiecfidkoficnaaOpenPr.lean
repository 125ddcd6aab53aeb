/-
  A slice of pairs that came in.
-/
import Derived.Test.YtiecfidkoficnaaQPr4
import Derived.Test.YtiecfidkoficnaaGArg
import Derived.OpenShut
import Derived.SliceStrings
set_option linter.unusedVariables false
set_option linter.unusedSimpArgs false
namespace Go.Proofs.Ytiecfidkoficnaa
open Go.RowKit Go.ChangeShapes Go.WideShapes Go.ChangeAt
namespace Rg

abbrev Pr := Int × ByteArray
def nthp (ps : List Pr) (j : Nat) : Pr := ps.getD j (0, ⟨#[]⟩)
def RdP (w : World) (v : Value) (ps : List Pr) : Prop :=
  ∃ a cap, v = .slice a ps.length cap ∧ ps.length ≤ cap ∧ (ps = [] ∨ ∃ g o, a = some ⟨g, o, none⟩ ∧ ∀ j, j < ps.length → w.cell? ⟨g, o + j * 2, none⟩ = some (.int .i64 (nthp ps j).1) ∧ w.cell? ⟨g, o + j * 2 + 1, none⟩ = some (.string (nthp ps j).2))

theorem cellsPr : Try.prog.cellsOf 68 = 2 := by kernel_rfl
set_option maxRecDepth 100000 in
theorem opened_p {H : Type} {enc : TypeId × Value → H} {W : World} {v : Value} {d : DataW H} {p : List MemPlace} {base : Nat} (hok : Value.okWide Try.prog W .any base 63 v)
    (h0 : DataW.Trod enc Try.prog W 0 (fun _ => true) true 63 v d p) : ∃ ps : List Pr, RdP W v ps ∧ ps.length ≤ 9223372036854775807 := by
  obtain ⟨a0, len, cap, rfl⟩ := okWide_slice Try.underlying63 hok
  obtain ⟨fuel, hf⟩ := h0
  have cs1 : Try.prog.cellsOf 9 = 1 := by kernel_rfl
  have ci : Try.prog.cellsOf 3 = 1 := by kernel_rfl
  rcases DataW.trod_slice Try.underlying63 hf with ⟨hcs, hx⟩ | ⟨a, len', cap', elems, rest, n, _, hcs, hx, hb, hl, hm, hlen, hel, _, _⟩
  · simp [Value.cells] at hcs
    obtain ⟨rfl, rfl, rfl⟩ := hcs
    exact ⟨[], ⟨none, 0, rfl, Nat.le_refl _, .inl rfl⟩, by simp⟩
  · simp [Value.cells] at hcs
    obtain ⟨rfl, rfl, rfl⟩ := hcs
    simp only [Prod.mk.injEq] at hx
    obtain ⟨rfl, rfl⟩ := hx
    by_cases c : len = 0
    · exact ⟨[], ⟨some a, cap, by rw [c]; rfl, by simp, .inl rfl⟩, by simp⟩
    obtain ⟨b, off, spot⟩ := a
    have hspot : spot = none := by
      have h1 := hel 0 (by omega)
      have hy : elems[0]? = some elems[0] := List.getElem?_eq_getElem (by omega)
      rw [hy, cellsPr, Option.bind_eq_some_iff] at h1
      obtain ⟨cs, hcs, ht⟩ := h1
      obtain ⟨_, hl4, hcell⟩ := World.cells?_some hcs
      have k0 := hcell 0 (by omega)
      rw [List.getElem?_eq_getElem (by omega)] at k0
      simpa [Addr.add] using World.cell?_spot k0
    subst hspot
    have each : ∀ i, ∃ x : Pr, i < len → W.cell? ⟨b, off + i * 2, none⟩ = some (.int .i64 x.1) ∧ W.cell? ⟨b, off + i * 2 + 1, none⟩ = some (.string x.2) := by
      intro i
      by_cases hi : i < len
      · have h1 := hel i hi
        have hy : elems[i]? = some elems[i] := List.getElem?_eq_getElem (by omega)
        rw [hy, cellsPr, Option.bind_eq_some_iff] at h1
        obtain ⟨cs, hcs, ht⟩ := h1
        obtain ⟨ys, m, _, hx, hl4, hy4, hfs⟩ := DataW.trod_struct Try.underlying68 ht
        rw [cellsPr] at hl4
        have hcell := (World.cells?_some hcs).2.2
        have t0 := hfs 0 _ rfl
        have t1 := hfs 1 _ rfl
        match cs, hl4 with
        | [x0, x1], _ =>
          match ys, hy4 with
          | [y0, y1], _ =>
            simp [ci, cs1] at t0 t1
            obtain ⟨m0, e0, q0, w0⟩ := DataW.trod_int Try.underlying3 t0
            obtain ⟨m1, e1, q1, w1⟩ := DataW.trod_string Try.underlying9 t1
            simp at e0 e1
            subst e0 e1
            have k0 := hcell 0 (by omega)
            have k1 := hcell 1 (by omega)
            rw [Go.WideShapes.add_plain, Go.WideShapes.add_plain] at k0 k1
            exact ⟨(m0, m1), fun _ => ⟨k0, k1⟩⟩
      · exact ⟨(0, ⟨#[]⟩), fun h => absurd h hi⟩
    obtain ⟨f, hf⟩ := Classical.axiomOfChoice each
    have hl2 : ((List.range len).map f).length = len := by simp
    refine ⟨(List.range len).map f, ⟨some ⟨b, off, none⟩, cap, by rw [hl2], by omega, ?_⟩, by rw [hl2]; unfold maxLen at hm; omega⟩
    right
    refine ⟨b, off, rfl, fun j hj => ?_⟩
    have hjl : j < len := by omega
    have e : nthp ((List.range len).map f) j = f j := by
      unfold nthp
      rw [List.getD_eq_getElem?_getD, List.getElem?_map, List.getElem?_range hjl]
      rfl
    rw [e]
    exact hf j hjl

end Rg
end Go.Proofs.Ytiecfidkoficnaa
