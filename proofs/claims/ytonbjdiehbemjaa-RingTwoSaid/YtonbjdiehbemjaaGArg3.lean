/-
  A slice of calls that came in.
-/
import Derived.Test.YtonbjdiehbemjaaGArg2
set_option linter.unusedVariables false
set_option linter.unusedSimpArgs false
namespace Go.Proofs.Ytonbjdiehbemjaa
open Go.RowKit Go.ChangeShapes Go.WideShapes Go.ChangeAt
namespace Rg

/-- A call: its kind, two numbers, bytes. -/
structure Op where
  k : Int
  i : Int
  n : Int
  p : List UInt8

/-- A call as four cells. -/
structure OpAt (w : World) (g o : Nat) (x : Op) (u : Value) : Prop where
  c0 : w.cell? ⟨g, o, none⟩ = some (.int .i64 x.k)
  c1 : w.cell? ⟨g, o + 1, none⟩ = some (.int .i64 x.i)
  c2 : w.cell? ⟨g, o + 2, none⟩ = some (.int .i64 x.n)
  c3 : w.cell? ⟨g, o + 3, none⟩ = some u
  p : RdB w u x.p
  k0 : -9223372036854775808 ≤ x.k
  k1 : x.k ≤ 9223372036854775807
  i0 : -9223372036854775808 ≤ x.i
  i1 : x.i ≤ 9223372036854775807
  n0 : -9223372036854775808 ≤ x.n
  n1 : x.n ≤ 9223372036854775807
  len : x.p.length ≤ 140737488351232

def RdO (w : World) (v : Value) (os : List Op) : Prop :=
  ∃ a cap, v = .slice a os.length cap ∧ os.length ≤ cap ∧ (os = [] ∨ ∃ g o, a = some ⟨g, o, none⟩ ∧ ∀ j x, os[j]? = some x → ∃ u, OpAt w g (o + j * 4) x u)

theorem cellsO : Try.prog.cellsOf 31 = 4 := by kernel_rfl
set_option maxRecDepth 100000 in
theorem opened_op {H : Type} {enc : TypeId × Value → H} {W : World} {v : Value} {d : DataW H} {p : List MemPlace} {base : Nat} (hok : Value.okWide Try.prog W .any base 22 v)
    (h0 : DataW.Trod enc Try.prog W 0 (fun _ => true) true 22 v d p) (hsz : ∀ n ∈ d.weights Try.prog 22, n ≤ reachBytes) : ∃ os : List Op, RdO W v os ∧ os.length ≤ 9223372036854775807 := by
  obtain ⟨a0, len, cap, rfl⟩ := okWide_slice Try.underlying22 hok
  obtain ⟨fuel, hf⟩ := h0
  have cb : Try.prog.cellsOf 25 = 1 := by kernel_rfl
  have ci : Try.prog.cellsOf 3 = 1 := by kernel_rfl
  rcases DataW.trod_slice Try.underlying22 hf with ⟨hcs, hx⟩ | ⟨a, len', cap', elems, rest, n, _, hcs, hx, hb, hl, hm, hlen, hel, _, _⟩
  · simp [Value.cells] at hcs
    obtain ⟨rfl, rfl, rfl⟩ := hcs
    exact ⟨[], ⟨none, 0, rfl, Nat.le_refl _, .inl rfl⟩, by simp⟩
  · simp [Value.cells] at hcs
    obtain ⟨rfl, rfl, rfl⟩ := hcs
    simp only [Prod.mk.injEq] at hx
    obtain ⟨rfl, rfl⟩ := hx
    by_cases c : len = 0
    · exact ⟨[], ⟨some a, cap, by rw [c]; rfl, by simp, .inl rfl⟩, by simp⟩
    obtain ⟨b, off, spot⟩ := a
    have hspot : spot = none := by
      have h1 := hel 0 (by omega)
      have hy : elems[0]? = some elems[0] := List.getElem?_eq_getElem (by omega)
      rw [hy, cellsO, Option.bind_eq_some_iff] at h1
      obtain ⟨cs, hcs, ht⟩ := h1
      obtain ⟨_, hl4, hcell⟩ := World.cells?_some hcs
      have k0 := hcell 0 (by omega)
      rw [List.getElem?_eq_getElem (by omega)] at k0
      simpa [Addr.add] using World.cell?_spot k0
    subst hspot
    have each : ∀ i, ∃ x : Op, i < len → ∃ u, OpAt W b (off + i * 4) x u := by
      intro i
      by_cases hi : i < len
      · have h1 := hel i hi
        have hy : elems[i]? = some elems[i] := List.getElem?_eq_getElem (by omega)
        rw [hy, cellsO, Option.bind_eq_some_iff] at h1
        obtain ⟨cs, hcs, ht⟩ := h1
        obtain ⟨ys, m, _, hx, hl4, hy4, hfs⟩ := DataW.trod_struct Try.underlying31 ht
        rw [cellsO] at hl4
        have hcell := (World.cells?_some hcs).2.2
        have t0 := hfs 0 _ rfl
        have t1 := hfs 1 _ rfl
        have t2 := hfs 2 _ rfl
        have t3 := hfs 3 _ rfl
        match cs, hl4 with
        | [x0, x1, x2, x3], _ =>
          match ys, hy4 with
          | [y0, y1, y2, y3], _ =>
            simp [ci, cb] at t0 t1 t2 t3
            obtain ⟨m0, e0, q0, w0⟩ := DataW.trod_int Try.underlying3 t0
            obtain ⟨m1, e1, q1, w1⟩ := DataW.trod_int Try.underlying3 t1
            obtain ⟨m2, e2, q2, w2⟩ := DataW.trod_int Try.underlying3 t2
            obtain ⟨v, l, e3, r1, r2⟩ := read_b t3 (fun n hn => hsz n (by
              simp only [DataW.weights, Try.underlying22]
              refine List.mem_cons_of_mem _ (List.mem_append_left _ (weights_all (d := elems[i].1) (List.mem_map_of_mem (List.getElem_mem _)) n ?_))
              rw [hx]
              simp only [DataW.weights, Try.underlying31]
              exact DataW.weights_mem_each (j := 3) rfl rfl n hn))
            simp at e0 e1 e2 e3
            subst e0 e1 e2 e3
            have k0 := hcell 0 (by omega)
            have k1 := hcell 1 (by omega)
            have k2 := hcell 2 (by omega)
            have k3 := hcell 3 (by omega)
            rw [Go.WideShapes.add_plain, Go.WideShapes.add_plain] at k0 k1 k2 k3
            obtain ⟨z0, z0'⟩ := int_wf w0
            obtain ⟨z1, z1'⟩ := int_wf w1
            obtain ⟨z2, z2'⟩ := int_wf w2
            exact ⟨⟨m0, m1, m2, l⟩, fun _ => ⟨_, ⟨k0, k1, k2, k3, r1, z0, z0', z1, z1', z2, z2', r2⟩⟩⟩
      · exact ⟨⟨0, 0, 0, []⟩, fun h => absurd h hi⟩
    obtain ⟨f, hf⟩ := Classical.axiomOfChoice each
    have hl2 : ((List.range len).map f).length = len := by simp
    refine ⟨(List.range len).map f, ⟨some ⟨b, off, none⟩, cap, by rw [hl2], by omega, ?_⟩, by rw [hl2]; unfold maxLen at hm; omega⟩
    right
    refine ⟨b, off, rfl, fun j l hj => ?_⟩
    have hjl : j < len := by
      have := (List.getElem?_eq_some_iff.1 hj).1
      omega
    rw [List.getElem?_map, List.getElem?_range hjl] at hj
    simp only [Option.map_some, Option.some.injEq] at hj
    subst hj
    exact hf j hjl

end Rg
end Go.Proofs.Ytonbjdiehbemjaa
