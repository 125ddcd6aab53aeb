/-
  ring: a script opened, by its bulk.
-/
import Derived.Test.YtclciccgcegpmaaRows
import Derived.Test.YtclciccgcegpmaaMgF
set_option linter.unusedVariables false
set_option linter.unusedSimpArgs false
namespace Go.Proofs.Ytclciccgcegpmaa
open Go.ChangeShapes Go.WideShapes Go.ChangeAt Go.RowKit
namespace Rg

theorem bulk_pos {H : Type} (d : DataW H) : 1 ≤ Rows.uptoBulk d := by
  cases d with
  | lit l => cases l <;> simp [Rows.uptoBulk]
  | _ => simp [Rows.uptoBulk]
theorem bulk_len {H : Type} : ∀ ds : List (DataW H), ds.length ≤ Rows.uptoBulkAll ds
  | [] => by simp
  | d :: ds => by
    have := bulk_len ds
    have := bulk_pos d
    simp only [Rows.uptoBulkAll, List.length_cons]
    omega
theorem bulk_mem {H : Type} : ∀ {ds : List (DataW H)} {d : DataW H}, d ∈ ds → Rows.uptoBulk d ≤ Rows.uptoBulkAll ds
  | d0 :: ds, d, hd => by
    simp only [Rows.uptoBulkAll]
    rcases List.mem_cons.1 hd with rfl | hd
    · omega
    · have := bulk_mem hd
      omega

set_option maxRecDepth 100000 in
theorem read_b2 {H : Type} {enc : TypeId × Value → H} {W : World} {fuel : Nat} {cs : List Value} {x : DataW H × List MemPlace} (hf : DataW.trod enc Try.prog W 0 (fun _ => true) true fuel 25 cs = some x) :
    ∃ v l, cs = [v] ∧ RdB W v l ∧ l.length ≤ Rows.uptoBulk x.1 := by
  rcases open_ints Try.underlying25 Try.underlying5 cellsB hf with ⟨rfl, hx⟩ | ⟨a, len, cap, zs, rfl, _, hl, hm, hz, hx, hcell, hwz⟩
  · exact ⟨_, [], rfl, RdB.nil _, by simp⟩
  · simp only [if_true] at hz
    have hlen : ((zs.take len).map fun z => UInt8.ofNat z.toNat).length = len := by simp; omega
    refine ⟨_, (zs.take len).map fun z => UInt8.ofNat z.toNat, rfl, ⟨some a, cap, by rw [hlen], by omega, (fun e => by cases e), ?_⟩, ?_⟩
    · by_cases c : len = 0
      · left
        exact List.eq_nil_of_length_eq_zero (by omega)
      · right
        obtain ⟨b, off, rfl, hc2⟩ := ints_at hcell (by omega)
        refine ⟨b, off, rfl, fun j x hj => ?_⟩
        have hjl : j < len := by
          have := (List.getElem?_eq_some_iff.1 hj).1
          omega
        rw [hc2 j (by omega)]
        rw [List.getElem?_map, List.getElem?_take_of_lt hjl, List.getElem?_eq_getElem (by omega)] at hj
        have hb := byte_wf (hwz _ (List.getElem_mem (show j < zs.length by omega)))
        simp only [Option.map_some, Option.some.injEq] at hj
        subst hj
        simp only [List.getD, List.getElem?_eq_getElem (show j < zs.length by omega), Option.getD_some]
        congr 2
        simp only [UInt8.toNat_ofNat']
        omega
    · rw [hlen, hx]
      simp only [Rows.uptoBulk]
      have h1 := bulk_len (lits .u8 (zs.take len) : List (DataW H))
      simp only [lits, List.length_map, List.length_take] at h1
      simp only [lits]
      omega

set_option maxRecDepth 100000 in
theorem opened_op2 {H : Type} {enc : TypeId × Value → H} {W : World} {v : Value} {d : DataW H} {p : List MemPlace} {base : Nat} (hok : Value.okWide Try.prog W .any base 22 v)
    (h0 : DataW.Trod enc Try.prog W 0 (fun _ => true) true 22 v d p) (hbk : Rows.uptoBulk d ≤ 1048576) : ∃ os : List Op, RdO W v os ∧ os.length ≤ 1048576 ∧ ∀ o ∈ os, o.p.length ≤ 1048576 := by
  obtain ⟨a0, len, cap, rfl⟩ := okWide_slice Try.underlying22 hok
  obtain ⟨fuel, hf⟩ := h0
  have cb : Try.prog.cellsOf 25 = 1 := by kernel_rfl
  have ci : Try.prog.cellsOf 3 = 1 := by kernel_rfl
  rcases DataW.trod_slice Try.underlying22 hf with ⟨hcs, hx⟩ | ⟨a, len', cap', elems, rest, n, _, hcs, hx, hb, hl, hm, hlen, hel, _, _⟩
  · simp [Value.cells] at hcs
    obtain ⟨rfl, rfl, rfl⟩ := hcs
    exact ⟨[], ⟨none, 0, rfl, Nat.le_refl _, .inl rfl⟩, by simp, by simp⟩
  · simp [Value.cells] at hcs
    obtain ⟨rfl, rfl, rfl⟩ := hcs
    simp only [Prod.mk.injEq] at hx
    obtain ⟨rfl, rfl⟩ := hx
    by_cases c : len = 0
    · exact ⟨[], ⟨some a, cap, by rw [c]; rfl, by simp, .inl rfl⟩, by simp, by simp⟩
    obtain ⟨b, off, spot⟩ := a
    have hspot : spot = none := by
      have h1 := hel 0 (by omega)
      have hy : elems[0]? = some elems[0] := List.getElem?_eq_getElem (by omega)
      rw [hy, cellsO, Option.bind_eq_some_iff] at h1
      obtain ⟨cs, hcs, ht⟩ := h1
      obtain ⟨_, hl4, hcell⟩ := World.cells?_some hcs
      have k0 := hcell 0 (by omega)
      rw [List.getElem?_eq_getElem (by omega)] at k0
      simpa [Addr.add] using World.cell?_spot k0
    subst hspot
    have each : ∀ i, ∃ x : Op, i < len → (∃ u, OpAt W b (off + i * 4) x u) ∧ x.p.length ≤ 1048576 := by
      intro i
      by_cases hi : i < len
      · have h1 := hel i hi
        have hy : elems[i]? = some elems[i] := List.getElem?_eq_getElem (by omega)
        rw [hy, cellsO, Option.bind_eq_some_iff] at h1
        obtain ⟨cs, hcs, ht⟩ := h1
        obtain ⟨ys, m, _, hx, hl4, hy4, hfs⟩ := DataW.trod_struct Try.underlying32 ht
        rw [cellsO] at hl4
        have hcell := (World.cells?_some hcs).2.2
        have t0 := hfs 0 _ rfl
        have t1 := hfs 1 _ rfl
        have t2 := hfs 2 _ rfl
        have t3 := hfs 3 _ rfl
        match cs, hl4 with
        | [x0, x1, x2, x3], _ =>
          match ys, hy4 with
          | [y0, y1, y2, y3], _ =>
            simp [ci, cb] at t0 t1 t2 t3
            obtain ⟨m0, e0, q0, w0⟩ := DataW.trod_int Try.underlying3 t0
            obtain ⟨m1, e1, q1, w1⟩ := DataW.trod_int Try.underlying3 t1
            obtain ⟨m2, e2, q2, w2⟩ := DataW.trod_int Try.underlying3 t2
            obtain ⟨v, l, e3, r1, r2⟩ := read_b2 t3
            have hb1 : Rows.uptoBulk elems[i].1 ≤ 1048576 := by
              have := bulk_mem (d := elems[i].1) (ds := elems.map (·.1)) (List.mem_map_of_mem (List.getElem_mem _))
              simp only [Rows.uptoBulk] at hbk
              omega
            have hb2 : l.length ≤ 1048576 := by
              rw [hx] at hb1
              simp [Rows.uptoBulk, Rows.uptoBulkAll] at hb1
              omega
            have r2 : l.length ≤ 140737488351232 := by omega
            simp at e0 e1 e2 e3
            subst e0 e1 e2 e3
            have k0 := hcell 0 (by omega)
            have k1 := hcell 1 (by omega)
            have k2 := hcell 2 (by omega)
            have k3 := hcell 3 (by omega)
            rw [Go.WideShapes.add_plain, Go.WideShapes.add_plain] at k0 k1 k2 k3
            obtain ⟨z0, z0'⟩ := int_wf w0
            obtain ⟨z1, z1'⟩ := int_wf w1
            obtain ⟨z2, z2'⟩ := int_wf w2
            exact ⟨⟨m0, m1, m2, l⟩, fun _ => ⟨⟨_, ⟨k0, k1, k2, k3, r1, z0, z0', z1, z1', z2, z2', r2⟩⟩, hb2⟩⟩
      · exact ⟨⟨0, 0, 0, []⟩, fun h => absurd h hi⟩
    obtain ⟨f, hf⟩ := Classical.axiomOfChoice each
    have hl2 : ((List.range len).map f).length = len := by simp
    have hle : len ≤ 1048576 := by
      have h1 := bulk_len (elems.map (·.1))
      simp only [Rows.uptoBulk] at hbk
      rw [List.length_map] at h1
      omega
    refine ⟨(List.range len).map f, ⟨some ⟨b, off, none⟩, cap, by rw [hl2], by omega, ?_⟩, by rw [hl2]; exact hle, fun o ho => ?_⟩
    case refine_2 =>
      obtain ⟨j, hj, rfl⟩ := List.mem_map.1 ho
      exact (hf j (List.mem_range.1 hj)).2
    right
    refine ⟨b, off, rfl, fun j l hj => ?_⟩
    have hjl : j < len := by
      have := (List.getElem?_eq_some_iff.1 hj).1
      omega
    rw [List.getElem?_map, List.getElem?_range hjl] at hj
    simp only [Option.map_some, Option.some.injEq] at hj
    subst hj
    exact (hf j hjl).1

end Rg
end Go.Proofs.Ytclciccgcegpmaa
