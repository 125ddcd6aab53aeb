/-
  errors.As at sheet's targets; sheet.told.
-/
import Derived.Test.YtlnlhhobmgiceaaGreatDoorErA
import Derived.Laws.Cells
import Derived.Lib.Builder
import Derived.Lib.Builder
set_option linter.unusedVariables false
set_option linter.unusedSimpArgs false
namespace Go.Proofs.YtlnlhhobmgiceaaGreatDoor
open Go.RowKit Go.Extern.Stop Go.Stop Go.Extern
namespace Er

theorem partsFa (a : Addr) (w : World) : (ReflectliteValue.parts (.agg #[.pointer (some ⟨5, 120, none⟩), .pointer (some a), .int .u64 409])).run Tryz.prog w = .ok (some (120, a, 409)) w := by kernel_rfl
theorem partsF (a : Addr) (w : World) : (ReflectliteValue.parts (.agg #[.pointer (some ⟨5, 120, none⟩), .pointer (some a), .int .u64 153])).run Tryz.prog w = .ok (some (120, a, 153)) w := by kernel_rfl
theorem partsEa (a : Addr) (w : World) : (ReflectliteValue.parts (.agg #[.pointer (some ⟨5, 35, none⟩), .pointer (some a), .int .u64 386])).run Tryz.prog w = .ok (some (35, a, 386)) w := by kernel_rfl
theorem partsE (a : Addr) (w : World) : (ReflectliteValue.parts (.agg #[.pointer (some ⟨5, 35, none⟩), .pointer (some a), .int .u64 130])).run Tryz.prog w = .ok (some (35, a, 130)) w := by kernel_rfl
theorem directF (w : World) : (Rtype.directlyAssignable 120 120).run Tryz.prog w = .ok true w := by kernel_rfl
theorem directE (w : World) : (Rtype.directlyAssignable 35 35).run Tryz.prog w = .ok true w := by kernel_rfl
theorem setE (ta b : Addr) (n : Int) (old : Value) (W : World) (hb : W.cell? b = some (.int .i64 n)) (ht : W.cell? ta = some old) (hf : W.frozen? ta = false) :
    (ReflectliteValue.set #[.agg #[.pointer (some ⟨5, 35, none⟩), .pointer (some ta), .int .u64 386], .agg #[.pointer (some ⟨5, 35, none⟩), .pointer (some b), .int .u64 130]]).run Tryz.prog W
      = .ok (.tuple #[]) (W.setCell ta (.int .i64 n)) := by
  change (ReflectliteValue.parts (.agg #[.pointer (some ⟨5, 35, none⟩), .pointer (some ta), .int .u64 386]) >>= fun _ => ReflectliteValue.parts (.agg #[.pointer (some ⟨5, 35, none⟩), .pointer (some b), .int .u64 130]) >>= _).run Tryz.prog W = _
  simp only [Sem.run_bind, partsEa, partsE, Result.andThen]
  simp [ReflectliteValue.flagAddr, loadVar, isAgg, underlying, Tryz.underlying35, hb, Result.andThen, directE, storeVar, Value.cells, storeCells, Addr.add]
  rw [run_store Tryz.prog W ta _ _ (by rfl)]
  simp [ht, hf]
theorem setF (T R : Nat) (x y old1 old2 : Value) (W : World) (hx : x.oneCell' = true) (hy : y.oneCell' = true) (hb : W.heap[R]? = some (.cells #[x, y] 120 (0, 0))) (ht : W.heap[T]? = some (.cells #[old1, old2] 120 (0, 0))) :
    (ReflectliteValue.set #[.agg #[.pointer (some ⟨5, 120, none⟩), .pointer (some ⟨T, 0, none⟩), .int .u64 409], .agg #[.pointer (some ⟨5, 120, none⟩), .pointer (some ⟨R, 0, none⟩), .int .u64 153]]).run Tryz.prog W
      = .ok (.tuple #[]) ((W.setCell ⟨T, 0, none⟩ x).setCell ⟨T, 1, none⟩ y) := by
  change (ReflectliteValue.parts (.agg #[.pointer (some ⟨5, 120, none⟩), .pointer (some ⟨T, 0, none⟩), .int .u64 409]) >>= fun _ => ReflectliteValue.parts (.agg #[.pointer (some ⟨5, 120, none⟩), .pointer (some ⟨R, 0, none⟩), .int .u64 153]) >>= _).run Tryz.prog W = _
  simp only [Sem.run_bind, partsFa, partsF, Result.andThen]
  simp [ReflectliteValue.flagAddr, loadVar, isAgg, underlying, Tryz.underlying120, Result.andThen, directF, storeVar, Value.cells, storeCells, Addr.add]
  have h0 : W.cell? ⟨R, 0, none⟩ = some x := by rw [Lib.cell_of_heap hb]; rfl
  have h1 : W.cell? ⟨R, 1, none⟩ = some y := by rw [Lib.cell_of_heap hb]; rfl
  have hl : (loadCells ⟨R, 0, none⟩ 2).run Tryz.prog W = .ok #[x, y] W := by
    refine (run_loadCells_list (w := W) (P := Tryz.prog) ⟨R, 0, none⟩ [x, y] ?_)
    intro j v hj
    match j, hj with
    | 0, hj => simp at hj; subst hj; simpa [Addr.add] using h0
    | 1, hj => simp at hj; subst hj; simpa [Addr.add] using h1
  rw [hl]
  have t0 : W.cell? ⟨T, 0, none⟩ = some old1 := by rw [Lib.cell_of_heap ht]; rfl
  have t1 : W.cell? ⟨T, 1, none⟩ = some old2 := by rw [Lib.cell_of_heap ht]; rfl
  have f0 : W.frozen? ⟨T, 0, none⟩ = false := Lib.frozen_of_heap ht 0
  have f1 : W.frozen? ⟨T, 1, none⟩ = false := Lib.frozen_of_heap ht 1
  have ht' : (W.setCell ⟨T, 0, none⟩ x).heap[T]? = some (.cells #[x, old2] 120 (0, 0)) := by simp [World.setCell, Array.getElem?_modify, ht]
  have t1' : (W.setCell ⟨T, 0, none⟩ x).cell? ⟨T, 1, none⟩ = some old2 := by rw [Lib.cell_of_heap ht']; rfl
  have f1' : (W.setCell ⟨T, 0, none⟩ x).frozen? ⟨T, 1, none⟩ = false := Lib.frozen_of_heap ht' 1
  simp [storeCells, Addr.add, Result.andThen]
  rw [run_store Tryz.prog W _ _ _ hx]
  simp only [t0, f0]
  simp
  rw [run_store Tryz.prog _ _ _ _ hy]
  simp [t1', f1']

end Er
end Go.Proofs.YtlnlhhobmgiceaaGreatDoor
