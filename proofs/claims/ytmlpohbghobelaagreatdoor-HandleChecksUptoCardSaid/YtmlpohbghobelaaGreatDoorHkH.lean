/-
  handle: kindOf beyond the table (written by mkhk.py).
-/
import Derived.Test.YtmlpohbghobelaaGreatDoorHnC
set_option linter.unusedVariables false
set_option linter.unusedSimpArgs false
set_option maxRecDepth 100000
namespace Go.Proofs.YtmlpohbghobelaaGreatDoor
open Go.RowKit Go.Shelf
namespace Hn
open Oc Tg _root_.Go.Proofs.YtmlpohbghobelaaGreatDoor.Fd _root_.Go.Proofs.YtmlpohbghobelaaGreatDoor.Ck _root_.Go.Proofs.YtmlpohbghobelaaGreatDoor.Ms

set_option maxHeartbeats 4000000 in
theorem kindOf_0 (w : World) : Calls Tryz.prog 12 #[.int .i64 0] w fun e w' => e = .returned (.agg #[.nilFunc, .nilFunc, .nilFunc]) ∧ Below w.heap.size w w' := by
  go_enter Tryz.func12, Tryz.ntmps12
  go_wp2_with (first | (refine kinds_stored w _ _ _ _ rfl rfl (.tmp 3) (.tmp 13) rfl rfl rfl rfl (fun W hb hk hr hs => ?_); have c3 := hk.cell 0 rfl; have c4 := hk.cell 1 rfl; have c5 := hk.cell 2 rfl; have r0 := hr.cell 0 rfl; have r1 := hr.cell 1 rfl; have r2 := hr.cell 2 rfl; have rf := hr.free; have HR : Hid (Blk 49 W w.heap.size [.nilFunc, .nilFunc, .nilFunc]) := hr; have HB : Hid (Below w.heap.size w W) := hb; clear hk hr hb) | fail)
  obtain ⟨W9, hW9⟩ : ∃ W9, W9 = set3 W w.heap.size (.nilFunc) (.nilFunc) (.nilFunc) := ⟨_, rfl⟩
  have hb9 : But [w.heap.size] W W9 := by rw [hW9]; exact set3_but W w.heap.size _ _ _
  have hB9 : Blk 49 W9 w.heap.size [.nilFunc, .nilFunc, .nilFunc] := by rw [hW9]; exact set3_blk HR.out _ _ _
  have HW9 : Hid (((W.setCell ⟨w.heap.size, 0, none⟩ (.nilFunc)).setCell ⟨w.heap.size, 1, none⟩ (.nilFunc)).setCell ⟨w.heap.size, 2, none⟩ (.nilFunc) = W9) := hW9.symm
  rw [HW9.out]
  clear r0 r1 r2 rf
  have q0 : W9.cell? ⟨w.heap.size, 0, none⟩ = some (.nilFunc) := hB9.cell 0 rfl
  have q1 : W9.cell? ⟨w.heap.size, 1, none⟩ = some (.nilFunc) := hB9.cell 1 rfl
  have q2 : W9.cell? ⟨w.heap.size, 2, none⟩ = some (.nilFunc) := hB9.cell 2 rfl
  have hl9 : Below w.heap.size w W9 := HB.out.trans (hb9.below (Nat.le_of_lt hs) (fun x hx => by simp at hx; omega))
  refine bodyPost_ret (v := .agg #[.nilFunc, .nilFunc, .nilFunc]) (by simp [results, Tryz.results12, go_sem, q0, q1, q2]) rfl ⟨rfl, hl9⟩

set_option maxHeartbeats 4000000 in
theorem kindOf_out (n : Int) (h : n < 0 ∨ 10 ≤ n) (w : World) : Calls Tryz.prog 12 #[.int .i64 n] w fun e w' => e = .returned (.agg #[.nilFunc, .nilFunc, .nilFunc]) ∧ Below w.heap.size w w' := by
  by_cases h0 : n < 0
  · clear h
    go_enter Tryz.func12, Tryz.ntmps12
    go_wp2_with (first | (refine kinds_stored w _ _ _ _ rfl rfl (.tmp 3) (.tmp 13) rfl rfl rfl rfl (fun W hb hk hr hs => ?_); have r0 := hr.cell 0 rfl; have r1 := hr.cell 1 rfl; have r2 := hr.cell 2 rfl; have rf := hr.free; have HR : Hid (Blk 49 W w.heap.size [.nilFunc, .nilFunc, .nilFunc]) := hr; have HB : Hid (Below w.heap.size w W) := hb; clear hk hr hb) | fail)
    obtain ⟨W9, hW9⟩ : ∃ W9, W9 = set3 W w.heap.size (.nilFunc) (.nilFunc) (.nilFunc) := ⟨_, rfl⟩
    have hb9 : But [w.heap.size] W W9 := by rw [hW9]; exact set3_but W w.heap.size _ _ _
    have hB9 : Blk 49 W9 w.heap.size [.nilFunc, .nilFunc, .nilFunc] := by rw [hW9]; exact set3_blk HR.out _ _ _
    have HW9 : Hid (((W.setCell ⟨w.heap.size, 0, none⟩ (.nilFunc)).setCell ⟨w.heap.size, 1, none⟩ (.nilFunc)).setCell ⟨w.heap.size, 2, none⟩ (.nilFunc) = W9) := hW9.symm
    rw [HW9.out]
    clear r0 r1 r2 rf
    have q0 : W9.cell? ⟨w.heap.size, 0, none⟩ = some (.nilFunc) := hB9.cell 0 rfl
    have q1 : W9.cell? ⟨w.heap.size, 1, none⟩ = some (.nilFunc) := hB9.cell 1 rfl
    have q2 : W9.cell? ⟨w.heap.size, 2, none⟩ = some (.nilFunc) := hB9.cell 2 rfl
    have hl9 : Below w.heap.size w W9 := HB.out.trans (hb9.below (Nat.le_of_lt hs) (fun x hx => by simp at hx; omega))
    refine bodyPost_ret (v := .agg #[.nilFunc, .nilFunc, .nilFunc]) (by simp [results, Tryz.results12, go_sem, q0, q1, q2]) rfl ⟨rfl, hl9⟩
  · have h1 : 10 ≤ n := by omega
    clear h
    go_enter Tryz.func12, Tryz.ntmps12
    go_wp2_with (first | (refine kinds_stored w _ _ _ _ rfl rfl (.tmp 3) (.tmp 13) rfl rfl rfl rfl (fun W hb hk hr hs => ?_); have r0 := hr.cell 0 rfl; have r1 := hr.cell 1 rfl; have r2 := hr.cell 2 rfl; have rf := hr.free; have HR : Hid (Blk 49 W w.heap.size [.nilFunc, .nilFunc, .nilFunc]) := hr; have HB : Hid (Below w.heap.size w W) := hb; clear hk hr hb) | fail)
    obtain ⟨W9, hW9⟩ : ∃ W9, W9 = set3 W w.heap.size (.nilFunc) (.nilFunc) (.nilFunc) := ⟨_, rfl⟩
    have hb9 : But [w.heap.size] W W9 := by rw [hW9]; exact set3_but W w.heap.size _ _ _
    have hB9 : Blk 49 W9 w.heap.size [.nilFunc, .nilFunc, .nilFunc] := by rw [hW9]; exact set3_blk HR.out _ _ _
    have HW9 : Hid (((W.setCell ⟨w.heap.size, 0, none⟩ (.nilFunc)).setCell ⟨w.heap.size, 1, none⟩ (.nilFunc)).setCell ⟨w.heap.size, 2, none⟩ (.nilFunc) = W9) := hW9.symm
    rw [HW9.out]
    clear r0 r1 r2 rf
    have q0 : W9.cell? ⟨w.heap.size, 0, none⟩ = some (.nilFunc) := hB9.cell 0 rfl
    have q1 : W9.cell? ⟨w.heap.size, 1, none⟩ = some (.nilFunc) := hB9.cell 1 rfl
    have q2 : W9.cell? ⟨w.heap.size, 2, none⟩ = some (.nilFunc) := hB9.cell 2 rfl
    have hl9 : Below w.heap.size w W9 := HB.out.trans (hb9.below (Nat.le_of_lt hs) (fun x hx => by simp at hx; omega))
    refine bodyPost_ret (v := .agg #[.nilFunc, .nilFunc, .nilFunc]) (by simp [results, Tryz.results12, go_sem, q0, q1, q2]) rfl ⟨rfl, hl9⟩

end Hn
end Go.Proofs.YtmlpohbghobelaaGreatDoor
