/-
  handle: kindOf (written by mkhk.py).
-/
import Derived.Test.YtmlpohbghobelaaGreatDoorHnC
set_option linter.unusedVariables false
set_option linter.unusedSimpArgs false
set_option maxRecDepth 100000
namespace Go.Proofs.YtmlpohbghobelaaGreatDoor
open Go.RowKit Go.Shelf
namespace Hn
open Oc Tg _root_.Go.Proofs.YtmlpohbghobelaaGreatDoor.Fd _root_.Go.Proofs.YtmlpohbghobelaaGreatDoor.Ck _root_.Go.Proofs.YtmlpohbghobelaaGreatDoor.Ms

set_option maxHeartbeats 4000000 in
theorem kindOf_2 (w : World) : Calls Tryz.prog 12 #[.int .i64 2] w fun e w' => e = .returned (.agg #[fv 23, fv 24, fv 25]) ∧ Below w.heap.size w w' := by
  go_enter Tryz.func12, Tryz.ntmps12
  go_wp2_with (first | (refine kinds_stored w _ _ _ _ rfl rfl (.tmp 3) (.tmp 13) rfl rfl rfl rfl (fun W hb hk hr hs => ?_); have c3 := hk.cell 6 rfl; have c4 := hk.cell 7 rfl; have c5 := hk.cell 8 rfl; have r0 := hr.cell 0 rfl; have r1 := hr.cell 1 rfl; have r2 := hr.cell 2 rfl; have rf := hr.free; have HR : Hid (Blk 49 W w.heap.size [.nilFunc, .nilFunc, .nilFunc]) := hr; have HB : Hid (Below w.heap.size w W) := hb; clear hk hr hb) | fail)
  obtain ⟨W9, hW9⟩ : ∃ W9, W9 = set3 W w.heap.size (fv 23) (fv 24) (fv 25) := ⟨_, rfl⟩
  have hb9 : But [w.heap.size] W W9 := by rw [hW9]; exact set3_but W w.heap.size _ _ _
  have hB9 : Blk 49 W9 w.heap.size [fv 23, fv 24, fv 25] := by rw [hW9]; exact set3_blk HR.out _ _ _
  have HW9 : Hid (((W.setCell ⟨w.heap.size, 0, none⟩ (.func (.func 23) #[] #[])).setCell ⟨w.heap.size, 1, none⟩ (.func (.func 24) #[] #[])).setCell ⟨w.heap.size, 2, none⟩ (.func (.func 25) #[] #[]) = W9) := hW9.symm
  rw [HW9.out]
  clear r0 r1 r2 rf
  have q0 : W9.cell? ⟨w.heap.size, 0, none⟩ = some (.func (.func 23) #[] #[]) := hB9.cell 0 rfl
  have q1 : W9.cell? ⟨w.heap.size, 1, none⟩ = some (.func (.func 24) #[] #[]) := hB9.cell 1 rfl
  have q2 : W9.cell? ⟨w.heap.size, 2, none⟩ = some (.func (.func 25) #[] #[]) := hB9.cell 2 rfl
  have hl9 : Below w.heap.size w W9 := HB.out.trans (hb9.below (Nat.le_of_lt hs) (fun x hx => by simp at hx; omega))
  refine bodyPost_ret (v := .agg #[fv 23, fv 24, fv 25]) (by simp [results, Tryz.results12, go_sem, q0, q1, q2]) rfl ⟨rfl, hl9⟩

set_option maxHeartbeats 4000000 in
theorem kindOf_3 (w : World) : Calls Tryz.prog 12 #[.int .i64 3] w fun e w' => e = .returned (.agg #[fv 26, fv 27, fv 28]) ∧ Below w.heap.size w w' := by
  go_enter Tryz.func12, Tryz.ntmps12
  go_wp2_with (first | (refine kinds_stored w _ _ _ _ rfl rfl (.tmp 3) (.tmp 13) rfl rfl rfl rfl (fun W hb hk hr hs => ?_); have c3 := hk.cell 9 rfl; have c4 := hk.cell 10 rfl; have c5 := hk.cell 11 rfl; have r0 := hr.cell 0 rfl; have r1 := hr.cell 1 rfl; have r2 := hr.cell 2 rfl; have rf := hr.free; have HR : Hid (Blk 49 W w.heap.size [.nilFunc, .nilFunc, .nilFunc]) := hr; have HB : Hid (Below w.heap.size w W) := hb; clear hk hr hb) | fail)
  obtain ⟨W9, hW9⟩ : ∃ W9, W9 = set3 W w.heap.size (fv 26) (fv 27) (fv 28) := ⟨_, rfl⟩
  have hb9 : But [w.heap.size] W W9 := by rw [hW9]; exact set3_but W w.heap.size _ _ _
  have hB9 : Blk 49 W9 w.heap.size [fv 26, fv 27, fv 28] := by rw [hW9]; exact set3_blk HR.out _ _ _
  have HW9 : Hid (((W.setCell ⟨w.heap.size, 0, none⟩ (.func (.func 26) #[] #[])).setCell ⟨w.heap.size, 1, none⟩ (.func (.func 27) #[] #[])).setCell ⟨w.heap.size, 2, none⟩ (.func (.func 28) #[] #[]) = W9) := hW9.symm
  rw [HW9.out]
  clear r0 r1 r2 rf
  have q0 : W9.cell? ⟨w.heap.size, 0, none⟩ = some (.func (.func 26) #[] #[]) := hB9.cell 0 rfl
  have q1 : W9.cell? ⟨w.heap.size, 1, none⟩ = some (.func (.func 27) #[] #[]) := hB9.cell 1 rfl
  have q2 : W9.cell? ⟨w.heap.size, 2, none⟩ = some (.func (.func 28) #[] #[]) := hB9.cell 2 rfl
  have hl9 : Below w.heap.size w W9 := HB.out.trans (hb9.below (Nat.le_of_lt hs) (fun x hx => by simp at hx; omega))
  refine bodyPost_ret (v := .agg #[fv 26, fv 27, fv 28]) (by simp [results, Tryz.results12, go_sem, q0, q1, q2]) rfl ⟨rfl, hl9⟩

set_option maxHeartbeats 4000000 in
theorem kindOf_5 (w : World) : Calls Tryz.prog 12 #[.int .i64 5] w fun e w' => e = .returned (.agg #[fv 29, fv 30, fv 32]) ∧ Below w.heap.size w w' := by
  go_enter Tryz.func12, Tryz.ntmps12
  go_wp2_with (first | (refine kinds_stored w _ _ _ _ rfl rfl (.tmp 3) (.tmp 13) rfl rfl rfl rfl (fun W hb hk hr hs => ?_); have c3 := hk.cell 15 rfl; have c4 := hk.cell 16 rfl; have c5 := hk.cell 17 rfl; have r0 := hr.cell 0 rfl; have r1 := hr.cell 1 rfl; have r2 := hr.cell 2 rfl; have rf := hr.free; have HR : Hid (Blk 49 W w.heap.size [.nilFunc, .nilFunc, .nilFunc]) := hr; have HB : Hid (Below w.heap.size w W) := hb; clear hk hr hb) | fail)
  obtain ⟨W9, hW9⟩ : ∃ W9, W9 = set3 W w.heap.size (fv 29) (fv 30) (fv 32) := ⟨_, rfl⟩
  have hb9 : But [w.heap.size] W W9 := by rw [hW9]; exact set3_but W w.heap.size _ _ _
  have hB9 : Blk 49 W9 w.heap.size [fv 29, fv 30, fv 32] := by rw [hW9]; exact set3_blk HR.out _ _ _
  have HW9 : Hid (((W.setCell ⟨w.heap.size, 0, none⟩ (.func (.func 29) #[] #[])).setCell ⟨w.heap.size, 1, none⟩ (.func (.func 30) #[] #[])).setCell ⟨w.heap.size, 2, none⟩ (.func (.func 32) #[] #[]) = W9) := hW9.symm
  rw [HW9.out]
  clear r0 r1 r2 rf
  have q0 : W9.cell? ⟨w.heap.size, 0, none⟩ = some (.func (.func 29) #[] #[]) := hB9.cell 0 rfl
  have q1 : W9.cell? ⟨w.heap.size, 1, none⟩ = some (.func (.func 30) #[] #[]) := hB9.cell 1 rfl
  have q2 : W9.cell? ⟨w.heap.size, 2, none⟩ = some (.func (.func 32) #[] #[]) := hB9.cell 2 rfl
  have hl9 : Below w.heap.size w W9 := HB.out.trans (hb9.below (Nat.le_of_lt hs) (fun x hx => by simp at hx; omega))
  refine bodyPost_ret (v := .agg #[fv 29, fv 30, fv 32]) (by simp [results, Tryz.results12, go_sem, q0, q1, q2]) rfl ⟨rfl, hl9⟩

set_option maxHeartbeats 4000000 in
theorem kindOf_6 (w : World) : Calls Tryz.prog 12 #[.int .i64 6] w fun e w' => e = .returned (.agg #[fv 33, fv 34, fv 35]) ∧ Below w.heap.size w w' := by
  go_enter Tryz.func12, Tryz.ntmps12
  go_wp2_with (first | (refine kinds_stored w _ _ _ _ rfl rfl (.tmp 3) (.tmp 13) rfl rfl rfl rfl (fun W hb hk hr hs => ?_); have c3 := hk.cell 18 rfl; have c4 := hk.cell 19 rfl; have c5 := hk.cell 20 rfl; have r0 := hr.cell 0 rfl; have r1 := hr.cell 1 rfl; have r2 := hr.cell 2 rfl; have rf := hr.free; have HR : Hid (Blk 49 W w.heap.size [.nilFunc, .nilFunc, .nilFunc]) := hr; have HB : Hid (Below w.heap.size w W) := hb; clear hk hr hb) | fail)
  obtain ⟨W9, hW9⟩ : ∃ W9, W9 = set3 W w.heap.size (fv 33) (fv 34) (fv 35) := ⟨_, rfl⟩
  have hb9 : But [w.heap.size] W W9 := by rw [hW9]; exact set3_but W w.heap.size _ _ _
  have hB9 : Blk 49 W9 w.heap.size [fv 33, fv 34, fv 35] := by rw [hW9]; exact set3_blk HR.out _ _ _
  have HW9 : Hid (((W.setCell ⟨w.heap.size, 0, none⟩ (.func (.func 33) #[] #[])).setCell ⟨w.heap.size, 1, none⟩ (.func (.func 34) #[] #[])).setCell ⟨w.heap.size, 2, none⟩ (.func (.func 35) #[] #[]) = W9) := hW9.symm
  rw [HW9.out]
  clear r0 r1 r2 rf
  have q0 : W9.cell? ⟨w.heap.size, 0, none⟩ = some (.func (.func 33) #[] #[]) := hB9.cell 0 rfl
  have q1 : W9.cell? ⟨w.heap.size, 1, none⟩ = some (.func (.func 34) #[] #[]) := hB9.cell 1 rfl
  have q2 : W9.cell? ⟨w.heap.size, 2, none⟩ = some (.func (.func 35) #[] #[]) := hB9.cell 2 rfl
  have hl9 : Below w.heap.size w W9 := HB.out.trans (hb9.below (Nat.le_of_lt hs) (fun x hx => by simp at hx; omega))
  refine bodyPost_ret (v := .agg #[fv 33, fv 34, fv 35]) (by simp [results, Tryz.results12, go_sem, q0, q1, q2]) rfl ⟨rfl, hl9⟩

end Hn
end Go.Proofs.YtmlpohbghobelaaGreatDoor
