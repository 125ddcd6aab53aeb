/-
  handle: kindOf (written by mkhk.py).
-/
import Derived.Test.YtlfobdjbnpgchaaGreatDoorHnC
set_option linter.unusedVariables false
set_option linter.unusedSimpArgs false
set_option maxRecDepth 100000
namespace Go.Proofs.YtlfobdjbnpgchaaGreatDoor
open Go.RowKit Go.Shelf
namespace Hn
open Oc Tg _root_.Go.Proofs.YtlfobdjbnpgchaaGreatDoor.Fd _root_.Go.Proofs.YtlfobdjbnpgchaaGreatDoor.Ck _root_.Go.Proofs.YtlfobdjbnpgchaaGreatDoor.Ms

set_option maxHeartbeats 4000000 in
theorem kindOf_7 (w : World) : Calls Tryz.prog 36 #[.int .i64 7] w fun e w' => e = .returned (.agg #[fv 72, fv 73, fv 74]) ∧ Below w.heap.size w w' := by
  go_enter Tryz.func36, Tryz.ntmps36
  go_wp2_with (first | (refine kinds_stored w _ _ _ _ rfl rfl (.tmp 3) (.tmp 13) rfl rfl rfl rfl (fun W hb hk hr hs => ?_); have c3 := hk.cell 21 rfl; have c4 := hk.cell 22 rfl; have c5 := hk.cell 23 rfl; have r0 := hr.cell 0 rfl; have r1 := hr.cell 1 rfl; have r2 := hr.cell 2 rfl; have rf := hr.free; have HR : Hid (Blk 88 W w.heap.size [.nilFunc, .nilFunc, .nilFunc]) := hr; have HB : Hid (Below w.heap.size w W) := hb; clear hk hr hb) | fail)
  obtain ⟨W9, hW9⟩ : ∃ W9, W9 = set3 W w.heap.size (fv 72) (fv 73) (fv 74) := ⟨_, rfl⟩
  have hb9 : But [w.heap.size] W W9 := by rw [hW9]; exact set3_but W w.heap.size _ _ _
  have hB9 : Blk 88 W9 w.heap.size [fv 72, fv 73, fv 74] := by rw [hW9]; exact set3_blk HR.out _ _ _
  have HW9 : Hid (((W.setCell ⟨w.heap.size, 0, none⟩ (.func (.func 72) #[] #[])).setCell ⟨w.heap.size, 1, none⟩ (.func (.func 73) #[] #[])).setCell ⟨w.heap.size, 2, none⟩ (.func (.func 74) #[] #[]) = W9) := hW9.symm
  rw [HW9.out]
  clear r0 r1 r2 rf
  have q0 : W9.cell? ⟨w.heap.size, 0, none⟩ = some (.func (.func 72) #[] #[]) := hB9.cell 0 rfl
  have q1 : W9.cell? ⟨w.heap.size, 1, none⟩ = some (.func (.func 73) #[] #[]) := hB9.cell 1 rfl
  have q2 : W9.cell? ⟨w.heap.size, 2, none⟩ = some (.func (.func 74) #[] #[]) := hB9.cell 2 rfl
  have hl9 : Below w.heap.size w W9 := HB.out.trans (hb9.below (Nat.le_of_lt hs) (fun x hx => by simp at hx; omega))
  refine bodyPost_ret (v := .agg #[fv 72, fv 73, fv 74]) (by simp [results, Tryz.results36, go_sem, q0, q1, q2]) rfl ⟨rfl, hl9⟩

set_option maxHeartbeats 4000000 in
theorem kindOf_8 (w : World) : Calls Tryz.prog 36 #[.int .i64 8] w fun e w' => e = .returned (.agg #[fv 75, fv 76, fv 77]) ∧ Below w.heap.size w w' := by
  go_enter Tryz.func36, Tryz.ntmps36
  go_wp2_with (first | (refine kinds_stored w _ _ _ _ rfl rfl (.tmp 3) (.tmp 13) rfl rfl rfl rfl (fun W hb hk hr hs => ?_); have c3 := hk.cell 24 rfl; have c4 := hk.cell 25 rfl; have c5 := hk.cell 26 rfl; have r0 := hr.cell 0 rfl; have r1 := hr.cell 1 rfl; have r2 := hr.cell 2 rfl; have rf := hr.free; have HR : Hid (Blk 88 W w.heap.size [.nilFunc, .nilFunc, .nilFunc]) := hr; have HB : Hid (Below w.heap.size w W) := hb; clear hk hr hb) | fail)
  obtain ⟨W9, hW9⟩ : ∃ W9, W9 = set3 W w.heap.size (fv 75) (fv 76) (fv 77) := ⟨_, rfl⟩
  have hb9 : But [w.heap.size] W W9 := by rw [hW9]; exact set3_but W w.heap.size _ _ _
  have hB9 : Blk 88 W9 w.heap.size [fv 75, fv 76, fv 77] := by rw [hW9]; exact set3_blk HR.out _ _ _
  have HW9 : Hid (((W.setCell ⟨w.heap.size, 0, none⟩ (.func (.func 75) #[] #[])).setCell ⟨w.heap.size, 1, none⟩ (.func (.func 76) #[] #[])).setCell ⟨w.heap.size, 2, none⟩ (.func (.func 77) #[] #[]) = W9) := hW9.symm
  rw [HW9.out]
  clear r0 r1 r2 rf
  have q0 : W9.cell? ⟨w.heap.size, 0, none⟩ = some (.func (.func 75) #[] #[]) := hB9.cell 0 rfl
  have q1 : W9.cell? ⟨w.heap.size, 1, none⟩ = some (.func (.func 76) #[] #[]) := hB9.cell 1 rfl
  have q2 : W9.cell? ⟨w.heap.size, 2, none⟩ = some (.func (.func 77) #[] #[]) := hB9.cell 2 rfl
  have hl9 : Below w.heap.size w W9 := HB.out.trans (hb9.below (Nat.le_of_lt hs) (fun x hx => by simp at hx; omega))
  refine bodyPost_ret (v := .agg #[fv 75, fv 76, fv 77]) (by simp [results, Tryz.results36, go_sem, q0, q1, q2]) rfl ⟨rfl, hl9⟩

set_option maxHeartbeats 4000000 in
theorem kindOf_9 (w : World) : Calls Tryz.prog 36 #[.int .i64 9] w fun e w' => e = .returned (.agg #[fv 65, fv 66, fv 78]) ∧ Below w.heap.size w w' := by
  go_enter Tryz.func36, Tryz.ntmps36
  go_wp2_with (first | (refine kinds_stored w _ _ _ _ rfl rfl (.tmp 3) (.tmp 13) rfl rfl rfl rfl (fun W hb hk hr hs => ?_); have c3 := hk.cell 27 rfl; have c4 := hk.cell 28 rfl; have c5 := hk.cell 29 rfl; have r0 := hr.cell 0 rfl; have r1 := hr.cell 1 rfl; have r2 := hr.cell 2 rfl; have rf := hr.free; have HR : Hid (Blk 88 W w.heap.size [.nilFunc, .nilFunc, .nilFunc]) := hr; have HB : Hid (Below w.heap.size w W) := hb; clear hk hr hb) | fail)
  obtain ⟨W9, hW9⟩ : ∃ W9, W9 = set3 W w.heap.size (fv 65) (fv 66) (fv 78) := ⟨_, rfl⟩
  have hb9 : But [w.heap.size] W W9 := by rw [hW9]; exact set3_but W w.heap.size _ _ _
  have hB9 : Blk 88 W9 w.heap.size [fv 65, fv 66, fv 78] := by rw [hW9]; exact set3_blk HR.out _ _ _
  have HW9 : Hid (((W.setCell ⟨w.heap.size, 0, none⟩ (.func (.func 65) #[] #[])).setCell ⟨w.heap.size, 1, none⟩ (.func (.func 66) #[] #[])).setCell ⟨w.heap.size, 2, none⟩ (.func (.func 78) #[] #[]) = W9) := hW9.symm
  rw [HW9.out]
  clear r0 r1 r2 rf
  have q0 : W9.cell? ⟨w.heap.size, 0, none⟩ = some (.func (.func 65) #[] #[]) := hB9.cell 0 rfl
  have q1 : W9.cell? ⟨w.heap.size, 1, none⟩ = some (.func (.func 66) #[] #[]) := hB9.cell 1 rfl
  have q2 : W9.cell? ⟨w.heap.size, 2, none⟩ = some (.func (.func 78) #[] #[]) := hB9.cell 2 rfl
  have hl9 : Below w.heap.size w W9 := HB.out.trans (hb9.below (Nat.le_of_lt hs) (fun x hx => by simp at hx; omega))
  refine bodyPost_ret (v := .agg #[fv 65, fv 66, fv 78]) (by simp [results, Tryz.results36, go_sem, q0, q1, q2]) rfl ⟨rfl, hl9⟩

end Hn
end Go.Proofs.YtlfobdjbnpgchaaGreatDoor
