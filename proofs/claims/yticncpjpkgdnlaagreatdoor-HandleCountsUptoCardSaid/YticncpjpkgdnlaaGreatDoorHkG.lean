/-
  handle: kindOf (written by mkhk.py).
-/
import Derived.Test.YticncpjpkgdnlaaGreatDoorHnC
set_option linter.unusedVariables false
set_option linter.unusedSimpArgs false
set_option maxRecDepth 100000
namespace Go.Proofs.YticncpjpkgdnlaaGreatDoor
open Go.RowKit Go.Shelf
namespace Hn
open Oc Tg _root_.Go.Proofs.YticncpjpkgdnlaaGreatDoor.Fd _root_.Go.Proofs.YticncpjpkgdnlaaGreatDoor.Ck _root_.Go.Proofs.YticncpjpkgdnlaaGreatDoor.Ms

set_option maxHeartbeats 4000000 in
theorem kindOf_7 (w : World) : Calls Tryz.prog 9 #[.int .i64 7] w fun e w' => e = .returned (.agg #[fv 30, fv 31, fv 32]) ∧ Below w.heap.size w w' := by
  go_enter Tryz.func9, Tryz.ntmps9
  go_wp2_with (first | (refine kinds_stored w _ _ _ _ rfl rfl (.tmp 3) (.tmp 13) rfl rfl rfl rfl (fun W hb hk hr hs => ?_); have c3 := hk.cell 21 rfl; have c4 := hk.cell 22 rfl; have c5 := hk.cell 23 rfl; have r0 := hr.cell 0 rfl; have r1 := hr.cell 1 rfl; have r2 := hr.cell 2 rfl; have rf := hr.free; have HR : Hid (Blk 47 W w.heap.size [.nilFunc, .nilFunc, .nilFunc]) := hr; have HB : Hid (Below w.heap.size w W) := hb; clear hk hr hb) | fail)
  obtain ⟨W9, hW9⟩ : ∃ W9, W9 = set3 W w.heap.size (fv 30) (fv 31) (fv 32) := ⟨_, rfl⟩
  have hb9 : But [w.heap.size] W W9 := by rw [hW9]; exact set3_but W w.heap.size _ _ _
  have hB9 : Blk 47 W9 w.heap.size [fv 30, fv 31, fv 32] := by rw [hW9]; exact set3_blk HR.out _ _ _
  have HW9 : Hid (((W.setCell ⟨w.heap.size, 0, none⟩ (.func (.func 30) #[] #[])).setCell ⟨w.heap.size, 1, none⟩ (.func (.func 31) #[] #[])).setCell ⟨w.heap.size, 2, none⟩ (.func (.func 32) #[] #[]) = W9) := hW9.symm
  rw [HW9.out]
  clear r0 r1 r2 rf
  have q0 : W9.cell? ⟨w.heap.size, 0, none⟩ = some (.func (.func 30) #[] #[]) := hB9.cell 0 rfl
  have q1 : W9.cell? ⟨w.heap.size, 1, none⟩ = some (.func (.func 31) #[] #[]) := hB9.cell 1 rfl
  have q2 : W9.cell? ⟨w.heap.size, 2, none⟩ = some (.func (.func 32) #[] #[]) := hB9.cell 2 rfl
  have hl9 : Below w.heap.size w W9 := HB.out.trans (hb9.below (Nat.le_of_lt hs) (fun x hx => by simp at hx; omega))
  refine bodyPost_ret (v := .agg #[fv 30, fv 31, fv 32]) (by simp [results, Tryz.results9, go_sem, q0, q1, q2]) rfl ⟨rfl, hl9⟩

set_option maxHeartbeats 4000000 in
theorem kindOf_8 (w : World) : Calls Tryz.prog 9 #[.int .i64 8] w fun e w' => e = .returned (.agg #[fv 33, fv 34, fv 35]) ∧ Below w.heap.size w w' := by
  go_enter Tryz.func9, Tryz.ntmps9
  go_wp2_with (first | (refine kinds_stored w _ _ _ _ rfl rfl (.tmp 3) (.tmp 13) rfl rfl rfl rfl (fun W hb hk hr hs => ?_); have c3 := hk.cell 24 rfl; have c4 := hk.cell 25 rfl; have c5 := hk.cell 26 rfl; have r0 := hr.cell 0 rfl; have r1 := hr.cell 1 rfl; have r2 := hr.cell 2 rfl; have rf := hr.free; have HR : Hid (Blk 47 W w.heap.size [.nilFunc, .nilFunc, .nilFunc]) := hr; have HB : Hid (Below w.heap.size w W) := hb; clear hk hr hb) | fail)
  obtain ⟨W9, hW9⟩ : ∃ W9, W9 = set3 W w.heap.size (fv 33) (fv 34) (fv 35) := ⟨_, rfl⟩
  have hb9 : But [w.heap.size] W W9 := by rw [hW9]; exact set3_but W w.heap.size _ _ _
  have hB9 : Blk 47 W9 w.heap.size [fv 33, fv 34, fv 35] := by rw [hW9]; exact set3_blk HR.out _ _ _
  have HW9 : Hid (((W.setCell ⟨w.heap.size, 0, none⟩ (.func (.func 33) #[] #[])).setCell ⟨w.heap.size, 1, none⟩ (.func (.func 34) #[] #[])).setCell ⟨w.heap.size, 2, none⟩ (.func (.func 35) #[] #[]) = W9) := hW9.symm
  rw [HW9.out]
  clear r0 r1 r2 rf
  have q0 : W9.cell? ⟨w.heap.size, 0, none⟩ = some (.func (.func 33) #[] #[]) := hB9.cell 0 rfl
  have q1 : W9.cell? ⟨w.heap.size, 1, none⟩ = some (.func (.func 34) #[] #[]) := hB9.cell 1 rfl
  have q2 : W9.cell? ⟨w.heap.size, 2, none⟩ = some (.func (.func 35) #[] #[]) := hB9.cell 2 rfl
  have hl9 : Below w.heap.size w W9 := HB.out.trans (hb9.below (Nat.le_of_lt hs) (fun x hx => by simp at hx; omega))
  refine bodyPost_ret (v := .agg #[fv 33, fv 34, fv 35]) (by simp [results, Tryz.results9, go_sem, q0, q1, q2]) rfl ⟨rfl, hl9⟩

set_option maxHeartbeats 4000000 in
theorem kindOf_9 (w : World) : Calls Tryz.prog 9 #[.int .i64 9] w fun e w' => e = .returned (.agg #[fv 23, fv 24, fv 36]) ∧ Below w.heap.size w w' := by
  go_enter Tryz.func9, Tryz.ntmps9
  go_wp2_with (first | (refine kinds_stored w _ _ _ _ rfl rfl (.tmp 3) (.tmp 13) rfl rfl rfl rfl (fun W hb hk hr hs => ?_); have c3 := hk.cell 27 rfl; have c4 := hk.cell 28 rfl; have c5 := hk.cell 29 rfl; have r0 := hr.cell 0 rfl; have r1 := hr.cell 1 rfl; have r2 := hr.cell 2 rfl; have rf := hr.free; have HR : Hid (Blk 47 W w.heap.size [.nilFunc, .nilFunc, .nilFunc]) := hr; have HB : Hid (Below w.heap.size w W) := hb; clear hk hr hb) | fail)
  obtain ⟨W9, hW9⟩ : ∃ W9, W9 = set3 W w.heap.size (fv 23) (fv 24) (fv 36) := ⟨_, rfl⟩
  have hb9 : But [w.heap.size] W W9 := by rw [hW9]; exact set3_but W w.heap.size _ _ _
  have hB9 : Blk 47 W9 w.heap.size [fv 23, fv 24, fv 36] := by rw [hW9]; exact set3_blk HR.out _ _ _
  have HW9 : Hid (((W.setCell ⟨w.heap.size, 0, none⟩ (.func (.func 23) #[] #[])).setCell ⟨w.heap.size, 1, none⟩ (.func (.func 24) #[] #[])).setCell ⟨w.heap.size, 2, none⟩ (.func (.func 36) #[] #[]) = W9) := hW9.symm
  rw [HW9.out]
  clear r0 r1 r2 rf
  have q0 : W9.cell? ⟨w.heap.size, 0, none⟩ = some (.func (.func 23) #[] #[]) := hB9.cell 0 rfl
  have q1 : W9.cell? ⟨w.heap.size, 1, none⟩ = some (.func (.func 24) #[] #[]) := hB9.cell 1 rfl
  have q2 : W9.cell? ⟨w.heap.size, 2, none⟩ = some (.func (.func 36) #[] #[]) := hB9.cell 2 rfl
  have hl9 : Below w.heap.size w W9 := HB.out.trans (hb9.below (Nat.le_of_lt hs) (fun x hx => by simp at hx; omega))
  refine bodyPost_ret (v := .agg #[fv 23, fv 24, fv 36]) (by simp [results, Tryz.results9, go_sem, q0, q1, q2]) rfl ⟨rfl, hl9⟩

end Hn
end Go.Proofs.YticncpjpkgdnlaaGreatDoor
