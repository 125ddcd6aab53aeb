/-
  handle: HandleChecks (written by mkhk.py).
-/
import Derived.Test.YtmlpohbghobelaaGreatDoorMgN
import Derived.Test.YtmlpohbghobelaaGreatDoorMgS
import Derived.Test.YtmlpohbghobelaaGreatDoorHkK
set_option linter.unusedVariables false
set_option linter.unusedSimpArgs false
set_option maxRecDepth 100000
namespace Go.Proofs.YtmlpohbghobelaaGreatDoor
open Go.RowKit Go.Shelf
namespace Hn
open Oc Tg _root_.Go.Proofs.YtmlpohbghobelaaGreatDoor.Fd _root_.Go.Proofs.YtmlpohbghobelaaGreatDoor.Ck _root_.Go.Proofs.YtmlpohbghobelaaGreatDoor.Ms

set_option maxHeartbeats 1000000 in
theorem handler18_any (k st n : Int) (nm tx md : ByteArray) (w : World) : Calls Tryz.prog 8 #[.agg #[.int .i64 k, .string nm, .string tx, .string md, .int .i64 st, .int .i64 n]] w fun e w' => e = .returned (.agg #[.int .i64 k, .string nm, .string tx, .string md, .int .i64 st, .int .i64 n]) ∧ Below w.heap.size w w' := by
  go_enter Tryz.func8, Tryz.ntmps8
  go_wp2
  refine bodyPost_ret (v := .agg #[.int .i64 k, .string nm, .string tx, .string md, .int .i64 st, .int .i64 n]) (by simp [results, Tryz.results8, go_sem]) rfl ⟨rfl, ?_⟩
  exact ((Below.refl _ w).alloc (Nat.le_refl _) _).alloc (by simp) _

set_option maxHeartbeats 4000000 in
theorem walk_HandleChecks (k st n : Int) (nm tx md : ByteArray) (hs : nm.size + tx.size + md.size ≤ 1048576) (w : World) (tb : Tab w) :
    Calls Tryz.prog 3 #[.agg #[.int .i64 k, .string nm, .string tx, .string md, .int .i64 st, .int .i64 n]] w fun e w' => e = .returned (.bool true) ∧ Below w.heap.size w w' := by
  obtain ⟨w1, hw1⟩ : ∃ w1, w1 = w.alloc (.cells #[.int .i64 k, .string nm, .string tx, .string md, .int .i64 st, .int .i64 n] 23) := ⟨_, rfl⟩
  have hb1 : Below w.heap.size w w1 := by rw [hw1]; exact (Below.refl _ w).alloc (Nat.le_refl _) _
  have hR1 : Blk 23 w1 w.heap.size [.int .i64 k, .string nm, .string tx, .string md, .int .i64 st, .int .i64 n] := by rw [hw1]; exact heap_alloc_new w _
  have HR1 : Hid (Blk 23 w1 w.heap.size [.int .i64 k, .string nm, .string tx, .string md, .int .i64 st, .int .i64 n]) := hR1
  have HB1 : Hid (Below w.heap.size w w1) := hb1
  have HW1 : Hid (w1 = _) := hw1
  have HA : Hid (∀ W, Calls Tryz.prog 5 #[] W fun e w' => e = .returned (.bool true) ∧ Below W.heap.size W w') := fun W => awake_any W
  have HC : Hid (∀ W, Below w1.heap.size w1 W → Calls Tryz.prog 6 #[.agg #[.int .i64 k, .string nm, .string tx, .string md, .int .i64 st, .int .i64 n]] W fun e w' => e = .returned (.int .i64 (chkI k st n nm tx md)) ∧ Below W.heap.size W w') := fun W h => Check_any k st n nm tx md (by omega) (by omega) (by omega) W ((tb.below HB1.out (Nat.le_refl _)).below h (Nat.le_refl _))
  have HH : Hid (∀ W, Calls Tryz.prog 8 #[.agg #[.int .i64 k, .string nm, .string tx, .string md, .int .i64 st, .int .i64 n]] W fun e w' => e = .returned (.agg #[.int .i64 k, .string nm, .string tx, .string md, .int .i64 st, .int .i64 n]) ∧ Below W.heap.size W w') := fun W => handler18_any k st n nm tx md W
  have HD : Hid (∀ W, Calls Tryz.prog 7 #[.agg #[.int .i64 k, .string nm, .string tx, .string md, .int .i64 st, .int .i64 n]] W fun e w' => e = .returned (.int .i64 (chkI k st n nm tx md)) ∧ Below W.heap.size W w') := fun W => rCheck_any k st n nm tx md (by omega) (by omega) (by omega) W
  clear hw1 hb1 hR1
  have k0 : ∀ p : BelBy w1, p.to.cell? ⟨w.heap.size, 0, none⟩ = some (.int .i64 k) := fun p => (HR1.out.below p.bel).cell 0 rfl
  have k1 : ∀ p : BelBy w1, p.to.cell? ⟨w.heap.size, 1, none⟩ = some (.string nm) := fun p => (HR1.out.below p.bel).cell 1 rfl
  have k2 : ∀ p : BelBy w1, p.to.cell? ⟨w.heap.size, 2, none⟩ = some (.string tx) := fun p => (HR1.out.below p.bel).cell 2 rfl
  have k3 : ∀ p : BelBy w1, p.to.cell? ⟨w.heap.size, 3, none⟩ = some (.string md) := fun p => (HR1.out.below p.bel).cell 3 rfl
  have k4 : ∀ p : BelBy w1, p.to.cell? ⟨w.heap.size, 4, none⟩ = some (.int .i64 st) := fun p => (HR1.out.below p.bel).cell 4 rfl
  have k5 : ∀ p : BelBy w1, p.to.cell? ⟨w.heap.size, 5, none⟩ = some (.int .i64 n) := fun p => (HR1.out.below p.bel).cell 5 rfl
  have inh : Nonempty (BelBy w1) := ⟨⟨w1, Below.refl _ w1⟩⟩
  generalize chkI k st n nm tx md = Y at *
  go_enter Tryz.func3, Tryz.ntmps3
  go_wp2_with fail
  rw [← HW1.out]
  refine wp_region_bel mixB (by kernel_rfl) ?_
  iterate 10 (quiet_step (first | (go_at_call 5; exact Calls.bel_of (HA.out _)) | (go_at_call 6; exact Calls.bel_of (HC.out _ (BelBy.bel _))) | (go_at_call 8; exact Calls.bel_of (HH.out _)) | (go_at_call 7; exact Calls.bel_of (HD.out _))))
  refine wpQuiet_nil ?_
  rintro _ ⟨pq, rfl⟩
  have HB9 : Hid (Below w.heap.size w pq.to) := bel_tr HB1.out pq.bel HB1.out.size
  generalize pq.to = w9 at *
  clear k0 k1 k2 k3 k4 k5 inh
  go_wp2
  refine bodyPost_ret (v := .bool true) (by simp [results, Tryz.results3, go_sem]) rfl ⟨rfl, HB9.out⟩

end Hn
end Go.Proofs.YtmlpohbghobelaaGreatDoor
