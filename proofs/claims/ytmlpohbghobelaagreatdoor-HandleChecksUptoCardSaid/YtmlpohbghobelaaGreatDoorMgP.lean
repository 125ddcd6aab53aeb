/- Several texts as one. -/
import Derived.Test.YtmlpohbghobelaaGreatDoorMgO
import Derived.Test.YtmlpohbghobelaaGreatDoorQBel
/-
  handle: equal handlers (written by mkhk.py).
-/
set_option linter.unusedVariables false
set_option linter.unusedSimpArgs false
set_option maxRecDepth 100000
namespace Go.Proofs.YtmlpohbghobelaaGreatDoor
open Go.RowKit Go.Shelf
namespace Hn
open Oc Tg _root_.Go.Proofs.YtmlpohbghobelaaGreatDoor.Fd _root_.Go.Proofs.YtmlpohbghobelaaGreatDoor.Ck _root_.Go.Proofs.YtmlpohbghobelaaGreatDoor.Ms

set_option maxHeartbeats 1000000 in
theorem eq_hand (k k' st st' n n' : Int) (nm nm' tx tx' md md' : ByteArray) (W : World) : (binOp .eql 23 (.agg #[.int .i64 k, .string nm, .string tx, .string md, .int .i64 st, .int .i64 n]) (.agg #[.int .i64 k', .string nm', .string tx', .string md', .int .i64 st', .int .i64 n'])).run Tryz.prog W = .ok (.bool ((k == k') && (nm.toList == nm'.toList) && (tx.toList == tx'.toList) && (md.toList == md'.toList) && (st == st') && (n == n'))) W := by
  go_simp
  repeat' split
  all_goals simp_all
/-- The same, veiled: the walk takes what is said of it. -/
def eqH (x y : Value) : Sem Value := binOp .eql 23 x y
theorem eqH_eq (x y : Value) : binOp .eql 23 x y = eqH x y := rfl

end Hn
end Go.Proofs.YtmlpohbghobelaaGreatDoor

/-
  handle: a kind of none; Check (written by mkhk.py).
-/
set_option linter.unusedVariables false
set_option linter.unusedSimpArgs false
set_option maxRecDepth 100000
namespace Go.Proofs.YtmlpohbghobelaaGreatDoor
open Go.RowKit Go.Shelf
namespace Hn
open Oc Tg _root_.Go.Proofs.YtmlpohbghobelaaGreatDoor.Fd _root_.Go.Proofs.YtmlpohbghobelaaGreatDoor.Ck _root_.Go.Proofs.YtmlpohbghobelaaGreatDoor.Ms

theorem neq_nil (W : World) : (binOp .neq 45 .nilFunc .nilFunc).run Tryz.prog W = .ok (.bool false) W := by
  have h0 : ∀ d, (Op.equalIn (d + 1) 45 .nilFunc .nilFunc).run Tryz.prog W = .ok true W := fun d => by
    simp [Op.equalIn, run_underlying Tryz.underlying45]
  have h1 : (Op.equal 45 .nilFunc .nilFunc).run Tryz.prog W = .ok true W := h0 9999
  simp only [binOp]
  simp [h1]

set_option maxHeartbeats 4000000 in
theorem takes_nil (k st n : Int) (nm tx md : ByteArray) (w : World) : Calls Tryz.prog 13 #[.agg #[.nilFunc, .nilFunc, .nilFunc], .agg #[.int .i64 k, .string nm, .string tx, .string md, .int .i64 st, .int .i64 n]] w fun e w' => e = .returned (.bool false) ∧ Below w.heap.size w w' := by
  obtain ⟨w1, hw1⟩ : ∃ w1, w1 = w.alloc (.cells #[.nilFunc, .nilFunc, .nilFunc] 49) := ⟨_, rfl⟩
  have hb1 : Below w.heap.size w w1 := by rw [hw1]; exact (Below.refl _ w).alloc (Nat.le_refl _) _
  have hs1 : w1.heap.size = w.heap.size + 1 := by rw [hw1]; simp
  have hK1 : Blk 49 w1 w.heap.size [.nilFunc, .nilFunc, .nilFunc] := by rw [hw1]; exact heap_alloc_new w _
  obtain ⟨w2, hw2⟩ : ∃ w2, w2 = w1.alloc (.cells #[.int .i64 k, .string nm, .string tx, .string md, .int .i64 st, .int .i64 n] 23) := ⟨_, rfl⟩
  have hb2 : Below w1.heap.size w1 w2 := by rw [hw2]; exact (Below.refl _ w1).alloc (Nat.le_refl _) _
  have hK2 : Blk 49 w2 w.heap.size [.nilFunc, .nilFunc, .nilFunc] := hK1.below hb2
  have HB2 : Hid (Below w.heap.size w w2) := bel_tr hb1 hb2 (by omega)
  have HW2 : Hid (w2 = (w.alloc (.cells #[.nilFunc, .nilFunc, .nilFunc] 49)).alloc (.cells #[.int .i64 k, .string nm, .string tx, .string md, .int .i64 st, .int .i64 n] 23)) := (by rw [hw2, hw1] : _ = _)
  have HK2 : Hid (Blk 49 w2 w.heap.size [.nilFunc, .nilFunc, .nilFunc]) := hK2
  have hnf := neq_nil
  have k2 : ∀ p : BelBy w2, p.to.cell? ⟨w.heap.size, 2, none⟩ = some .nilFunc := fun p => (HK2.out.below p.bel).cell 2 rfl
  have inh : Nonempty (BelBy w2) := ⟨⟨w2, Below.refl _ w2⟩⟩
  clear hw1 hw2 hb1 hb2 hs1 hK1 hK2
  go_enter Tryz.func13, Tryz.ntmps13
  go_wp2_with fail
  rw [← HW2.out]
  refine wp_region_bel mixB (by kernel_rfl) ?_
  iterate 4 (quiet_step (fail))
  iterate 6 (with_reducible (refine wpQuiet_step (fun K hK => ?_)); go_simp; (with_reducible refine hK _ ?_); clear hK K)
  iterate 2 (quiet_step (fail))
  iterate 4 (with_reducible (refine wpQuiet_step (fun K hK => ?_)); go_simp; (with_reducible refine hK _ ?_); clear hK K)
  iterate 2 (quiet_step (fail))
  refine wpQuiet_nil ?_
  rintro _ ⟨pq, rfl⟩
  have HB9 : Hid (Below w.heap.size w pq.to) := bel_tr HB2.out pq.bel HB2.out.size
  generalize pq.to = w9 at *
  clear k2 inh
  go_wp2
  refine bodyPost_ret (v := .bool false) (by simp [results, Tryz.results13, go_sem]) rfl ⟨rfl, HB9.out⟩

set_option maxHeartbeats 4000000 in
theorem Check_gen (k st n : Int) (nm tx md : ByteArray) (K : Value) (b : Bool) (w : World) (hK : ∀ W, Calls Tryz.prog 12 #[.int .i64 k] W fun e w' => e = .returned K ∧ Below W.heap.size W w') (hT : ∀ W, Below w.heap.size w W → Calls Tryz.prog 13 #[K, .agg #[.int .i64 k, .string nm, .string tx, .string md, .int .i64 st, .int .i64 n]] W fun e w' => e = .returned (.bool b) ∧ Below W.heap.size W w') :
    Calls Tryz.prog 6 #[.agg #[.int .i64 k, .string nm, .string tx, .string md, .int .i64 st, .int .i64 n]] w fun e w' => e = .returned (.int .i64 (if b = true then 0 else 180)) ∧ Below w.heap.size w w' := by
  obtain ⟨w1, hw1⟩ : ∃ w1, w1 = w.alloc (.cells #[.int .i64 k, .string nm, .string tx, .string md, .int .i64 st, .int .i64 n] 23) := ⟨_, rfl⟩
  have hb1 : Below w.heap.size w w1 := by rw [hw1]; exact (Below.refl _ w).alloc (Nat.le_refl _) _
  have hR1 : Blk 23 w1 w.heap.size [.int .i64 k, .string nm, .string tx, .string md, .int .i64 st, .int .i64 n] := by rw [hw1]; exact heap_alloc_new w _
  have HR1 : Hid (Blk 23 w1 w.heap.size [.int .i64 k, .string nm, .string tx, .string md, .int .i64 st, .int .i64 n]) := hR1
  have HB1 : Hid (Below w.heap.size w w1) := hb1
  have HW1 : Hid (w1 = _) := hw1
  have HKd : Hid (∀ W, Calls Tryz.prog 12 #[.int .i64 k] W fun e w' => e = .returned K ∧ Below W.heap.size W w') := hK
  have HTk : Hid (∀ W, Below w1.heap.size w1 W → Calls Tryz.prog 13 #[K, .agg #[.int .i64 k, .string nm, .string tx, .string md, .int .i64 st, .int .i64 n]] W fun e w' => e = .returned (.bool b) ∧ Below W.heap.size W w') := fun W h => hT W (bel_tr HB1.out h HB1.out.size)
  clear hw1 hb1 hR1 hK hT
  have k0 : ∀ p : BelBy w1, p.to.cell? ⟨w.heap.size, 0, none⟩ = some (.int .i64 k) := fun p => (HR1.out.below p.bel).cell 0 rfl
  have k1 : ∀ p : BelBy w1, p.to.cell? ⟨w.heap.size, 1, none⟩ = some (.string nm) := fun p => (HR1.out.below p.bel).cell 1 rfl
  have k2 : ∀ p : BelBy w1, p.to.cell? ⟨w.heap.size, 2, none⟩ = some (.string tx) := fun p => (HR1.out.below p.bel).cell 2 rfl
  have k3 : ∀ p : BelBy w1, p.to.cell? ⟨w.heap.size, 3, none⟩ = some (.string md) := fun p => (HR1.out.below p.bel).cell 3 rfl
  have k4 : ∀ p : BelBy w1, p.to.cell? ⟨w.heap.size, 4, none⟩ = some (.int .i64 st) := fun p => (HR1.out.below p.bel).cell 4 rfl
  have k5 : ∀ p : BelBy w1, p.to.cell? ⟨w.heap.size, 5, none⟩ = some (.int .i64 n) := fun p => (HR1.out.below p.bel).cell 5 rfl
  have inh : Nonempty (BelBy w1) := ⟨⟨w1, Below.refl _ w1⟩⟩
  cases b with
  | false =>
    go_enter Tryz.func6, Tryz.ntmps6
    go_wp2_with fail
    rw [← HW1.out]
    refine wp_region_bel mixB (by kernel_rfl) ?_
    iterate 6 (quiet_step (first | (go_at_call 12; exact Calls.bel_of (HKd.out _)) | (go_at_call 13; exact Calls.bel_of (HTk.out _ (BelBy.bel _)))))
    refine wpQuiet_nil ?_
    rintro _ ⟨pq, rfl⟩
    have HB9 : Hid (Below w.heap.size w pq.to) := bel_tr HB1.out pq.bel HB1.out.size
    generalize pq.to = w9 at *
    clear k0 k1 k2 k3 k4 k5 inh
    go_wp2
    refine bodyPost_ret (v := .int .i64 180) (by simp [results, Tryz.results6, go_sem]) rfl ⟨rfl, HB9.out⟩
  | true =>
    go_enter Tryz.func6, Tryz.ntmps6
    go_wp2_with fail
    rw [← HW1.out]
    refine wp_region_bel mixB (by kernel_rfl) ?_
    iterate 6 (quiet_step (first | (go_at_call 12; exact Calls.bel_of (HKd.out _)) | (go_at_call 13; exact Calls.bel_of (HTk.out _ (BelBy.bel _)))))
    refine wpQuiet_nil ?_
    rintro _ ⟨pq, rfl⟩
    have HB9 : Hid (Below w.heap.size w pq.to) := bel_tr HB1.out pq.bel HB1.out.size
    generalize pq.to = w9 at *
    clear k0 k1 k2 k3 k4 k5 inh
    go_wp2
    refine bodyPost_ret (v := .int .i64 0) (by simp [results, Tryz.results6, go_sem]) rfl ⟨rfl, HB9.out⟩

end Hn
end Go.Proofs.YtmlpohbghobelaaGreatDoor
