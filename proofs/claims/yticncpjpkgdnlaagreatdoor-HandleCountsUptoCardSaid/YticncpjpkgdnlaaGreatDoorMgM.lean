/- Several texts as one. -/
import Derived.Test.YticncpjpkgdnlaaGreatDoorHkB
import Derived.Test.YticncpjpkgdnlaaGreatDoorQBel
import Derived.Test.YticncpjpkgdnlaaGreatDoorMgK
/-
  handle: equal handlers (written by mkhk.py).
-/
set_option linter.unusedVariables false
set_option linter.unusedSimpArgs false
set_option maxRecDepth 100000
namespace Go.Proofs.YticncpjpkgdnlaaGreatDoor
open Go.RowKit Go.Shelf
namespace Hn
open Oc Tg _root_.Go.Proofs.YticncpjpkgdnlaaGreatDoor.Fd _root_.Go.Proofs.YticncpjpkgdnlaaGreatDoor.Ck _root_.Go.Proofs.YticncpjpkgdnlaaGreatDoor.Ms

set_option maxHeartbeats 1000000 in
theorem eq_hand (k k' st st' n n' : Int) (nm nm' tx tx' md md' : ByteArray) (W : World) : (binOp .eql 39 (.agg #[.int .i64 k, .string nm, .string tx, .string md, .int .i64 st, .int .i64 n]) (.agg #[.int .i64 k', .string nm', .string tx', .string md', .int .i64 st', .int .i64 n'])).run Tryz.prog W = .ok (.bool ((k == k') && (nm.toList == nm'.toList) && (tx.toList == tx'.toList) && (md.toList == md'.toList) && (st == st') && (n == n'))) W := by
  go_simp
  repeat' split
  all_goals simp_all
/-- The same, veiled: the walk takes what is said of it. -/
def eqH (x y : Value) : Sem Value := binOp .eql 39 x y
theorem eqH_eq (x y : Value) : binOp .eql 39 x y = eqH x y := rfl

end Hn
end Go.Proofs.YticncpjpkgdnlaaGreatDoor

/-
  handle: takes of kind 8 (written by mkhk.py).
-/
set_option linter.unusedVariables false
set_option linter.unusedSimpArgs false
set_option maxRecDepth 100000
namespace Go.Proofs.YticncpjpkgdnlaaGreatDoor
open Go.RowKit Go.Shelf
namespace Hn
open Oc Tg _root_.Go.Proofs.YticncpjpkgdnlaaGreatDoor.Fd _root_.Go.Proofs.YticncpjpkgdnlaaGreatDoor.Ck _root_.Go.Proofs.YticncpjpkgdnlaaGreatDoor.Ms

theorem q8_eq (k st n : Int) (nm tx md : ByteArray) : ((k == k) && (nm.toList == nm.toList) && ((⟨#[]⟩ : ByteArray).toList == tx.toList) && ((⟨#[]⟩ : ByteArray).toList == md.toList) && ((0 : Int) == st) && ((0 : Int) == n)) = (E0 tx && (E0 md && ((st == 0) && (n == 0)))) := by
  have c : ∀ s : ByteArray, (s.toList == s.toList) = true := fun s => by simp
  have d : ∀ x : Int, ((0 : Int) == x) = (x == 0) := fun x => by rw [Bool.eq_iff_iff]; simp; omega
  simp only [emp_l, c, d, beq_self_eq_true, Bool.true_and, Bool.and_true, Bool.and_assoc]
attribute [local go_sem ↓] eqH_eq
set_option maxHeartbeats 4000000 in
theorem takes_8 (k st n : Int) (nm tx md : ByteArray) (hn : nm.size ≤ maxLen) (w : World) (tb : Tab w) : Calls Tryz.prog 10 #[.agg #[.func (.func 33) #[] #[], .func (.func 34) #[] #[], .func (.func 35) #[] #[]], .agg #[.int .i64 k, .string nm, .string tx, .string md, .int .i64 st, .int .i64 n]] w fun e w' => e = .returned (.bool ((E0 tx && (E0 md && ((st == 0) && (n == 0)))) && (isTok nm.data.toList))) ∧ Below w.heap.size w w' := by
  obtain ⟨w1, hw1⟩ : ∃ w1, w1 = w.alloc (.cells #[.func (.func 33) #[] #[], .func (.func 34) #[] #[], .func (.func 35) #[] #[]] 47) := ⟨_, rfl⟩
  have hb1 : Below w.heap.size w w1 := by rw [hw1]; exact (Below.refl _ w).alloc (Nat.le_refl _) _
  have hs1 : w1.heap.size = w.heap.size + 1 := by rw [hw1]; simp
  have hK1 : Blk 47 w1 w.heap.size [.func (.func 33) #[] #[], .func (.func 34) #[] #[], .func (.func 35) #[] #[]] := by rw [hw1]; exact heap_alloc_new w _
  obtain ⟨w2, hw2⟩ : ∃ w2, w2 = w1.alloc (.cells #[.int .i64 k, .string nm, .string tx, .string md, .int .i64 st, .int .i64 n] 39) := ⟨_, rfl⟩
  have hb2 : Below w1.heap.size w1 w2 := by rw [hw2]; exact (Below.refl _ w1).alloc (Nat.le_refl _) _
  have hH2 : Blk 39 w2 (w.heap.size + 1) [.int .i64 k, .string nm, .string tx, .string md, .int .i64 st, .int .i64 n] := by rw [hw2, ← hs1]; exact heap_alloc_new w1 _
  have hK2 : Blk 47 w2 w.heap.size [.func (.func 33) #[] #[], .func (.func 34) #[] #[], .func (.func 35) #[] #[]] := hK1.below hb2
  have HB2 : Hid (Below w.heap.size w w2) := bel_tr hb1 hb2 (by omega)
  have HW2 : Hid (w2 = (w.alloc (.cells #[.func (.func 33) #[] #[], .func (.func 34) #[] #[], .func (.func 35) #[] #[]] 47)).alloc (.cells #[.int .i64 k, .string nm, .string tx, .string md, .int .i64 st, .int .i64 n] 39)) := (by rw [hw2, hw1] : _ = _)
  have HK : Hid (∀ W, SBh w2 W → (W.cell? ⟨w.heap.size, 0, none⟩ = some (.func (.func 33) #[] #[]) ∧ W.cell? ⟨w.heap.size, 1, none⟩ = some (.func (.func 34) #[] #[]) ∧ W.cell? ⟨w.heap.size, 2, none⟩ = some (.func (.func 35) #[] #[]) ∧ W.cell? ⟨w.heap.size + 1, 0, none⟩ = some (.int .i64 k) ∧ W.cell? ⟨w.heap.size + 1, 1, none⟩ = some (.string nm) ∧ W.cell? ⟨w.heap.size + 1, 2, none⟩ = some (.string tx) ∧ W.cell? ⟨w.heap.size + 1, 3, none⟩ = some (.string md) ∧ W.cell? ⟨w.heap.size + 1, 4, none⟩ = some (.int .i64 st) ∧ W.cell? ⟨w.heap.size + 1, 5, none⟩ = some (.int .i64 n)) ∧ SBh w2 W) := fun W hW => by
    have a := hK2.below hW
    have b := hH2.below hW
    exact ⟨⟨a.cell 0 rfl, a.cell 1 rfl, a.cell 2 rfl, b.cell 0 rfl, b.cell 1 rfl, b.cell 2 rfl, b.cell 3 rfl, b.cell 4 rfl, b.cell 5 rfl⟩, hW⟩
  have HU : Hid (∀ W, Calls Tryz.prog 33 #[.agg #[.int .i64 k, .string nm, .string tx, .string md, .int .i64 st, .int .i64 n]] W fun e w' => e = .returned (.agg #[.int .i64 k, .string nm, .string ⟨#[]⟩, .string ⟨#[]⟩, .int .i64 0, .int .i64 0]) ∧ Below W.heap.size W w') := fun W => usedByCount_any k st n nm tx md W
  have HR : Hid (∀ W, SBh w2 W → Calls Tryz.prog 34 #[.agg #[.int .i64 k, .string nm, .string tx, .string md, .int .i64 st, .int .i64 n]] W fun e w' => e = .returned (.bool (isTok nm.data.toList)) ∧ Below W.heap.size W w') := fun W hW => by
    have h : Below w.heap.size w W := bel_tr HB2.out hW HB2.out.size
    exact isCount_any k st n nm tx md hn W (tb.below h (Nat.le_refl _))
  have hnf := fun W => neq_func 35 W
  have heq0 : ∀ W, (eqH _ _).run Tryz.prog W = _ := fun W => eq_hand k k 0 st 0 n nm nm ⟨#[]⟩ tx ⟨#[]⟩ md W
  rw [q8_eq k st n nm tx md] at heq0
  have HBn : Hid (SBh w2 w2) := SBh.refl w2
  clear hw1 hw2 hb1 hb2 hs1 hK1 hK2 hH2
  generalize (E0 tx && (E0 md && ((st == 0) && (n == 0)))) = q at *
  generalize (isTok nm.data.toList) = r at *
  have k0 : ∀ p : BelBy w2, p.to.cell? ⟨w.heap.size, 0, none⟩ = some (.func (.func 33) #[] #[]) := fun p => (HK.out _ p.bel).1.1
  have k1 : ∀ p : BelBy w2, p.to.cell? ⟨w.heap.size, 1, none⟩ = some (.func (.func 34) #[] #[]) := fun p => (HK.out _ p.bel).1.2.1
  have k2 : ∀ p : BelBy w2, p.to.cell? ⟨w.heap.size, 2, none⟩ = some (.func (.func 35) #[] #[]) := fun p => (HK.out _ p.bel).1.2.2.1
  have k3 : ∀ p : BelBy w2, p.to.cell? ⟨w.heap.size + 1, 0, none⟩ = some (.int .i64 k) := fun p => (HK.out _ p.bel).1.2.2.2.1
  have k4 : ∀ p : BelBy w2, p.to.cell? ⟨w.heap.size + 1, 1, none⟩ = some (.string nm) := fun p => (HK.out _ p.bel).1.2.2.2.2.1
  have k5 : ∀ p : BelBy w2, p.to.cell? ⟨w.heap.size + 1, 2, none⟩ = some (.string tx) := fun p => (HK.out _ p.bel).1.2.2.2.2.2.1
  have k6 : ∀ p : BelBy w2, p.to.cell? ⟨w.heap.size + 1, 3, none⟩ = some (.string md) := fun p => (HK.out _ p.bel).1.2.2.2.2.2.2.1
  have k7 : ∀ p : BelBy w2, p.to.cell? ⟨w.heap.size + 1, 4, none⟩ = some (.int .i64 st) := fun p => (HK.out _ p.bel).1.2.2.2.2.2.2.2.1
  have k8 : ∀ p : BelBy w2, p.to.cell? ⟨w.heap.size + 1, 5, none⟩ = some (.int .i64 n) := fun p => (HK.out _ p.bel).1.2.2.2.2.2.2.2.2
  have inh : Nonempty (BelBy w2) := ⟨⟨w2, Below.refl _ w2⟩⟩
  cases q with
  | false =>
    go_enter Tryz.func10, Tryz.ntmps10
    go_wp2_with fail
    rw [← HW2.out]
    refine wp_region_bel mixB (by kernel_rfl) ?_
    iterate 12 (quiet_step (first | (go_at_call 33; exact Calls.bel_of (HU.out _))))
    iterate 4 (with_reducible (refine wpQuiet_step (fun K hK => ?_)); go_simp; (with_reducible refine hK _ ?_); clear hK K)
    iterate 2 (quiet_step (fail))
    refine wpQuiet_nil ?_
    rintro _ ⟨pq, rfl⟩
    have HB9 : Hid (Below w.heap.size w pq.to) := bel_tr HB2.out pq.bel HB2.out.size
    generalize pq.to = w9 at *
    clear k0 k1 k2 k3 k4 k5 k6 k7 k8 inh HK HU HR
    go_wp2
    refine bodyPost_ret (v := .bool false) (by simp [results, Tryz.results10, go_sem]) rfl ⟨rfl, HB9.out⟩
  | true =>
    go_enter Tryz.func10, Tryz.ntmps10
    go_wp2_with fail
    rw [← HW2.out]
    refine wp_region_bel mixB (by kernel_rfl) ?_
    iterate 18 (quiet_step (first | (go_at_call 33; exact Calls.bel_of (HU.out _)) | (go_at_call 34; exact Calls.bel_of (HR.out _ (BelBy.bel _)))))
    refine wpQuiet_nil ?_
    rintro _ ⟨pq, rfl⟩
    have HB9 : Hid (Below w.heap.size w pq.to) := bel_tr HB2.out pq.bel HB2.out.size
    generalize pq.to = w9 at *
    clear k0 k1 k2 k3 k4 k5 k6 k7 k8 inh HK HU HR
    go_wp2
    refine bodyPost_ret (v := .bool r) (by simp [results, Tryz.results10, go_sem]) rfl ⟨by first | rfl | simp, HB9.out⟩

end Hn
end Go.Proofs.YticncpjpkgdnlaaGreatDoor

/-
  handle: kindOf (written by mkhk.py).
-/
set_option linter.unusedVariables false
set_option linter.unusedSimpArgs false
set_option maxRecDepth 100000
namespace Go.Proofs.YticncpjpkgdnlaaGreatDoor
open Go.RowKit Go.Shelf
namespace Hn
open Oc Tg _root_.Go.Proofs.YticncpjpkgdnlaaGreatDoor.Fd _root_.Go.Proofs.YticncpjpkgdnlaaGreatDoor.Ck _root_.Go.Proofs.YticncpjpkgdnlaaGreatDoor.Ms

set_option maxHeartbeats 4000000 in
theorem kindOf_7 (w : World) : Calls Tryz.prog 9 #[.int .i64 7] w fun e w' => e = .returned (.agg #[fv 30, fv 31, fv 32]) ∧ Below w.heap.size w w' := by
  go_enter Tryz.func9, Tryz.ntmps9
  go_wp2_with (first | (refine kinds_stored w _ _ _ _ rfl rfl (.tmp 3) (.tmp 13) rfl rfl rfl rfl (fun W hb hk hr hs => ?_); have c3 := hk.cell 21 rfl; have c4 := hk.cell 22 rfl; have c5 := hk.cell 23 rfl; have r0 := hr.cell 0 rfl; have r1 := hr.cell 1 rfl; have r2 := hr.cell 2 rfl; have rf := hr.free; have HR : Hid (Blk 47 W w.heap.size [.nilFunc, .nilFunc, .nilFunc]) := hr; have HB : Hid (Below w.heap.size w W) := hb; clear hk hr hb) | fail)
  obtain ⟨W9, hW9⟩ : ∃ W9, W9 = set3 W w.heap.size (fv 30) (fv 31) (fv 32) := ⟨_, rfl⟩
  have hb9 : But [w.heap.size] W W9 := by rw [hW9]; exact set3_but W w.heap.size _ _ _
  have hB9 : Blk 47 W9 w.heap.size [fv 30, fv 31, fv 32] := by rw [hW9]; exact set3_blk HR.out _ _ _
  have HW9 : Hid (((W.setCell ⟨w.heap.size, 0, none⟩ (.func (.func 30) #[] #[])).setCell ⟨w.heap.size, 1, none⟩ (.func (.func 31) #[] #[])).setCell ⟨w.heap.size, 2, none⟩ (.func (.func 32) #[] #[]) = W9) := hW9.symm
  rw [HW9.out]
  clear r0 r1 r2 rf
  have q0 : W9.cell? ⟨w.heap.size, 0, none⟩ = some (.func (.func 30) #[] #[]) := hB9.cell 0 rfl
  have q1 : W9.cell? ⟨w.heap.size, 1, none⟩ = some (.func (.func 31) #[] #[]) := hB9.cell 1 rfl
  have q2 : W9.cell? ⟨w.heap.size, 2, none⟩ = some (.func (.func 32) #[] #[]) := hB9.cell 2 rfl
  have hl9 : Below w.heap.size w W9 := HB.out.trans (hb9.below (Nat.le_of_lt hs) (fun x hx => by simp at hx; omega))
  refine bodyPost_ret (v := .agg #[fv 30, fv 31, fv 32]) (by simp [results, Tryz.results9, go_sem, q0, q1, q2]) rfl ⟨rfl, hl9⟩

set_option maxHeartbeats 4000000 in
theorem kindOf_8 (w : World) : Calls Tryz.prog 9 #[.int .i64 8] w fun e w' => e = .returned (.agg #[fv 33, fv 34, fv 35]) ∧ Below w.heap.size w w' := by
  go_enter Tryz.func9, Tryz.ntmps9
  go_wp2_with (first | (refine kinds_stored w _ _ _ _ rfl rfl (.tmp 3) (.tmp 13) rfl rfl rfl rfl (fun W hb hk hr hs => ?_); have c3 := hk.cell 24 rfl; have c4 := hk.cell 25 rfl; have c5 := hk.cell 26 rfl; have r0 := hr.cell 0 rfl; have r1 := hr.cell 1 rfl; have r2 := hr.cell 2 rfl; have rf := hr.free; have HR : Hid (Blk 47 W w.heap.size [.nilFunc, .nilFunc, .nilFunc]) := hr; have HB : Hid (Below w.heap.size w W) := hb; clear hk hr hb) | fail)
  obtain ⟨W9, hW9⟩ : ∃ W9, W9 = set3 W w.heap.size (fv 33) (fv 34) (fv 35) := ⟨_, rfl⟩
  have hb9 : But [w.heap.size] W W9 := by rw [hW9]; exact set3_but W w.heap.size _ _ _
  have hB9 : Blk 47 W9 w.heap.size [fv 33, fv 34, fv 35] := by rw [hW9]; exact set3_blk HR.out _ _ _
  have HW9 : Hid (((W.setCell ⟨w.heap.size, 0, none⟩ (.func (.func 33) #[] #[])).setCell ⟨w.heap.size, 1, none⟩ (.func (.func 34) #[] #[])).setCell ⟨w.heap.size, 2, none⟩ (.func (.func 35) #[] #[]) = W9) := hW9.symm
  rw [HW9.out]
  clear r0 r1 r2 rf
  have q0 : W9.cell? ⟨w.heap.size, 0, none⟩ = some (.func (.func 33) #[] #[]) := hB9.cell 0 rfl
  have q1 : W9.cell? ⟨w.heap.size, 1, none⟩ = some (.func (.func 34) #[] #[]) := hB9.cell 1 rfl
  have q2 : W9.cell? ⟨w.heap.size, 2, none⟩ = some (.func (.func 35) #[] #[]) := hB9.cell 2 rfl
  have hl9 : Below w.heap.size w W9 := HB.out.trans (hb9.below (Nat.le_of_lt hs) (fun x hx => by simp at hx; omega))
  refine bodyPost_ret (v := .agg #[fv 33, fv 34, fv 35]) (by simp [results, Tryz.results9, go_sem, q0, q1, q2]) rfl ⟨rfl, hl9⟩

set_option maxHeartbeats 4000000 in
theorem kindOf_9 (w : World) : Calls Tryz.prog 9 #[.int .i64 9] w fun e w' => e = .returned (.agg #[fv 23, fv 24, fv 36]) ∧ Below w.heap.size w w' := by
  go_enter Tryz.func9, Tryz.ntmps9
  go_wp2_with (first | (refine kinds_stored w _ _ _ _ rfl rfl (.tmp 3) (.tmp 13) rfl rfl rfl rfl (fun W hb hk hr hs => ?_); have c3 := hk.cell 27 rfl; have c4 := hk.cell 28 rfl; have c5 := hk.cell 29 rfl; have r0 := hr.cell 0 rfl; have r1 := hr.cell 1 rfl; have r2 := hr.cell 2 rfl; have rf := hr.free; have HR : Hid (Blk 47 W w.heap.size [.nilFunc, .nilFunc, .nilFunc]) := hr; have HB : Hid (Below w.heap.size w W) := hb; clear hk hr hb) | fail)
  obtain ⟨W9, hW9⟩ : ∃ W9, W9 = set3 W w.heap.size (fv 23) (fv 24) (fv 36) := ⟨_, rfl⟩
  have hb9 : But [w.heap.size] W W9 := by rw [hW9]; exact set3_but W w.heap.size _ _ _
  have hB9 : Blk 47 W9 w.heap.size [fv 23, fv 24, fv 36] := by rw [hW9]; exact set3_blk HR.out _ _ _
  have HW9 : Hid (((W.setCell ⟨w.heap.size, 0, none⟩ (.func (.func 23) #[] #[])).setCell ⟨w.heap.size, 1, none⟩ (.func (.func 24) #[] #[])).setCell ⟨w.heap.size, 2, none⟩ (.func (.func 36) #[] #[]) = W9) := hW9.symm
  rw [HW9.out]
  clear r0 r1 r2 rf
  have q0 : W9.cell? ⟨w.heap.size, 0, none⟩ = some (.func (.func 23) #[] #[]) := hB9.cell 0 rfl
  have q1 : W9.cell? ⟨w.heap.size, 1, none⟩ = some (.func (.func 24) #[] #[]) := hB9.cell 1 rfl
  have q2 : W9.cell? ⟨w.heap.size, 2, none⟩ = some (.func (.func 36) #[] #[]) := hB9.cell 2 rfl
  have hl9 : Below w.heap.size w W9 := HB.out.trans (hb9.below (Nat.le_of_lt hs) (fun x hx => by simp at hx; omega))
  refine bodyPost_ret (v := .agg #[fv 23, fv 24, fv 36]) (by simp [results, Tryz.results9, go_sem, q0, q1, q2]) rfl ⟨rfl, hl9⟩

end Hn
end Go.Proofs.YticncpjpkgdnlaaGreatDoor
