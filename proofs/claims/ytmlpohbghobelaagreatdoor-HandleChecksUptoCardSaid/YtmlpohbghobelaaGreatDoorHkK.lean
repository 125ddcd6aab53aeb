/-
  handle: the document: Check (written by mkhk.py).
-/
import Derived.Test.YtmlpohbghobelaaGreatDoorHkJ
import Derived.Test.YtmlpohbghobelaaGreatDoorHrG
import Derived.Test.YtmlpohbghobelaaGreatDoorMgO
set_option linter.unusedVariables false
set_option linter.unusedSimpArgs false
set_option maxRecDepth 100000
namespace Go.Proofs.YtmlpohbghobelaaGreatDoor
open Go.RowKit Go.Shelf
namespace Hn
open Oc Tg _root_.Go.Proofs.YtmlpohbghobelaaGreatDoor.Fd _root_.Go.Proofs.YtmlpohbghobelaaGreatDoor.Ck _root_.Go.Proofs.YtmlpohbghobelaaGreatDoor.Ms

set_option maxHeartbeats 4000000 in
theorem rCheck_1 (st n : Int) (nm tx md : ByteArray) (hm : md.size ≤ maxLen) (w : World) : Calls Tryz.prog 7 #[.agg #[.int .i64 1, .string nm, .string tx, .string md, .int .i64 st, .int .i64 n]] w fun e w' => e = .returned (.int .i64 (chkI 1 st n nm tx md)) ∧ Below w.heap.size w w' := by
  obtain ⟨w1, hw1⟩ : ∃ w1, w1 = w.alloc (.cells #[.int .i64 1, .string nm, .string tx, .string md, .int .i64 st, .int .i64 n] 28) := ⟨_, rfl⟩
  have hb1 : Below w.heap.size w w1 := by rw [hw1]; exact (Below.refl _ w).alloc (Nat.le_refl _) _
  have hR1 : Blk 28 w1 w.heap.size [.int .i64 1, .string nm, .string tx, .string md, .int .i64 st, .int .i64 n] := by rw [hw1]; exact heap_alloc_new w _
  have HR_w1 : Hid (Blk 28 w1 w.heap.size [.int .i64 1, .string nm, .string tx, .string md, .int .i64 st, .int .i64 n]) := hR1
  have HB1 : Hid (Below w.heap.size w w1) := hb1
  have HW1 : Hid (w1 = _) := hw1
  have HBa : Hid (∀ W, Calls _ _ _ W _) := fun W => bare_14 1 st n nm tx md W
  have HVa : Hid (∀ W, Calls _ _ _ W _) := fun W => rIsValue_any md hm W
  obtain ⟨Y, hY⟩ : ∃ Y, Y = chkI 1 st n nm tx md := ⟨_, rfl⟩
  rw [← hY]
  have HY : Hid (Y = if ((nm.toList.isEmpty && ((n == 0))) && ((decide (200 ≤ st) && decide (st ≤ 599)) && (!((st == 204) || (st == 304)) && (!md.toList.isEmpty && isValue md.data.toList)))) = true then 0 else 180) := (by rw [hY]; rfl : _ = _)
  clear hY hb1 hR1
  obtain ⟨B, hB⟩ : ∃ B, B = (nm.toList.isEmpty && ((n == 0))) := ⟨_, rfl⟩
  rw [← hB] at HBa HY
  clear hB
  generalize isValue md.data.toList = V at *
  go_enter Tryz.func7, Tryz.ntmps7
  go_wp2_with fail
  try rw [← HW1.out]
  refine (HBa.out _).mono ?_
  rintro e w2 ⟨rfl, hx⟩
  have HB2 : Hid (Below w.heap.size w w2) := bel_tr HB1.out hx HB1.out.size
  have HR_w2 : Hid (Blk 28 w2 w.heap.size [.int .i64 1, .string nm, .string tx, .string md, .int .i64 st, .int .i64 n]) := HR_w1.out.below hx
  clear hx
  have r3 := HR_w2.out.cell 3 rfl
  have r4 := HR_w2.out.cell 4 rfl
  cases B with
  | false =>
    have HF : Hid (Y = 180) := (by rw [HY.out]; simp : Y = 180)
    go_wp2
    refine bodyPost_ret (v := .int .i64 180) (by simp [results, Tryz.results7, go_sem]) rfl ⟨by rw [HF.out], HB2.out⟩
  | true =>
    by_cases a1 : 200 ≤ st
    case neg =>
      have HF : Hid (Y = 180) := (by rw [HY.out]; simp [a1] : Y = 180)
      go_wp2
      refine bodyPost_ret (v := .int .i64 180) (by simp [results, Tryz.results7, go_sem]) rfl ⟨by rw [HF.out], HB2.out⟩
    by_cases a2 : st ≤ 599
    case neg =>
      have HF : Hid (Y = 180) := (by rw [HY.out]; simp [a1, a2] : Y = 180)
      go_wp2
      refine bodyPost_ret (v := .int .i64 180) (by simp [results, Tryz.results7, go_sem]) rfl ⟨by rw [HF.out], HB2.out⟩
    cases a3 : (st == 204) with
    | true =>
      have a3x : (st != 204) = false := by show (!(st == 204)) = _; rw [a3]; rfl
      have HF : Hid (Y = 180) := (by rw [HY.out]; simp [a1, a2, a3] : Y = 180)
      go_wp2
      refine bodyPost_ret (v := .int .i64 180) (by simp [results, Tryz.results7, go_sem]) rfl ⟨by rw [HF.out], HB2.out⟩
    | false =>
      have a3x : (st != 204) = true := by show (!(st == 204)) = _; rw [a3]; rfl
      cases a4 : (st == 304) with
      | true =>
        have a4x : (st != 304) = false := by show (!(st == 304)) = _; rw [a4]; rfl
        have HF : Hid (Y = 180) := (by rw [HY.out]; simp [a1, a2, a3, a4] : Y = 180)
        go_wp2
        refine bodyPost_ret (v := .int .i64 180) (by simp [results, Tryz.results7, go_sem]) rfl ⟨by rw [HF.out], HB2.out⟩
      | false =>
        have a4x : (st != 304) = true := by show (!(st == 304)) = _; rw [a4]; rfl
        cases a5 : md.toList.isEmpty with
        | true =>
          have HF : Hid (Y = 180) := (by rw [HY.out]; simp [a1, a2, a3, a4, a5] : Y = 180)
          go_wp2
          refine bodyPost_ret (v := .int .i64 180) (by simp [results, Tryz.results7, go_sem]) rfl ⟨by rw [HF.out], HB2.out⟩
        | false =>
          go_wp2_with fail
          try rw [← HW1.out]
          refine (HVa.out _).mono ?_
          rintro e w3 ⟨rfl, hx⟩
          rw [hx]
          clear hx
          cases V with
          | false =>
            have HF : Hid (Y = 180) := (by rw [HY.out]; simp [a1, a2, a3, a4, a5] : Y = 180)
            go_wp2
            refine bodyPost_ret (v := .int .i64 180) (by simp [results, Tryz.results7, go_sem]) rfl ⟨by rw [HF.out], HB2.out⟩
          | true =>
            have HF : Hid (Y = 0) := (by rw [HY.out]; simp [a1, a2, a3, a4, a5] : Y = 0)
            go_wp2
            refine bodyPost_ret (v := .int .i64 0) (by simp [results, Tryz.results7, go_sem]) rfl ⟨by rw [HF.out], HB2.out⟩

set_option maxHeartbeats 4000000 in
theorem rCheck_2 (st n : Int) (nm tx md : ByteArray) (w : World) : Calls Tryz.prog 7 #[.agg #[.int .i64 2, .string nm, .string tx, .string md, .int .i64 st, .int .i64 n]] w fun e w' => e = .returned (.int .i64 (chkI 2 st n nm tx md)) ∧ Below w.heap.size w w' := by
  obtain ⟨w1, hw1⟩ : ∃ w1, w1 = w.alloc (.cells #[.int .i64 2, .string nm, .string tx, .string md, .int .i64 st, .int .i64 n] 28) := ⟨_, rfl⟩
  have hb1 : Below w.heap.size w w1 := by rw [hw1]; exact (Below.refl _ w).alloc (Nat.le_refl _) _
  have hR1 : Blk 28 w1 w.heap.size [.int .i64 2, .string nm, .string tx, .string md, .int .i64 st, .int .i64 n] := by rw [hw1]; exact heap_alloc_new w _
  have HR_w1 : Hid (Blk 28 w1 w.heap.size [.int .i64 2, .string nm, .string tx, .string md, .int .i64 st, .int .i64 n]) := hR1
  have HB1 : Hid (Below w.heap.size w w1) := hb1
  have HW1 : Hid (w1 = _) := hw1
  have HBa : Hid (∀ W, Calls _ _ _ W _) := fun W => bare_8 2 st n nm tx md W
  obtain ⟨Y, hY⟩ : ∃ Y, Y = chkI 2 st n nm tx md := ⟨_, rfl⟩
  rw [← hY]
  have HY : Hid (Y = if ((nm.toList.isEmpty && (tx.toList.isEmpty && (md.toList.isEmpty && ((n == 0))))) && (decide (200 ≤ st) && decide (st ≤ 599))) = true then 0 else 180) := (by rw [hY]; rfl : _ = _)
  clear hY hb1 hR1
  obtain ⟨B, hB⟩ : ∃ B, B = (nm.toList.isEmpty && (tx.toList.isEmpty && (md.toList.isEmpty && ((n == 0))))) := ⟨_, rfl⟩
  rw [← hB] at HBa HY
  clear hB
  go_enter Tryz.func7, Tryz.ntmps7
  go_wp2_with fail
  try rw [← HW1.out]
  refine (HBa.out _).mono ?_
  rintro e w2 ⟨rfl, hx⟩
  have HB2 : Hid (Below w.heap.size w w2) := bel_tr HB1.out hx HB1.out.size
  have HR_w2 : Hid (Blk 28 w2 w.heap.size [.int .i64 2, .string nm, .string tx, .string md, .int .i64 st, .int .i64 n]) := HR_w1.out.below hx
  clear hx
  have r4 := HR_w2.out.cell 4 rfl
  cases B with
  | false =>
    have HF : Hid (Y = 180) := (by rw [HY.out]; simp : Y = 180)
    go_wp2
    refine bodyPost_ret (v := .int .i64 180) (by simp [results, Tryz.results7, go_sem]) rfl ⟨by rw [HF.out], HB2.out⟩
  | true =>
    by_cases a1 : 200 ≤ st
    case neg =>
      have HF : Hid (Y = 180) := (by rw [HY.out]; simp [a1] : Y = 180)
      go_wp2
      refine bodyPost_ret (v := .int .i64 180) (by simp [results, Tryz.results7, go_sem]) rfl ⟨by rw [HF.out], HB2.out⟩
    by_cases a2 : st ≤ 599
    case neg =>
      have HF : Hid (Y = 180) := (by rw [HY.out]; simp [a1, a2] : Y = 180)
      go_wp2
      refine bodyPost_ret (v := .int .i64 180) (by simp [results, Tryz.results7, go_sem]) rfl ⟨by rw [HF.out], HB2.out⟩
    have HF : Hid (Y = 0) := (by rw [HY.out]; simp [a1, a2] : Y = 0)
    go_wp2
    refine bodyPost_ret (v := .int .i64 0) (by simp [results, Tryz.results7, go_sem]) rfl ⟨by rw [HF.out], HB2.out⟩

set_option maxHeartbeats 4000000 in
theorem rCheck_3 (st n : Int) (nm tx md : ByteArray) (ht : tx.size ≤ 1048576) (w : World) : Calls Tryz.prog 7 #[.agg #[.int .i64 3, .string nm, .string tx, .string md, .int .i64 st, .int .i64 n]] w fun e w' => e = .returned (.int .i64 (chkI 3 st n nm tx md)) ∧ Below w.heap.size w w' := by
  obtain ⟨w1, hw1⟩ : ∃ w1, w1 = w.alloc (.cells #[.int .i64 3, .string nm, .string tx, .string md, .int .i64 st, .int .i64 n] 28) := ⟨_, rfl⟩
  have hb1 : Below w.heap.size w w1 := by rw [hw1]; exact (Below.refl _ w).alloc (Nat.le_refl _) _
  have hR1 : Blk 28 w1 w.heap.size [.int .i64 3, .string nm, .string tx, .string md, .int .i64 st, .int .i64 n] := by rw [hw1]; exact heap_alloc_new w _
  have HR_w1 : Hid (Blk 28 w1 w.heap.size [.int .i64 3, .string nm, .string tx, .string md, .int .i64 st, .int .i64 n]) := hR1
  have HB1 : Hid (Below w.heap.size w w1) := hb1
  have HW1 : Hid (w1 = _) := hw1
  have HBa : Hid (∀ W, Calls _ _ _ W _) := fun W => bare_10 3 st n nm tx md W
  have HRf : Hid (Calls _ _ _ _ _) := rRefer_any tx ht (.slice none 0 0) [] (fun p hp => by cases hp) (by simp) w1 (rdA_none w1)
  obtain ⟨Y, hY⟩ : ∃ Y, Y = chkI 3 st n nm tx md := ⟨_, rfl⟩
  rw [← hY]
  have HY : Hid (Y = if ((nm.toList.isEmpty && (md.toList.isEmpty && ((n == 0)))) && (((st == 301) || ((st == 302) || ((st == 303) || ((st == 307) || (st == 308))))) && ((refR [] tx.data.toList).2 == 0))) = true then 0 else 180) := (by rw [hY]; rfl : _ = _)
  clear hY hb1 hR1
  obtain ⟨B, hB⟩ : ∃ B, B = (nm.toList.isEmpty && (md.toList.isEmpty && ((n == 0)))) := ⟨_, rfl⟩
  rw [← hB] at HBa HY
  clear hB
  generalize str (refR [] tx.data.toList).1 = X at *
  generalize (refR [] tx.data.toList).2 = E at *
  have r2 := HR_w1.out.cell 2 rfl
  rw [hw1] at r2
  clear hw1
  go_enter Tryz.func7, Tryz.ntmps7
  go_wp2_with fail
  try rw [← HW1.out]
  refine (HRf.out).mono ?_
  rintro e w2 ⟨rfl, hx⟩
  have HB2 : Hid (Below w.heap.size w w2) := bel_tr HB1.out hx HB1.out.size
  have HR_w2 : Hid (Blk 28 w2 w.heap.size [.int .i64 3, .string nm, .string tx, .string md, .int .i64 st, .int .i64 n]) := HR_w1.out.below hx
  clear hx
  clear r2
  have r0 := HR_w2.out.cell 0 rfl
  have r1 := HR_w2.out.cell 1 rfl
  have r2 := HR_w2.out.cell 2 rfl
  have r3 := HR_w2.out.cell 3 rfl
  have r4 := HR_w2.out.cell 4 rfl
  have r5 := HR_w2.out.cell 5 rfl
  go_wp2_with fail
  try rw [← HW1.out]
  refine (HBa.out _).mono ?_
  rintro e w3 ⟨rfl, hx⟩
  have HB3 : Hid (Below w.heap.size w w3) := bel_tr HB2.out hx HB2.out.size
  have HR_w3 : Hid (Blk 28 w3 w.heap.size [.int .i64 3, .string nm, .string tx, .string md, .int .i64 st, .int .i64 n]) := HR_w2.out.below hx
  clear hx
  cases B with
  | false =>
    have HF : Hid (Y = 180) := (by rw [HY.out]; simp : Y = 180)
    go_wp2
    refine bodyPost_ret (v := .int .i64 180) (by simp [results, Tryz.results7, go_sem]) rfl ⟨by rw [HF.out], HB3.out⟩
  | true =>
    cases a0 : (E == 0) with
    | false =>
      have a0x : (E != 0) = true := by show (!(E == 0)) = _; rw [a0]; rfl
      have HF : Hid (Y = 180) := (by rw [HY.out]; simp [a0] : Y = 180)
      go_wp2
      refine bodyPost_ret (v := .int .i64 180) (by simp [results, Tryz.results7, go_sem]) rfl ⟨by rw [HF.out], HB3.out⟩
    | true =>
      have a0x : (E != 0) = false := by show (!(E == 0)) = _; rw [a0]; rfl
      cases b301 : (st == 301) with
      | true =>
        have HF : Hid (Y = 0) := (by rw [HY.out]; simp [a0, b301] : Y = 0)
        go_wp2
        refine bodyPost_ret (v := .int .i64 0) (by simp [results, Tryz.results7, go_sem]) rfl ⟨by rw [HF.out], HB3.out⟩
      | false =>
        cases b302 : (st == 302) with
        | true =>
          have HF : Hid (Y = 0) := (by rw [HY.out]; simp [a0, b301, b302] : Y = 0)
          go_wp2
          refine bodyPost_ret (v := .int .i64 0) (by simp [results, Tryz.results7, go_sem]) rfl ⟨by rw [HF.out], HB3.out⟩
        | false =>
          cases b303 : (st == 303) with
          | true =>
            have HF : Hid (Y = 0) := (by rw [HY.out]; simp [a0, b301, b302, b303] : Y = 0)
            go_wp2
            refine bodyPost_ret (v := .int .i64 0) (by simp [results, Tryz.results7, go_sem]) rfl ⟨by rw [HF.out], HB3.out⟩
          | false =>
            cases b307 : (st == 307) with
            | true =>
              have HF : Hid (Y = 0) := (by rw [HY.out]; simp [a0, b301, b302, b303, b307] : Y = 0)
              go_wp2
              refine bodyPost_ret (v := .int .i64 0) (by simp [results, Tryz.results7, go_sem]) rfl ⟨by rw [HF.out], HB3.out⟩
            | false =>
              cases b308 : (st == 308) with
              | true =>
                have HF : Hid (Y = 0) := (by rw [HY.out]; simp [a0, b301, b302, b303, b307, b308] : Y = 0)
                go_wp2
                refine bodyPost_ret (v := .int .i64 0) (by simp [results, Tryz.results7, go_sem]) rfl ⟨by rw [HF.out], HB3.out⟩
              | false =>
                have HF : Hid (Y = 180) := (by rw [HY.out]; simp [a0, b301, b302, b303, b307, b308] : Y = 180)
                go_wp2
                refine bodyPost_ret (v := .int .i64 180) (by simp [results, Tryz.results7, go_sem]) rfl ⟨by rw [HF.out], HB3.out⟩

set_option maxHeartbeats 4000000 in
theorem rCheck_4 (st n : Int) (nm tx md : ByteArray) (w : World) : Calls Tryz.prog 7 #[.agg #[.int .i64 4, .string nm, .string tx, .string md, .int .i64 st, .int .i64 n]] w fun e w' => e = .returned (.int .i64 (chkI 4 st n nm tx md)) ∧ Below w.heap.size w w' := by
  obtain ⟨w1, hw1⟩ : ∃ w1, w1 = w.alloc (.cells #[.int .i64 4, .string nm, .string tx, .string md, .int .i64 st, .int .i64 n] 28) := ⟨_, rfl⟩
  have hb1 : Below w.heap.size w w1 := by rw [hw1]; exact (Below.refl _ w).alloc (Nat.le_refl _) _
  have hR1 : Blk 28 w1 w.heap.size [.int .i64 4, .string nm, .string tx, .string md, .int .i64 st, .int .i64 n] := by rw [hw1]; exact heap_alloc_new w _
  have HR_w1 : Hid (Blk 28 w1 w.heap.size [.int .i64 4, .string nm, .string tx, .string md, .int .i64 st, .int .i64 n]) := hR1
  have HB1 : Hid (Below w.heap.size w w1) := hb1
  have HW1 : Hid (w1 = _) := hw1
  have HBa : Hid (∀ W, Calls _ _ _ W _) := fun W => bare_0 4 st n nm tx md W
  obtain ⟨Y, hY⟩ : ∃ Y, Y = chkI 4 st n nm tx md := ⟨_, rfl⟩
  rw [← hY]
  have HY : Hid (Y = if ((nm.toList.isEmpty && (tx.toList.isEmpty && (md.toList.isEmpty && ((st == 0) && ((n == 0)))))) && (true)) = true then 0 else 180) := (by rw [hY]; rfl : _ = _)
  clear hY hb1 hR1
  obtain ⟨B, hB⟩ : ∃ B, B = (nm.toList.isEmpty && (tx.toList.isEmpty && (md.toList.isEmpty && ((st == 0) && ((n == 0)))))) := ⟨_, rfl⟩
  rw [← hB] at HBa HY
  clear hB
  go_enter Tryz.func7, Tryz.ntmps7
  go_wp2_with fail
  try rw [← HW1.out]
  refine (HBa.out _).mono ?_
  rintro e w2 ⟨rfl, hx⟩
  have HB2 : Hid (Below w.heap.size w w2) := bel_tr HB1.out hx HB1.out.size
  have HR_w2 : Hid (Blk 28 w2 w.heap.size [.int .i64 4, .string nm, .string tx, .string md, .int .i64 st, .int .i64 n]) := HR_w1.out.below hx
  clear hx
  cases B with
  | false =>
    have HF : Hid (Y = 180) := (by rw [HY.out]; simp : Y = 180)
    go_wp2
    refine bodyPost_ret (v := .int .i64 180) (by simp [results, Tryz.results7, go_sem]) rfl ⟨by rw [HF.out], HB2.out⟩
  | true =>
    have HF : Hid (Y = 0) := (by rw [HY.out]; simp : Y = 0)
    go_wp2
    refine bodyPost_ret (v := .int .i64 0) (by simp [results, Tryz.results7, go_sem]) rfl ⟨by rw [HF.out], HB2.out⟩

set_option maxHeartbeats 4000000 in
theorem rCheck_5 (st n : Int) (nm tx md : ByteArray) (w : World) : Calls Tryz.prog 7 #[.agg #[.int .i64 5, .string nm, .string tx, .string md, .int .i64 st, .int .i64 n]] w fun e w' => e = .returned (.int .i64 (chkI 5 st n nm tx md)) ∧ Below w.heap.size w w' := by
  obtain ⟨w1, hw1⟩ : ∃ w1, w1 = w.alloc (.cells #[.int .i64 5, .string nm, .string tx, .string md, .int .i64 st, .int .i64 n] 28) := ⟨_, rfl⟩
  have hb1 : Below w.heap.size w w1 := by rw [hw1]; exact (Below.refl _ w).alloc (Nat.le_refl _) _
  have hR1 : Blk 28 w1 w.heap.size [.int .i64 5, .string nm, .string tx, .string md, .int .i64 st, .int .i64 n] := by rw [hw1]; exact heap_alloc_new w _
  have HR_w1 : Hid (Blk 28 w1 w.heap.size [.int .i64 5, .string nm, .string tx, .string md, .int .i64 st, .int .i64 n]) := hR1
  have HB1 : Hid (Below w.heap.size w w1) := hb1
  have HW1 : Hid (w1 = _) := hw1
  have HBa : Hid (∀ W, Calls _ _ _ W _) := fun W => bare_0 5 st n nm tx md W
  obtain ⟨Y, hY⟩ : ∃ Y, Y = chkI 5 st n nm tx md := ⟨_, rfl⟩
  rw [← hY]
  have HY : Hid (Y = if ((nm.toList.isEmpty && (tx.toList.isEmpty && (md.toList.isEmpty && ((st == 0) && ((n == 0)))))) && (true)) = true then 0 else 180) := (by rw [hY]; rfl : _ = _)
  clear hY hb1 hR1
  obtain ⟨B, hB⟩ : ∃ B, B = (nm.toList.isEmpty && (tx.toList.isEmpty && (md.toList.isEmpty && ((st == 0) && ((n == 0)))))) := ⟨_, rfl⟩
  rw [← hB] at HBa HY
  clear hB
  go_enter Tryz.func7, Tryz.ntmps7
  go_wp2_with fail
  try rw [← HW1.out]
  refine (HBa.out _).mono ?_
  rintro e w2 ⟨rfl, hx⟩
  have HB2 : Hid (Below w.heap.size w w2) := bel_tr HB1.out hx HB1.out.size
  have HR_w2 : Hid (Blk 28 w2 w.heap.size [.int .i64 5, .string nm, .string tx, .string md, .int .i64 st, .int .i64 n]) := HR_w1.out.below hx
  clear hx
  cases B with
  | false =>
    have HF : Hid (Y = 180) := (by rw [HY.out]; simp : Y = 180)
    go_wp2
    refine bodyPost_ret (v := .int .i64 180) (by simp [results, Tryz.results7, go_sem]) rfl ⟨by rw [HF.out], HB2.out⟩
  | true =>
    have HF : Hid (Y = 0) := (by rw [HY.out]; simp : Y = 0)
    go_wp2
    refine bodyPost_ret (v := .int .i64 0) (by simp [results, Tryz.results7, go_sem]) rfl ⟨by rw [HF.out], HB2.out⟩

set_option maxHeartbeats 4000000 in
theorem rCheck_9 (st n : Int) (nm tx md : ByteArray) (w : World) : Calls Tryz.prog 7 #[.agg #[.int .i64 9, .string nm, .string tx, .string md, .int .i64 st, .int .i64 n]] w fun e w' => e = .returned (.int .i64 (chkI 9 st n nm tx md)) ∧ Below w.heap.size w w' := by
  obtain ⟨w1, hw1⟩ : ∃ w1, w1 = w.alloc (.cells #[.int .i64 9, .string nm, .string tx, .string md, .int .i64 st, .int .i64 n] 28) := ⟨_, rfl⟩
  have hb1 : Below w.heap.size w w1 := by rw [hw1]; exact (Below.refl _ w).alloc (Nat.le_refl _) _
  have hR1 : Blk 28 w1 w.heap.size [.int .i64 9, .string nm, .string tx, .string md, .int .i64 st, .int .i64 n] := by rw [hw1]; exact heap_alloc_new w _
  have HR_w1 : Hid (Blk 28 w1 w.heap.size [.int .i64 9, .string nm, .string tx, .string md, .int .i64 st, .int .i64 n]) := hR1
  have HB1 : Hid (Below w.heap.size w w1) := hb1
  have HW1 : Hid (w1 = _) := hw1
  have HBa : Hid (∀ W, Calls _ _ _ W _) := fun W => bare_0 9 st n nm tx md W
  obtain ⟨Y, hY⟩ : ∃ Y, Y = chkI 9 st n nm tx md := ⟨_, rfl⟩
  rw [← hY]
  have HY : Hid (Y = if ((nm.toList.isEmpty && (tx.toList.isEmpty && (md.toList.isEmpty && ((st == 0) && ((n == 0)))))) && (true)) = true then 0 else 180) := (by rw [hY]; rfl : _ = _)
  clear hY hb1 hR1
  obtain ⟨B, hB⟩ : ∃ B, B = (nm.toList.isEmpty && (tx.toList.isEmpty && (md.toList.isEmpty && ((st == 0) && ((n == 0)))))) := ⟨_, rfl⟩
  rw [← hB] at HBa HY
  clear hB
  go_enter Tryz.func7, Tryz.ntmps7
  go_wp2_with fail
  try rw [← HW1.out]
  refine (HBa.out _).mono ?_
  rintro e w2 ⟨rfl, hx⟩
  have HB2 : Hid (Below w.heap.size w w2) := bel_tr HB1.out hx HB1.out.size
  have HR_w2 : Hid (Blk 28 w2 w.heap.size [.int .i64 9, .string nm, .string tx, .string md, .int .i64 st, .int .i64 n]) := HR_w1.out.below hx
  clear hx
  cases B with
  | false =>
    have HF : Hid (Y = 180) := (by rw [HY.out]; simp : Y = 180)
    go_wp2
    refine bodyPost_ret (v := .int .i64 180) (by simp [results, Tryz.results7, go_sem]) rfl ⟨by rw [HF.out], HB2.out⟩
  | true =>
    have HF : Hid (Y = 0) := (by rw [HY.out]; simp : Y = 0)
    go_wp2
    refine bodyPost_ret (v := .int .i64 0) (by simp [results, Tryz.results7, go_sem]) rfl ⟨by rw [HF.out], HB2.out⟩

set_option maxHeartbeats 4000000 in
theorem rCheck_6 (st n : Int) (nm tx md : ByteArray) (hn : nm.size ≤ maxLen) (w : World) : Calls Tryz.prog 7 #[.agg #[.int .i64 6, .string nm, .string tx, .string md, .int .i64 st, .int .i64 n]] w fun e w' => e = .returned (.int .i64 (chkI 6 st n nm tx md)) ∧ Below w.heap.size w w' := by
  obtain ⟨w1, hw1⟩ : ∃ w1, w1 = w.alloc (.cells #[.int .i64 6, .string nm, .string tx, .string md, .int .i64 st, .int .i64 n] 28) := ⟨_, rfl⟩
  have hb1 : Below w.heap.size w w1 := by rw [hw1]; exact (Below.refl _ w).alloc (Nat.le_refl _) _
  have hR1 : Blk 28 w1 w.heap.size [.int .i64 6, .string nm, .string tx, .string md, .int .i64 st, .int .i64 n] := by rw [hw1]; exact heap_alloc_new w _
  have HR_w1 : Hid (Blk 28 w1 w.heap.size [.int .i64 6, .string nm, .string tx, .string md, .int .i64 st, .int .i64 n]) := hR1
  have HB1 : Hid (Below w.heap.size w w1) := hb1
  have HW1 : Hid (w1 = _) := hw1
  have HBa : Hid (∀ W, Calls _ _ _ W _) := fun W => bare_17 6 st n nm tx md W
  have HNm : Hid (∀ W, Calls _ _ _ W _) := fun W => rIsName_any nm hn W
  obtain ⟨Y, hY⟩ : ∃ Y, Y = chkI 6 st n nm tx md := ⟨_, rfl⟩
  rw [← hY]
  have HY : Hid (Y = if ((tx.toList.isEmpty && (md.toList.isEmpty && ((st == 0)))) && ((nm.toList.isEmpty || isNm nm.data.toList) && ((n == 0) || (n == 1)))) = true then 0 else 180) := (by rw [hY]; rfl : _ = _)
  clear hY hb1 hR1
  obtain ⟨B, hB⟩ : ∃ B, B = (tx.toList.isEmpty && (md.toList.isEmpty && ((st == 0)))) := ⟨_, rfl⟩
  rw [← hB] at HBa HY
  clear hB
  generalize isNm nm.data.toList = Q at *
  go_enter Tryz.func7, Tryz.ntmps7
  go_wp2_with fail
  try rw [← HW1.out]
  refine (HBa.out _).mono ?_
  rintro e w2 ⟨rfl, hx⟩
  have HB2 : Hid (Below w.heap.size w w2) := bel_tr HB1.out hx HB1.out.size
  have HR_w2 : Hid (Blk 28 w2 w.heap.size [.int .i64 6, .string nm, .string tx, .string md, .int .i64 st, .int .i64 n]) := HR_w1.out.below hx
  clear hx
  have r1 := HR_w2.out.cell 1 rfl
  have r5 := HR_w2.out.cell 5 rfl
  cases B with
  | false =>
    have HF : Hid (Y = 180) := (by rw [HY.out]; simp : Y = 180)
    go_wp2
    refine bodyPost_ret (v := .int .i64 180) (by simp [results, Tryz.results7, go_sem]) rfl ⟨by rw [HF.out], HB2.out⟩
  | true =>
    cases e1 : nm.toList.isEmpty with
    | true =>
      cases n0 : (n == 0) with
      | true =>
        have HF : Hid (Y = 0) := (by rw [HY.out]; simp [e1, n0] : Y = 0)
        go_wp2
        refine bodyPost_ret (v := .int .i64 0) (by simp [results, Tryz.results7, go_sem]) rfl ⟨by rw [HF.out], HB2.out⟩
      | false =>
        cases n1 : (n == 1) with
        | true =>
          have HF : Hid (Y = 0) := (by rw [HY.out]; simp [e1, n0, n1] : Y = 0)
          go_wp2
          refine bodyPost_ret (v := .int .i64 0) (by simp [results, Tryz.results7, go_sem]) rfl ⟨by rw [HF.out], HB2.out⟩
        | false =>
          have HF : Hid (Y = 180) := (by rw [HY.out]; simp [e1, n0, n1] : Y = 180)
          go_wp2
          refine bodyPost_ret (v := .int .i64 180) (by simp [results, Tryz.results7, go_sem]) rfl ⟨by rw [HF.out], HB2.out⟩
    | false =>
      go_wp2_with fail
      try rw [← HW1.out]
      refine (HNm.out _).mono ?_
      rintro e w3 ⟨rfl, hx⟩
      rw [hx]
      clear hx
      cases Q with
      | false =>
        have HF : Hid (Y = 180) := (by rw [HY.out]; simp [e1] : Y = 180)
        go_wp2
        refine bodyPost_ret (v := .int .i64 180) (by simp [results, Tryz.results7, go_sem]) rfl ⟨by rw [HF.out], HB2.out⟩
      | true =>
        cases n0 : (n == 0) with
        | true =>
          have HF : Hid (Y = 0) := (by rw [HY.out]; simp [e1, n0] : Y = 0)
          go_wp2
          refine bodyPost_ret (v := .int .i64 0) (by simp [results, Tryz.results7, go_sem]) rfl ⟨by rw [HF.out], HB2.out⟩
        | false =>
          cases n1 : (n == 1) with
          | true =>
            have HF : Hid (Y = 0) := (by rw [HY.out]; simp [e1, n0, n1] : Y = 0)
            go_wp2
            refine bodyPost_ret (v := .int .i64 0) (by simp [results, Tryz.results7, go_sem]) rfl ⟨by rw [HF.out], HB2.out⟩
          | false =>
            have HF : Hid (Y = 180) := (by rw [HY.out]; simp [e1, n0, n1] : Y = 180)
            go_wp2
            refine bodyPost_ret (v := .int .i64 180) (by simp [results, Tryz.results7, go_sem]) rfl ⟨by rw [HF.out], HB2.out⟩

set_option maxHeartbeats 4000000 in
theorem rCheck_7 (st n : Int) (nm tx md : ByteArray) (w : World) : Calls Tryz.prog 7 #[.agg #[.int .i64 7, .string nm, .string tx, .string md, .int .i64 st, .int .i64 n]] w fun e w' => e = .returned (.int .i64 (chkI 7 st n nm tx md)) ∧ Below w.heap.size w w' := by
  obtain ⟨w1, hw1⟩ : ∃ w1, w1 = w.alloc (.cells #[.int .i64 7, .string nm, .string tx, .string md, .int .i64 st, .int .i64 n] 28) := ⟨_, rfl⟩
  have hb1 : Below w.heap.size w w1 := by rw [hw1]; exact (Below.refl _ w).alloc (Nat.le_refl _) _
  have hR1 : Blk 28 w1 w.heap.size [.int .i64 7, .string nm, .string tx, .string md, .int .i64 st, .int .i64 n] := by rw [hw1]; exact heap_alloc_new w _
  have HR_w1 : Hid (Blk 28 w1 w.heap.size [.int .i64 7, .string nm, .string tx, .string md, .int .i64 st, .int .i64 n]) := hR1
  have HB1 : Hid (Below w.heap.size w w1) := hb1
  have HW1 : Hid (w1 = _) := hw1
  have HBa : Hid (∀ W, Calls _ _ _ W _) := fun W => bare_16 7 st n nm tx md W
  obtain ⟨Y, hY⟩ : ∃ Y, Y = chkI 7 st n nm tx md := ⟨_, rfl⟩
  rw [← hY]
  have HY : Hid (Y = if ((nm.toList.isEmpty && (tx.toList.isEmpty && (md.toList.isEmpty && ((st == 0))))) && (decide (1 ≤ n) && decide (n ≤ 1000))) = true then 0 else 180) := (by rw [hY]; rfl : _ = _)
  clear hY hb1 hR1
  obtain ⟨B, hB⟩ : ∃ B, B = (nm.toList.isEmpty && (tx.toList.isEmpty && (md.toList.isEmpty && ((st == 0))))) := ⟨_, rfl⟩
  rw [← hB] at HBa HY
  clear hB
  go_enter Tryz.func7, Tryz.ntmps7
  go_wp2_with fail
  try rw [← HW1.out]
  refine (HBa.out _).mono ?_
  rintro e w2 ⟨rfl, hx⟩
  have HB2 : Hid (Below w.heap.size w w2) := bel_tr HB1.out hx HB1.out.size
  have HR_w2 : Hid (Blk 28 w2 w.heap.size [.int .i64 7, .string nm, .string tx, .string md, .int .i64 st, .int .i64 n]) := HR_w1.out.below hx
  clear hx
  have r5 := HR_w2.out.cell 5 rfl
  cases B with
  | false =>
    have HF : Hid (Y = 180) := (by rw [HY.out]; simp : Y = 180)
    go_wp2
    refine bodyPost_ret (v := .int .i64 180) (by simp [results, Tryz.results7, go_sem]) rfl ⟨by rw [HF.out], HB2.out⟩
  | true =>
    by_cases a1 : 1 ≤ n
    case neg =>
      have HF : Hid (Y = 180) := (by rw [HY.out]; simp [a1] : Y = 180)
      go_wp2
      refine bodyPost_ret (v := .int .i64 180) (by simp [results, Tryz.results7, go_sem]) rfl ⟨by rw [HF.out], HB2.out⟩
    by_cases a2 : n ≤ 1000
    case neg =>
      have HF : Hid (Y = 180) := (by rw [HY.out]; simp [a1, a2] : Y = 180)
      go_wp2
      refine bodyPost_ret (v := .int .i64 180) (by simp [results, Tryz.results7, go_sem]) rfl ⟨by rw [HF.out], HB2.out⟩
    have HF : Hid (Y = 0) := (by rw [HY.out]; simp [a1, a2] : Y = 0)
    go_wp2
    refine bodyPost_ret (v := .int .i64 0) (by simp [results, Tryz.results7, go_sem]) rfl ⟨by rw [HF.out], HB2.out⟩

set_option maxHeartbeats 4000000 in
theorem rCheck_8 (st n : Int) (nm tx md : ByteArray) (hn : nm.size ≤ maxLen) (w : World) : Calls Tryz.prog 7 #[.agg #[.int .i64 8, .string nm, .string tx, .string md, .int .i64 st, .int .i64 n]] w fun e w' => e = .returned (.int .i64 (chkI 8 st n nm tx md)) ∧ Below w.heap.size w w' := by
  obtain ⟨w1, hw1⟩ : ∃ w1, w1 = w.alloc (.cells #[.int .i64 8, .string nm, .string tx, .string md, .int .i64 st, .int .i64 n] 28) := ⟨_, rfl⟩
  have hb1 : Below w.heap.size w w1 := by rw [hw1]; exact (Below.refl _ w).alloc (Nat.le_refl _) _
  have hR1 : Blk 28 w1 w.heap.size [.int .i64 8, .string nm, .string tx, .string md, .int .i64 st, .int .i64 n] := by rw [hw1]; exact heap_alloc_new w _
  have HR_w1 : Hid (Blk 28 w1 w.heap.size [.int .i64 8, .string nm, .string tx, .string md, .int .i64 st, .int .i64 n]) := hR1
  have HB1 : Hid (Below w.heap.size w w1) := hb1
  have HW1 : Hid (w1 = _) := hw1
  have HBa : Hid (∀ W, Calls _ _ _ W _) := fun W => bare_1 8 st n nm tx md W
  have HTk : Hid (∀ W, Calls _ _ _ W _) := fun W => rIsToken_any nm hn W
  obtain ⟨Y, hY⟩ : ∃ Y, Y = chkI 8 st n nm tx md := ⟨_, rfl⟩
  rw [← hY]
  have HY : Hid (Y = if ((tx.toList.isEmpty && (md.toList.isEmpty && ((st == 0) && ((n == 0))))) && (isTok nm.data.toList)) = true then 0 else 180) := (by rw [hY]; rfl : _ = _)
  clear hY hb1 hR1
  obtain ⟨B, hB⟩ : ∃ B, B = (tx.toList.isEmpty && (md.toList.isEmpty && ((st == 0) && ((n == 0))))) := ⟨_, rfl⟩
  rw [← hB] at HBa HY
  clear hB
  generalize isTok nm.data.toList = Q at *
  go_enter Tryz.func7, Tryz.ntmps7
  go_wp2_with fail
  try rw [← HW1.out]
  refine (HBa.out _).mono ?_
  rintro e w2 ⟨rfl, hx⟩
  have HB2 : Hid (Below w.heap.size w w2) := bel_tr HB1.out hx HB1.out.size
  have HR_w2 : Hid (Blk 28 w2 w.heap.size [.int .i64 8, .string nm, .string tx, .string md, .int .i64 st, .int .i64 n]) := HR_w1.out.below hx
  clear hx
  have r1 := HR_w2.out.cell 1 rfl
  cases B with
  | false =>
    have HF : Hid (Y = 180) := (by rw [HY.out]; simp : Y = 180)
    go_wp2
    refine bodyPost_ret (v := .int .i64 180) (by simp [results, Tryz.results7, go_sem]) rfl ⟨by rw [HF.out], HB2.out⟩
  | true =>
    go_wp2_with fail
    try rw [← HW1.out]
    refine (HTk.out _).mono ?_
    rintro e w3 ⟨rfl, hx⟩
    rw [hx]
    clear hx
    cases Q with
    | false =>
      have HF : Hid (Y = 180) := (by rw [HY.out]; simp : Y = 180)
      go_wp2
      refine bodyPost_ret (v := .int .i64 180) (by simp [results, Tryz.results7, go_sem]) rfl ⟨by rw [HF.out], HB2.out⟩
    | true =>
      have HF : Hid (Y = 0) := (by rw [HY.out]; simp : Y = 0)
      go_wp2
      refine bodyPost_ret (v := .int .i64 0) (by simp [results, Tryz.results7, go_sem]) rfl ⟨by rw [HF.out], HB2.out⟩

set_option maxHeartbeats 4000000 in
theorem rCheck_out (k st n : Int) (nm tx md : ByteArray) (h : k < 1 ∨ 9 < k) (w : World) : Calls Tryz.prog 7 #[.agg #[.int .i64 k, .string nm, .string tx, .string md, .int .i64 st, .int .i64 n]] w fun e w' => e = .returned (.int .i64 (chkI k st n nm tx md)) ∧ Below w.heap.size w w' := by
  have HY : Hid (chkI k st n nm tx md = 180) := (by unfold chkI; rw [chk_out h]; rfl : _ = _)
  have c1 : (k == 1) = false := by simp; omega
  have c2 : (k == 2) = false := by simp; omega
  have c3 : (k == 3) = false := by simp; omega
  have c4 : (k == 4) = false := by simp; omega
  have c5 : (k == 5) = false := by simp; omega
  have c6 : (k == 6) = false := by simp; omega
  have c7 : (k == 7) = false := by simp; omega
  have c8 : (k == 8) = false := by simp; omega
  have c9 : (k == 9) = false := by simp; omega
  clear h
  go_enter Tryz.func7, Tryz.ntmps7
  go_wp2
  refine bodyPost_ret (v := .int .i64 180) (by simp [results, Tryz.results7, go_sem]) rfl ⟨by rw [HY.out], (Below.refl _ w).alloc (Nat.le_refl _) _⟩

theorem rCheck_any (k st n : Int) (nm tx md : ByteArray) (hn : nm.size ≤ 1048576) (ht : tx.size ≤ 1048576) (hm : md.size ≤ 1048576) (w : World) :
    Calls Tryz.prog 7 #[.agg #[.int .i64 k, .string nm, .string tx, .string md, .int .i64 st, .int .i64 n]] w fun e w' => e = .returned (.int .i64 (chkI k st n nm tx md)) ∧ Below w.heap.size w w' := by
  have hn2 : nm.size ≤ maxLen := by unfold maxLen; omega
  have hm2 : md.size ≤ maxLen := by unfold maxLen; omega
  by_cases h1 : k = 1
  · subst h1
    exact rCheck_1 st n nm tx md hm2 w
  by_cases h2 : k = 2
  · subst h2
    exact rCheck_2 st n nm tx md w
  by_cases h3 : k = 3
  · subst h3
    exact rCheck_3 st n nm tx md ht w
  by_cases h4 : k = 4
  · subst h4
    exact rCheck_4 st n nm tx md w
  by_cases h5 : k = 5
  · subst h5
    exact rCheck_5 st n nm tx md w
  by_cases h6 : k = 6
  · subst h6
    exact rCheck_6 st n nm tx md hn2 w
  by_cases h7 : k = 7
  · subst h7
    exact rCheck_7 st n nm tx md w
  by_cases h8 : k = 8
  · subst h8
    exact rCheck_8 st n nm tx md hn2 w
  by_cases h9 : k = 9
  · subst h9
    exact rCheck_9 st n nm tx md w
  exact rCheck_out k st n nm tx md (by omega) w

end Hn
end Go.Proofs.YtmlpohbghobelaaGreatDoor
