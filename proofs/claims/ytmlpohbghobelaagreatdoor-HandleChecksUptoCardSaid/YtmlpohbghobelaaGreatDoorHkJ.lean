/-
  handle: the document: bare (written by mkhk.py).
-/
import Derived.Test.YtmlpohbghobelaaGreatDoorMgN
import Derived.Test.YtmlpohbghobelaaGreatDoorHnB
set_option linter.unusedVariables false
set_option linter.unusedSimpArgs false
set_option maxRecDepth 100000
namespace Go.Proofs.YtmlpohbghobelaaGreatDoor
open Go.RowKit Go.Shelf
namespace Hn
open Oc Tg _root_.Go.Proofs.YtmlpohbghobelaaGreatDoor.Fd _root_.Go.Proofs.YtmlpohbghobelaaGreatDoor.Ck _root_.Go.Proofs.YtmlpohbghobelaaGreatDoor.Ms

set_option maxHeartbeats 2000000 in
theorem bare_14 (k st n : Int) (nm tx md : ByteArray) (w : World) : Calls Tryz.prog 14 #[.agg #[.int .i64 k, .string nm, .string tx, .string md, .int .i64 st, .int .i64 n], .int .i64 14] w fun e w' => e = .returned (.bool (nm.toList.isEmpty && ((n == 0)))) ∧ Below w.heap.size w w' := by
  obtain ⟨R, hR⟩ : ∃ R, R = (nm.toList.isEmpty && ((n == 0))) := ⟨_, rfl⟩
  rw [← hR]
  have HQ : Hid (R = (nm.toList.isEmpty && ((n == 0)))) := hR
  clear hR
  cases h1 : nm.toList.isEmpty with
  | false =>
    rw [h1] at HQ
    go_enter Tryz.func14, Tryz.ntmps14
    go_wp2
    refine bodyPost_ret (v := .bool false) (by simp [results, Tryz.results14, go_sem]) rfl ⟨by rw [HQ.out]; rfl, (Below.refl _ w).alloc (Nat.le_refl _) _⟩
  | true =>
    rw [h1] at HQ
    cases h16 : (n == 0) with
    | false =>
      rw [h16] at HQ
      go_enter Tryz.func14, Tryz.ntmps14
      go_wp2
      refine bodyPost_ret (v := .bool false) (by simp [results, Tryz.results14, go_sem]) rfl ⟨by rw [HQ.out]; rfl, (Below.refl _ w).alloc (Nat.le_refl _) _⟩
    | true =>
      rw [h16] at HQ
      go_enter Tryz.func14, Tryz.ntmps14
      go_wp2
      refine bodyPost_ret (v := .bool true) (by simp [results, Tryz.results14, go_sem]) rfl ⟨by rw [HQ.out]; rfl, (Below.refl _ w).alloc (Nat.le_refl _) _⟩

set_option maxHeartbeats 2000000 in
theorem bare_8 (k st n : Int) (nm tx md : ByteArray) (w : World) : Calls Tryz.prog 14 #[.agg #[.int .i64 k, .string nm, .string tx, .string md, .int .i64 st, .int .i64 n], .int .i64 8] w fun e w' => e = .returned (.bool (nm.toList.isEmpty && (tx.toList.isEmpty && (md.toList.isEmpty && ((n == 0)))))) ∧ Below w.heap.size w w' := by
  obtain ⟨R, hR⟩ : ∃ R, R = (nm.toList.isEmpty && (tx.toList.isEmpty && (md.toList.isEmpty && ((n == 0))))) := ⟨_, rfl⟩
  rw [← hR]
  have HQ : Hid (R = (nm.toList.isEmpty && (tx.toList.isEmpty && (md.toList.isEmpty && ((n == 0)))))) := hR
  clear hR
  cases h1 : nm.toList.isEmpty with
  | false =>
    rw [h1] at HQ
    go_enter Tryz.func14, Tryz.ntmps14
    go_wp2
    refine bodyPost_ret (v := .bool false) (by simp [results, Tryz.results14, go_sem]) rfl ⟨by rw [HQ.out]; rfl, (Below.refl _ w).alloc (Nat.le_refl _) _⟩
  | true =>
    rw [h1] at HQ
    cases h2 : tx.toList.isEmpty with
    | false =>
      rw [h2] at HQ
      go_enter Tryz.func14, Tryz.ntmps14
      go_wp2
      refine bodyPost_ret (v := .bool false) (by simp [results, Tryz.results14, go_sem]) rfl ⟨by rw [HQ.out]; rfl, (Below.refl _ w).alloc (Nat.le_refl _) _⟩
    | true =>
      rw [h2] at HQ
      cases h4 : md.toList.isEmpty with
      | false =>
        rw [h4] at HQ
        go_enter Tryz.func14, Tryz.ntmps14
        go_wp2
        refine bodyPost_ret (v := .bool false) (by simp [results, Tryz.results14, go_sem]) rfl ⟨by rw [HQ.out]; rfl, (Below.refl _ w).alloc (Nat.le_refl _) _⟩
      | true =>
        rw [h4] at HQ
        cases h16 : (n == 0) with
        | false =>
          rw [h16] at HQ
          go_enter Tryz.func14, Tryz.ntmps14
          go_wp2
          refine bodyPost_ret (v := .bool false) (by simp [results, Tryz.results14, go_sem]) rfl ⟨by rw [HQ.out]; rfl, (Below.refl _ w).alloc (Nat.le_refl _) _⟩
        | true =>
          rw [h16] at HQ
          go_enter Tryz.func14, Tryz.ntmps14
          go_wp2
          refine bodyPost_ret (v := .bool true) (by simp [results, Tryz.results14, go_sem]) rfl ⟨by rw [HQ.out]; rfl, (Below.refl _ w).alloc (Nat.le_refl _) _⟩

set_option maxHeartbeats 2000000 in
theorem bare_10 (k st n : Int) (nm tx md : ByteArray) (w : World) : Calls Tryz.prog 14 #[.agg #[.int .i64 k, .string nm, .string tx, .string md, .int .i64 st, .int .i64 n], .int .i64 10] w fun e w' => e = .returned (.bool (nm.toList.isEmpty && (md.toList.isEmpty && ((n == 0))))) ∧ Below w.heap.size w w' := by
  obtain ⟨R, hR⟩ : ∃ R, R = (nm.toList.isEmpty && (md.toList.isEmpty && ((n == 0)))) := ⟨_, rfl⟩
  rw [← hR]
  have HQ : Hid (R = (nm.toList.isEmpty && (md.toList.isEmpty && ((n == 0))))) := hR
  clear hR
  cases h1 : nm.toList.isEmpty with
  | false =>
    rw [h1] at HQ
    go_enter Tryz.func14, Tryz.ntmps14
    go_wp2
    refine bodyPost_ret (v := .bool false) (by simp [results, Tryz.results14, go_sem]) rfl ⟨by rw [HQ.out]; rfl, (Below.refl _ w).alloc (Nat.le_refl _) _⟩
  | true =>
    rw [h1] at HQ
    cases h4 : md.toList.isEmpty with
    | false =>
      rw [h4] at HQ
      go_enter Tryz.func14, Tryz.ntmps14
      go_wp2
      refine bodyPost_ret (v := .bool false) (by simp [results, Tryz.results14, go_sem]) rfl ⟨by rw [HQ.out]; rfl, (Below.refl _ w).alloc (Nat.le_refl _) _⟩
    | true =>
      rw [h4] at HQ
      cases h16 : (n == 0) with
      | false =>
        rw [h16] at HQ
        go_enter Tryz.func14, Tryz.ntmps14
        go_wp2
        refine bodyPost_ret (v := .bool false) (by simp [results, Tryz.results14, go_sem]) rfl ⟨by rw [HQ.out]; rfl, (Below.refl _ w).alloc (Nat.le_refl _) _⟩
      | true =>
        rw [h16] at HQ
        go_enter Tryz.func14, Tryz.ntmps14
        go_wp2
        refine bodyPost_ret (v := .bool true) (by simp [results, Tryz.results14, go_sem]) rfl ⟨by rw [HQ.out]; rfl, (Below.refl _ w).alloc (Nat.le_refl _) _⟩

set_option maxHeartbeats 2000000 in
theorem bare_0 (k st n : Int) (nm tx md : ByteArray) (w : World) : Calls Tryz.prog 14 #[.agg #[.int .i64 k, .string nm, .string tx, .string md, .int .i64 st, .int .i64 n], .int .i64 0] w fun e w' => e = .returned (.bool (nm.toList.isEmpty && (tx.toList.isEmpty && (md.toList.isEmpty && ((st == 0) && ((n == 0))))))) ∧ Below w.heap.size w w' := by
  obtain ⟨R, hR⟩ : ∃ R, R = (nm.toList.isEmpty && (tx.toList.isEmpty && (md.toList.isEmpty && ((st == 0) && ((n == 0)))))) := ⟨_, rfl⟩
  rw [← hR]
  have HQ : Hid (R = (nm.toList.isEmpty && (tx.toList.isEmpty && (md.toList.isEmpty && ((st == 0) && ((n == 0))))))) := hR
  clear hR
  cases h1 : nm.toList.isEmpty with
  | false =>
    rw [h1] at HQ
    go_enter Tryz.func14, Tryz.ntmps14
    go_wp2
    refine bodyPost_ret (v := .bool false) (by simp [results, Tryz.results14, go_sem]) rfl ⟨by rw [HQ.out]; rfl, (Below.refl _ w).alloc (Nat.le_refl _) _⟩
  | true =>
    rw [h1] at HQ
    cases h2 : tx.toList.isEmpty with
    | false =>
      rw [h2] at HQ
      go_enter Tryz.func14, Tryz.ntmps14
      go_wp2
      refine bodyPost_ret (v := .bool false) (by simp [results, Tryz.results14, go_sem]) rfl ⟨by rw [HQ.out]; rfl, (Below.refl _ w).alloc (Nat.le_refl _) _⟩
    | true =>
      rw [h2] at HQ
      cases h4 : md.toList.isEmpty with
      | false =>
        rw [h4] at HQ
        go_enter Tryz.func14, Tryz.ntmps14
        go_wp2
        refine bodyPost_ret (v := .bool false) (by simp [results, Tryz.results14, go_sem]) rfl ⟨by rw [HQ.out]; rfl, (Below.refl _ w).alloc (Nat.le_refl _) _⟩
      | true =>
        rw [h4] at HQ
        cases h8 : (st == 0) with
        | false =>
          rw [h8] at HQ
          go_enter Tryz.func14, Tryz.ntmps14
          go_wp2
          refine bodyPost_ret (v := .bool false) (by simp [results, Tryz.results14, go_sem]) rfl ⟨by rw [HQ.out]; rfl, (Below.refl _ w).alloc (Nat.le_refl _) _⟩
        | true =>
          rw [h8] at HQ
          cases h16 : (n == 0) with
          | false =>
            rw [h16] at HQ
            go_enter Tryz.func14, Tryz.ntmps14
            go_wp2
            refine bodyPost_ret (v := .bool false) (by simp [results, Tryz.results14, go_sem]) rfl ⟨by rw [HQ.out]; rfl, (Below.refl _ w).alloc (Nat.le_refl _) _⟩
          | true =>
            rw [h16] at HQ
            go_enter Tryz.func14, Tryz.ntmps14
            go_wp2
            refine bodyPost_ret (v := .bool true) (by simp [results, Tryz.results14, go_sem]) rfl ⟨by rw [HQ.out]; rfl, (Below.refl _ w).alloc (Nat.le_refl _) _⟩

set_option maxHeartbeats 2000000 in
theorem bare_17 (k st n : Int) (nm tx md : ByteArray) (w : World) : Calls Tryz.prog 14 #[.agg #[.int .i64 k, .string nm, .string tx, .string md, .int .i64 st, .int .i64 n], .int .i64 17] w fun e w' => e = .returned (.bool (tx.toList.isEmpty && (md.toList.isEmpty && ((st == 0))))) ∧ Below w.heap.size w w' := by
  obtain ⟨R, hR⟩ : ∃ R, R = (tx.toList.isEmpty && (md.toList.isEmpty && ((st == 0)))) := ⟨_, rfl⟩
  rw [← hR]
  have HQ : Hid (R = (tx.toList.isEmpty && (md.toList.isEmpty && ((st == 0))))) := hR
  clear hR
  cases h2 : tx.toList.isEmpty with
  | false =>
    rw [h2] at HQ
    go_enter Tryz.func14, Tryz.ntmps14
    go_wp2
    refine bodyPost_ret (v := .bool false) (by simp [results, Tryz.results14, go_sem]) rfl ⟨by rw [HQ.out]; rfl, (Below.refl _ w).alloc (Nat.le_refl _) _⟩
  | true =>
    rw [h2] at HQ
    cases h4 : md.toList.isEmpty with
    | false =>
      rw [h4] at HQ
      go_enter Tryz.func14, Tryz.ntmps14
      go_wp2
      refine bodyPost_ret (v := .bool false) (by simp [results, Tryz.results14, go_sem]) rfl ⟨by rw [HQ.out]; rfl, (Below.refl _ w).alloc (Nat.le_refl _) _⟩
    | true =>
      rw [h4] at HQ
      cases h8 : (st == 0) with
      | false =>
        rw [h8] at HQ
        go_enter Tryz.func14, Tryz.ntmps14
        go_wp2
        refine bodyPost_ret (v := .bool false) (by simp [results, Tryz.results14, go_sem]) rfl ⟨by rw [HQ.out]; rfl, (Below.refl _ w).alloc (Nat.le_refl _) _⟩
      | true =>
        rw [h8] at HQ
        go_enter Tryz.func14, Tryz.ntmps14
        go_wp2
        refine bodyPost_ret (v := .bool true) (by simp [results, Tryz.results14, go_sem]) rfl ⟨by rw [HQ.out]; rfl, (Below.refl _ w).alloc (Nat.le_refl _) _⟩

set_option maxHeartbeats 2000000 in
theorem bare_16 (k st n : Int) (nm tx md : ByteArray) (w : World) : Calls Tryz.prog 14 #[.agg #[.int .i64 k, .string nm, .string tx, .string md, .int .i64 st, .int .i64 n], .int .i64 16] w fun e w' => e = .returned (.bool (nm.toList.isEmpty && (tx.toList.isEmpty && (md.toList.isEmpty && ((st == 0)))))) ∧ Below w.heap.size w w' := by
  obtain ⟨R, hR⟩ : ∃ R, R = (nm.toList.isEmpty && (tx.toList.isEmpty && (md.toList.isEmpty && ((st == 0))))) := ⟨_, rfl⟩
  rw [← hR]
  have HQ : Hid (R = (nm.toList.isEmpty && (tx.toList.isEmpty && (md.toList.isEmpty && ((st == 0)))))) := hR
  clear hR
  cases h1 : nm.toList.isEmpty with
  | false =>
    rw [h1] at HQ
    go_enter Tryz.func14, Tryz.ntmps14
    go_wp2
    refine bodyPost_ret (v := .bool false) (by simp [results, Tryz.results14, go_sem]) rfl ⟨by rw [HQ.out]; rfl, (Below.refl _ w).alloc (Nat.le_refl _) _⟩
  | true =>
    rw [h1] at HQ
    cases h2 : tx.toList.isEmpty with
    | false =>
      rw [h2] at HQ
      go_enter Tryz.func14, Tryz.ntmps14
      go_wp2
      refine bodyPost_ret (v := .bool false) (by simp [results, Tryz.results14, go_sem]) rfl ⟨by rw [HQ.out]; rfl, (Below.refl _ w).alloc (Nat.le_refl _) _⟩
    | true =>
      rw [h2] at HQ
      cases h4 : md.toList.isEmpty with
      | false =>
        rw [h4] at HQ
        go_enter Tryz.func14, Tryz.ntmps14
        go_wp2
        refine bodyPost_ret (v := .bool false) (by simp [results, Tryz.results14, go_sem]) rfl ⟨by rw [HQ.out]; rfl, (Below.refl _ w).alloc (Nat.le_refl _) _⟩
      | true =>
        rw [h4] at HQ
        cases h8 : (st == 0) with
        | false =>
          rw [h8] at HQ
          go_enter Tryz.func14, Tryz.ntmps14
          go_wp2
          refine bodyPost_ret (v := .bool false) (by simp [results, Tryz.results14, go_sem]) rfl ⟨by rw [HQ.out]; rfl, (Below.refl _ w).alloc (Nat.le_refl _) _⟩
        | true =>
          rw [h8] at HQ
          go_enter Tryz.func14, Tryz.ntmps14
          go_wp2
          refine bodyPost_ret (v := .bool true) (by simp [results, Tryz.results14, go_sem]) rfl ⟨by rw [HQ.out]; rfl, (Below.refl _ w).alloc (Nat.le_refl _) _⟩

set_option maxHeartbeats 2000000 in
theorem bare_1 (k st n : Int) (nm tx md : ByteArray) (w : World) : Calls Tryz.prog 14 #[.agg #[.int .i64 k, .string nm, .string tx, .string md, .int .i64 st, .int .i64 n], .int .i64 1] w fun e w' => e = .returned (.bool (tx.toList.isEmpty && (md.toList.isEmpty && ((st == 0) && ((n == 0)))))) ∧ Below w.heap.size w w' := by
  obtain ⟨R, hR⟩ : ∃ R, R = (tx.toList.isEmpty && (md.toList.isEmpty && ((st == 0) && ((n == 0))))) := ⟨_, rfl⟩
  rw [← hR]
  have HQ : Hid (R = (tx.toList.isEmpty && (md.toList.isEmpty && ((st == 0) && ((n == 0)))))) := hR
  clear hR
  cases h2 : tx.toList.isEmpty with
  | false =>
    rw [h2] at HQ
    go_enter Tryz.func14, Tryz.ntmps14
    go_wp2
    refine bodyPost_ret (v := .bool false) (by simp [results, Tryz.results14, go_sem]) rfl ⟨by rw [HQ.out]; rfl, (Below.refl _ w).alloc (Nat.le_refl _) _⟩
  | true =>
    rw [h2] at HQ
    cases h4 : md.toList.isEmpty with
    | false =>
      rw [h4] at HQ
      go_enter Tryz.func14, Tryz.ntmps14
      go_wp2
      refine bodyPost_ret (v := .bool false) (by simp [results, Tryz.results14, go_sem]) rfl ⟨by rw [HQ.out]; rfl, (Below.refl _ w).alloc (Nat.le_refl _) _⟩
    | true =>
      rw [h4] at HQ
      cases h8 : (st == 0) with
      | false =>
        rw [h8] at HQ
        go_enter Tryz.func14, Tryz.ntmps14
        go_wp2
        refine bodyPost_ret (v := .bool false) (by simp [results, Tryz.results14, go_sem]) rfl ⟨by rw [HQ.out]; rfl, (Below.refl _ w).alloc (Nat.le_refl _) _⟩
      | true =>
        rw [h8] at HQ
        cases h16 : (n == 0) with
        | false =>
          rw [h16] at HQ
          go_enter Tryz.func14, Tryz.ntmps14
          go_wp2
          refine bodyPost_ret (v := .bool false) (by simp [results, Tryz.results14, go_sem]) rfl ⟨by rw [HQ.out]; rfl, (Below.refl _ w).alloc (Nat.le_refl _) _⟩
        | true =>
          rw [h16] at HQ
          go_enter Tryz.func14, Tryz.ntmps14
          go_wp2
          refine bodyPost_ret (v := .bool true) (by simp [results, Tryz.results14, go_sem]) rfl ⟨by rw [HQ.out]; rfl, (Below.refl _ w).alloc (Nat.le_refl _) _⟩

end Hn
end Go.Proofs.YtmlpohbghobelaaGreatDoor
