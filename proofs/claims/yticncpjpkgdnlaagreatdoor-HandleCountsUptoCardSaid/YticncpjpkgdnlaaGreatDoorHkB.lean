/-
  handle: usedBy.., is.. (written by mkhk.py).
-/
import Derived.Test.YticncpjpkgdnlaaGreatDoorMgL
import Derived.Test.YticncpjpkgdnlaaGreatDoorHnE
import Derived.Test.YticncpjpkgdnlaaGreatDoorHrF
set_option linter.unusedVariables false
set_option linter.unusedSimpArgs false
set_option maxRecDepth 100000
namespace Go.Proofs.YticncpjpkgdnlaaGreatDoor
open Go.RowKit Go.Shelf
namespace Hn
open Oc Tg _root_.Go.Proofs.YticncpjpkgdnlaaGreatDoor.Fd _root_.Go.Proofs.YticncpjpkgdnlaaGreatDoor.Ck _root_.Go.Proofs.YticncpjpkgdnlaaGreatDoor.Ms

set_option maxHeartbeats 1000000 in
theorem usedByStatus_any (k st n : Int) (nm tx md : ByteArray) (w : World) : Calls Tryz.prog 17 #[.agg #[.int .i64 k, .string nm, .string tx, .string md, .int .i64 st, .int .i64 n]] w fun e w' => e = .returned (.agg #[.int .i64 k, .string ⟨#[]⟩, .string ⟨#[]⟩, .string ⟨#[]⟩, .int .i64 st, .int .i64 0]) ∧ Below w.heap.size w w' := by
  go_enter Tryz.func17, Tryz.ntmps17
  go_wp2
  refine bodyPost_ret (v := .agg #[.int .i64 k, .string ⟨#[]⟩, .string ⟨#[]⟩, .string ⟨#[]⟩, .int .i64 st, .int .i64 0]) (by simp [results, Tryz.results17, go_sem]) rfl ⟨rfl, ?_⟩
  exact ((Below.refl _ w).alloc (Nat.le_refl _) _).alloc (by simp) _

set_option maxHeartbeats 1000000 in
theorem usedByRedirect_any (k st n : Int) (nm tx md : ByteArray) (w : World) : Calls Tryz.prog 20 #[.agg #[.int .i64 k, .string nm, .string tx, .string md, .int .i64 st, .int .i64 n]] w fun e w' => e = .returned (.agg #[.int .i64 k, .string ⟨#[]⟩, .string tx, .string ⟨#[]⟩, .int .i64 st, .int .i64 0]) ∧ Below w.heap.size w w' := by
  go_enter Tryz.func20, Tryz.ntmps20
  go_wp2
  refine bodyPost_ret (v := .agg #[.int .i64 k, .string ⟨#[]⟩, .string tx, .string ⟨#[]⟩, .int .i64 st, .int .i64 0]) (by simp [results, Tryz.results20, go_sem]) rfl ⟨rfl, ?_⟩
  exact ((Below.refl _ w).alloc (Nat.le_refl _) _).alloc (by simp) _

set_option maxHeartbeats 1000000 in
theorem usedByStatic_any (k st n : Int) (nm tx md : ByteArray) (w : World) : Calls Tryz.prog 27 #[.agg #[.int .i64 k, .string nm, .string tx, .string md, .int .i64 st, .int .i64 n]] w fun e w' => e = .returned (.agg #[.int .i64 k, .string nm, .string ⟨#[]⟩, .string ⟨#[]⟩, .int .i64 0, .int .i64 n]) ∧ Below w.heap.size w w' := by
  go_enter Tryz.func27, Tryz.ntmps27
  go_wp2
  refine bodyPost_ret (v := .agg #[.int .i64 k, .string nm, .string ⟨#[]⟩, .string ⟨#[]⟩, .int .i64 0, .int .i64 n]) (by simp [results, Tryz.results27, go_sem]) rfl ⟨rfl, ?_⟩
  exact ((Below.refl _ w).alloc (Nat.le_refl _) _).alloc (by simp) _

set_option maxHeartbeats 1000000 in
theorem usedByForm_any (k st n : Int) (nm tx md : ByteArray) (w : World) : Calls Tryz.prog 30 #[.agg #[.int .i64 k, .string nm, .string tx, .string md, .int .i64 st, .int .i64 n]] w fun e w' => e = .returned (.agg #[.int .i64 k, .string ⟨#[]⟩, .string ⟨#[]⟩, .string ⟨#[]⟩, .int .i64 0, .int .i64 n]) ∧ Below w.heap.size w w' := by
  go_enter Tryz.func30, Tryz.ntmps30
  go_wp2
  refine bodyPost_ret (v := .agg #[.int .i64 k, .string ⟨#[]⟩, .string ⟨#[]⟩, .string ⟨#[]⟩, .int .i64 0, .int .i64 n]) (by simp [results, Tryz.results30, go_sem]) rfl ⟨rfl, ?_⟩
  exact ((Below.refl _ w).alloc (Nat.le_refl _) _).alloc (by simp) _

set_option maxHeartbeats 1000000 in
theorem usedByCount_any (k st n : Int) (nm tx md : ByteArray) (w : World) : Calls Tryz.prog 33 #[.agg #[.int .i64 k, .string nm, .string tx, .string md, .int .i64 st, .int .i64 n]] w fun e w' => e = .returned (.agg #[.int .i64 k, .string nm, .string ⟨#[]⟩, .string ⟨#[]⟩, .int .i64 0, .int .i64 0]) ∧ Below w.heap.size w w' := by
  go_enter Tryz.func33, Tryz.ntmps33
  go_wp2
  refine bodyPost_ret (v := .agg #[.int .i64 k, .string nm, .string ⟨#[]⟩, .string ⟨#[]⟩, .int .i64 0, .int .i64 0]) (by simp [results, Tryz.results33, go_sem]) rfl ⟨rfl, ?_⟩
  exact ((Below.refl _ w).alloc (Nat.le_refl _) _).alloc (by simp) _

set_option maxHeartbeats 1000000 in
theorem isStatus_any (k st n : Int) (nm tx md : ByteArray) (w : World) : Calls Tryz.prog 18 #[.agg #[.int .i64 k, .string nm, .string tx, .string md, .int .i64 st, .int .i64 n]] w fun e w' => e = .returned (.bool (statB st)) ∧ Below w.heap.size w w' := by
  by_cases a : 200 ≤ st
  · by_cases b : st ≤ 599
    · have HQ : Hid (statB st = true) := (by unfold statB; rw [decide_eq_true a, decide_eq_true b]; rfl : _ = _)
      go_enter Tryz.func18, Tryz.ntmps18
      go_wp2
      refine bodyPost_ret (v := .bool true) (by simp [results, Tryz.results18, go_sem]) rfl ⟨by rw [HQ.out], (Below.refl _ w).alloc (Nat.le_refl _) _⟩
    · have HQ : Hid (statB st = false) := (by unfold statB; rw [decide_eq_false b]; simp : _ = _)
      go_enter Tryz.func18, Tryz.ntmps18
      go_wp2
      refine bodyPost_ret (v := .bool false) (by simp [results, Tryz.results18, go_sem]) rfl ⟨by rw [HQ.out], (Below.refl _ w).alloc (Nat.le_refl _) _⟩
  · have HQ : Hid (statB st = false) := (by unfold statB; rw [decide_eq_false a]; simp : _ = _)
    go_enter Tryz.func18, Tryz.ntmps18
    go_wp2
    refine bodyPost_ret (v := .bool false) (by simp [results, Tryz.results18, go_sem]) rfl ⟨by rw [HQ.out], (Below.refl _ w).alloc (Nat.le_refl _) _⟩

set_option maxHeartbeats 1000000 in
theorem isBare_any (st : Int) (w : World) : Calls Tryz.prog 40 #[.int .i64 st] w fun e w' => e = .returned (.bool (bareB st)) ∧ w' = w := by
  have HQ : Hid (bareB st = ((st == 204) || (st == 304))) := rfl
  generalize bareB st = R at *
  cases a : (st == 204) with
  | true =>
    rw [a] at HQ
    go_enter Tryz.func40, Tryz.ntmps40
    go_wp2
    refine bodyPost_ret (v := .bool true) (by simp [results, Tryz.results40, go_sem]) rfl ⟨by rw [HQ.out]; rfl, rfl⟩
  | false =>
    rw [a] at HQ
    cases b : (st == 304) with
    | true =>
      rw [b] at HQ
      go_enter Tryz.func40, Tryz.ntmps40
      go_wp2
      refine bodyPost_ret (v := .bool true) (by simp [results, Tryz.results40, go_sem]) rfl ⟨by rw [HQ.out]; rfl, rfl⟩
    | false =>
      rw [b] at HQ
      go_enter Tryz.func40, Tryz.ntmps40
      go_wp2
      refine bodyPost_ret (v := .bool false) (by simp [results, Tryz.results40, go_sem]) rfl ⟨by rw [HQ.out]; rfl, rfl⟩

set_option maxHeartbeats 2000000 in
theorem isMoved_any (st : Int) (w : World) : Calls Tryz.prog 43 #[.int .i64 st] w fun e w' => e = .returned (.bool (movB st)) ∧ w' = w := by
  have HQ : Hid (movB st = ((st == 301) || ((st == 302) || ((st == 303) || ((st == 307) || (st == 308)))))) := rfl
  generalize movB st = R at *
  cases a301 : (st == 301) with
  | true =>
    rw [a301] at HQ
    go_enter Tryz.func43, Tryz.ntmps43
    go_wp2
    refine bodyPost_ret (v := .bool true) (by simp [results, Tryz.results43, go_sem]) rfl ⟨by rw [HQ.out]; rfl, rfl⟩
  | false =>
    rw [a301] at HQ
    cases a302 : (st == 302) with
    | true =>
      rw [a302] at HQ
      go_enter Tryz.func43, Tryz.ntmps43
      go_wp2
      refine bodyPost_ret (v := .bool true) (by simp [results, Tryz.results43, go_sem]) rfl ⟨by rw [HQ.out]; rfl, rfl⟩
    | false =>
      rw [a302] at HQ
      cases a303 : (st == 303) with
      | true =>
        rw [a303] at HQ
        go_enter Tryz.func43, Tryz.ntmps43
        go_wp2
        refine bodyPost_ret (v := .bool true) (by simp [results, Tryz.results43, go_sem]) rfl ⟨by rw [HQ.out]; rfl, rfl⟩
      | false =>
        rw [a303] at HQ
        cases a307 : (st == 307) with
        | true =>
          rw [a307] at HQ
          go_enter Tryz.func43, Tryz.ntmps43
          go_wp2
          refine bodyPost_ret (v := .bool true) (by simp [results, Tryz.results43, go_sem]) rfl ⟨by rw [HQ.out]; rfl, rfl⟩
        | false =>
          rw [a307] at HQ
          cases a308 : (st == 308) with
          | true =>
            rw [a308] at HQ
            go_enter Tryz.func43, Tryz.ntmps43
            go_wp2
            refine bodyPost_ret (v := .bool true) (by simp [results, Tryz.results43, go_sem]) rfl ⟨by rw [HQ.out]; rfl, rfl⟩
          | false =>
            rw [a308] at HQ
            go_enter Tryz.func43, Tryz.ntmps43
            go_wp2
            refine bodyPost_ret (v := .bool false) (by simp [results, Tryz.results43, go_sem]) rfl ⟨by rw [HQ.out]; rfl, rfl⟩

set_option maxHeartbeats 1000000 in
theorem isMedia_any (s : ByteArray) (hs : s.size ≤ maxLen) (w : World) : Calls Tryz.prog 41 #[.string s] w fun e w' => e = .returned (.bool (medB s)) ∧ Below w.heap.size w w' := by
  have HI : Hid (Calls _ _ _ _ _) := IsValue_any s hs w
  have HQ : Hid (medB s = (!s.toList.isEmpty && isValue s.data.toList)) := rfl
  generalize medB s = R at *
  generalize isValue s.data.toList = V at *
  cases a : s.toList.isEmpty with
  | true =>
    rw [a] at HQ
    clear HI
    go_enter Tryz.func41, Tryz.ntmps41
    go_wp2
    refine bodyPost_ret (v := .bool false) (by simp [results, Tryz.results41, go_sem]) rfl ⟨by rw [HQ.out]; rfl, Below.refl _ _⟩
  | false =>
    rw [a] at HQ
    go_enter Tryz.func41, Tryz.ntmps41
    go_wp2_with fail
    refine HI.out.mono ?_
    rintro e w' ⟨rfl, hb⟩
    have HB : Hid (Below w.heap.size w w') := hb
    clear hb HI
    go_wp2
    refine bodyPost_ret (v := .bool V) (by simp [results, Tryz.results41, go_sem]) rfl ⟨by rw [HQ.out]; rfl, HB.out⟩

set_option maxHeartbeats 2000000 in
theorem isText_any (k st n : Int) (nm tx md : ByteArray) (hm : md.size ≤ maxLen) (w : World) : Calls Tryz.prog 15 #[.agg #[.int .i64 k, .string nm, .string tx, .string md, .int .i64 st, .int .i64 n]] w fun e w' => e = .returned (.bool (statB st && (!bareB st && medB md))) ∧ Below w.heap.size w w' := by
  obtain ⟨w1, hw1⟩ : ∃ w1, w1 = w.alloc (.cells #[.int .i64 k, .string nm, .string tx, .string md, .int .i64 st, .int .i64 n] 39) := ⟨_, rfl⟩
  have hb1 : Below w.heap.size w w1 := by rw [hw1]; exact (Below.refl _ w).alloc (Nat.le_refl _) _
  have hR1 : Blk 39 w1 w.heap.size [.int .i64 k, .string nm, .string tx, .string md, .int .i64 st, .int .i64 n] := by rw [hw1]; exact heap_alloc_new w _
  have HR1 : Hid (Blk 39 w1 w.heap.size [.int .i64 k, .string nm, .string tx, .string md, .int .i64 st, .int .i64 n]) := hR1
  have HB1 : Hid (Below w.heap.size w w1) := hb1
  have HW1 : Hid (w1 = _) := hw1
  have HS : Hid (Calls _ _ _ _ _) := isStatus_any k st n nm tx md w1
  have HBr : Hid (∀ W, Calls _ _ _ W _) := fun W => isBare_any st W
  have HMd : Hid (∀ W, Calls _ _ _ W _) := fun W => isMedia_any md hm W
  clear hw1 hb1 hR1
  generalize statB st = S at *
  generalize bareB st = Br at *
  generalize medB md = M at *
  go_enter Tryz.func15, Tryz.ntmps15
  go_wp2_with fail
  try rw [← HW1.out]
  refine HS.out.mono ?_
  rintro e w2 ⟨rfl, hb2⟩
  have HB2 : Hid (Below w.heap.size w w2) := bel_tr HB1.out hb2 HB1.out.size
  have HR2 : Hid (Blk 39 w2 w.heap.size [.int .i64 k, .string nm, .string tx, .string md, .int .i64 st, .int .i64 n]) := HR1.out.below hb2
  have r3 := HR2.out.cell 3 rfl
  have r4 := HR2.out.cell 4 rfl
  clear hb2 HS
  cases S with
  | false =>
    go_wp2
    refine bodyPost_ret (v := .bool false) (by simp [results, Tryz.results15, go_sem]) rfl ⟨rfl, HB2.out⟩
  | true =>
    go_wp2_with fail
    refine (HBr.out _).mono ?_
    rintro e w3 ⟨rfl, hw3⟩
    rw [hw3]
    clear hw3 HBr
    cases Br with
    | true =>
      go_wp2
      refine bodyPost_ret (v := .bool false) (by simp [results, Tryz.results15, go_sem]) rfl ⟨rfl, HB2.out⟩
    | false =>
      go_wp2_with fail
      refine (HMd.out _).mono ?_
      rintro e w4 ⟨rfl, hb4⟩
      have HB4 : Hid (Below w.heap.size w w4) := bel_tr HB2.out hb4 HB2.out.size
      clear hb4
      go_wp2
      refine bodyPost_ret (v := .bool M) (by simp [results, Tryz.results15, go_sem]) rfl ⟨by cases M <;> rfl, HB4.out⟩

theorem rdA_none (w : World) : RdA (.slice none 0 0) [] w := ⟨none, 0, rfl, .inl rfl⟩
set_option maxHeartbeats 2000000 in
theorem isRedirect_any (k st n : Int) (nm tx md : ByteArray) (ht : tx.size ≤ 1048576) (w : World) : Calls Tryz.prog 21 #[.agg #[.int .i64 k, .string nm, .string tx, .string md, .int .i64 st, .int .i64 n]] w fun e w' => e = .returned (.bool (movB st && ((refR [] tx.data.toList).2 == 0))) ∧ Below w.heap.size w w' := by
  obtain ⟨w1, hw1⟩ : ∃ w1, w1 = w.alloc (.cells #[.int .i64 k, .string nm, .string tx, .string md, .int .i64 st, .int .i64 n] 39) := ⟨_, rfl⟩
  have hb1 : Below w.heap.size w w1 := by rw [hw1]; exact (Below.refl _ w).alloc (Nat.le_refl _) _
  have hR1 : Blk 39 w1 w.heap.size [.int .i64 k, .string nm, .string tx, .string md, .int .i64 st, .int .i64 n] := by rw [hw1]; exact heap_alloc_new w _
  have HR1 : Hid (Blk 39 w1 w.heap.size [.int .i64 k, .string nm, .string tx, .string md, .int .i64 st, .int .i64 n]) := hR1
  have HB1 : Hid (Below w.heap.size w w1) := hb1
  have HW1 : Hid (w1 = _) := hw1
  have HRf : Hid (Calls _ _ _ _ _) := Refer_any tx ht (.slice none 0 0) [] (fun p hp => by cases hp) (by simp) w1 (rdA_none w1)
  have HMv : Hid (∀ W, Calls _ _ _ W _) := fun W => isMoved_any st W
  have r2 := HR1.out.cell 2 rfl
  clear hb1 hR1
  generalize movB st = M at *
  generalize str (refR [] tx.data.toList).1 = X at *
  generalize (refR [] tx.data.toList).2 = E at *
  have HQ : Hid ((M && (E == 0)) = (M && (E == 0))) := rfl
  generalize hR : (M && (E == 0)) = R
  rw [hR] at HQ
  have HQ : Hid (R = (M && (E == 0))) := hR.symm
  clear hR
  rw [hw1] at r2
  clear hw1
  go_enter Tryz.func21, Tryz.ntmps21
  go_wp2_with fail
  try rw [← HW1.out]
  refine HRf.out.mono ?_
  rintro e w2 ⟨rfl, hb2⟩
  have HB2 : Hid (Below w.heap.size w w2) := bel_tr HB1.out hb2 HB1.out.size
  have HR2 : Hid (Blk 39 w2 w.heap.size [.int .i64 k, .string nm, .string tx, .string md, .int .i64 st, .int .i64 n]) := HR1.out.below hb2
  have r4 := HR2.out.cell 4 rfl
  clear hb2 HRf r2
  go_wp2_with fail
  refine (HMv.out _).mono ?_
  rintro e w3 ⟨rfl, hw3⟩
  rw [hw3]
  clear hw3 HMv
  cases M with
  | false =>
    go_wp2
    refine bodyPost_ret (v := .bool false) (by simp [results, Tryz.results21, go_sem]) rfl ⟨by rw [HQ.out]; rfl, HB2.out⟩
  | true =>
    cases hE : (E == 0) with
    | true =>
      rw [hE] at HQ
      go_wp2
      refine bodyPost_ret (v := .bool true) (by simp [results, Tryz.results21, go_sem]) rfl ⟨by rw [HQ.out]; rfl, HB2.out⟩
    | false =>
      rw [hE] at HQ
      go_wp2
      refine bodyPost_ret (v := .bool false) (by simp [results, Tryz.results21, go_sem]) rfl ⟨by rw [HQ.out]; rfl, HB2.out⟩

set_option maxHeartbeats 2000000 in
theorem isStatic_any (k st n : Int) (nm tx md : ByteArray) (hn : nm.size ≤ maxLen) (w : World) : Calls Tryz.prog 28 #[.agg #[.int .i64 k, .string nm, .string tx, .string md, .int .i64 st, .int .i64 n]] w fun e w' => e = .returned (.bool ((E0 nm || isNm nm.data.toList) && ((n == 0) || (n == 1)))) ∧ Below w.heap.size w w' := by
  obtain ⟨w1, hw1⟩ : ∃ w1, w1 = w.alloc (.cells #[.int .i64 k, .string nm, .string tx, .string md, .int .i64 st, .int .i64 n] 39) := ⟨_, rfl⟩
  have hb1 : Below w.heap.size w w1 := by rw [hw1]; exact (Below.refl _ w).alloc (Nat.le_refl _) _
  have hR1 : Blk 39 w1 w.heap.size [.int .i64 k, .string nm, .string tx, .string md, .int .i64 st, .int .i64 n] := by rw [hw1]; exact heap_alloc_new w _
  have HR1 : Hid (Blk 39 w1 w.heap.size [.int .i64 k, .string nm, .string tx, .string md, .int .i64 st, .int .i64 n]) := hR1
  have HB1 : Hid (Below w.heap.size w w1) := hb1
  have HW1 : Hid (w1 = _) := hw1
  have HNm : Hid (Calls _ _ _ _ _) := isName_any nm hn w1
  unfold E0
  have r1 := HR1.out.cell 1 rfl
  have r5 := HR1.out.cell 5 rfl
  clear hb1 hR1
  generalize isNm nm.data.toList = Q at *
  obtain ⟨R, hR⟩ : ∃ R, R = ((nm.toList.isEmpty || Q) && ((n == 0) || (n == 1))) := ⟨_, rfl⟩
  rw [← hR]
  have HQ : Hid (R = ((nm.toList.isEmpty || Q) && ((n == 0) || (n == 1)))) := hR
  clear hR
  cases hE : nm.toList.isEmpty with
  | true =>
    rw [hE] at HQ
    have HQ : Hid (R = ((n == 0) || (n == 1))) := (by rw [HQ.out]; simp : R = _)
    clear HNm
    rw [hw1] at r1 r5
    rw [hw1] at HB1
    clear HW1 HR1 hw1
    go_enter Tryz.func28, Tryz.ntmps28
    cases h0 : (n == 0) with
    | true =>
      rw [h0] at HQ
      go_wp2
      refine bodyPost_ret (v := .bool true) (by simp [results, Tryz.results28, go_sem]) rfl ⟨by rw [HQ.out]; rfl, HB1.out⟩
    | false =>
      rw [h0] at HQ
      cases h1 : (n == 1) with
      | true =>
        rw [h1] at HQ
        go_wp2
        refine bodyPost_ret (v := .bool true) (by simp [results, Tryz.results28, go_sem]) rfl ⟨by rw [HQ.out]; rfl, HB1.out⟩
      | false =>
        rw [h1] at HQ
        go_wp2
        refine bodyPost_ret (v := .bool false) (by simp [results, Tryz.results28, go_sem]) rfl ⟨by rw [HQ.out]; rfl, HB1.out⟩
  | false =>
    rw [hE] at HQ
    rw [hw1] at r1 r5
    clear hw1
    go_enter Tryz.func28, Tryz.ntmps28
    go_wp2_with fail
    try rw [← HW1.out]
    refine HNm.out.mono ?_
    rintro e w2 ⟨rfl, hb2⟩
    have HB2 : Hid (Below w.heap.size w w2) := bel_tr HB1.out hb2 HB1.out.size
    have HR2 : Hid (Blk 39 w2 w.heap.size [.int .i64 k, .string nm, .string tx, .string md, .int .i64 st, .int .i64 n]) := HR1.out.below hb2
    clear r5
    have r5 := HR2.out.cell 5 rfl
    clear hb2 HNm r1
    cases Q with
    | false =>
      go_wp2
      refine bodyPost_ret (v := .bool false) (by simp [results, Tryz.results28, go_sem]) rfl ⟨by rw [HQ.out]; rfl, HB2.out⟩
    | true =>
      cases h0 : (n == 0) with
      | true =>
        rw [h0] at HQ
        go_wp2
        refine bodyPost_ret (v := .bool true) (by simp [results, Tryz.results28, go_sem]) rfl ⟨by rw [HQ.out]; rfl, HB2.out⟩
      | false =>
        rw [h0] at HQ
        cases h1 : (n == 1) with
        | true =>
          rw [h1] at HQ
          go_wp2
          refine bodyPost_ret (v := .bool true) (by simp [results, Tryz.results28, go_sem]) rfl ⟨by rw [HQ.out]; rfl, HB2.out⟩
        | false =>
          rw [h1] at HQ
          go_wp2
          refine bodyPost_ret (v := .bool false) (by simp [results, Tryz.results28, go_sem]) rfl ⟨by rw [HQ.out]; rfl, HB2.out⟩

set_option maxHeartbeats 1000000 in
theorem isForm_any (k st n : Int) (nm tx md : ByteArray) (w : World) : Calls Tryz.prog 31 #[.agg #[.int .i64 k, .string nm, .string tx, .string md, .int .i64 st, .int .i64 n]] w fun e w' => e = .returned (.bool (decide (1 ≤ n) && decide (n ≤ 1000))) ∧ Below w.heap.size w w' := by
  obtain ⟨R, hR⟩ : ∃ R, R = (decide (1 ≤ n) && decide (n ≤ 1000)) := ⟨_, rfl⟩
  rw [← hR]
  have HR : Hid (R = (decide (1 ≤ n) && decide (n ≤ 1000))) := hR
  clear hR
  by_cases a : 1 ≤ n
  · by_cases b : n ≤ 1000
    · have HQ : Hid (R = true) := (by rw [HR.out, decide_eq_true a, decide_eq_true b]; rfl : _ = _)
      go_enter Tryz.func31, Tryz.ntmps31
      go_wp2
      refine bodyPost_ret (v := .bool true) (by simp [results, Tryz.results31, go_sem]) rfl ⟨by rw [HQ.out], (Below.refl _ w).alloc (Nat.le_refl _) _⟩
    · have HQ : Hid (R = false) := (by rw [HR.out, decide_eq_false b]; simp : _ = _)
      go_enter Tryz.func31, Tryz.ntmps31
      go_wp2
      refine bodyPost_ret (v := .bool false) (by simp [results, Tryz.results31, go_sem]) rfl ⟨by rw [HQ.out], (Below.refl _ w).alloc (Nat.le_refl _) _⟩
  · have HQ : Hid (R = false) := (by rw [HR.out, decide_eq_false a]; simp : _ = _)
    go_enter Tryz.func31, Tryz.ntmps31
    go_wp2
    refine bodyPost_ret (v := .bool false) (by simp [results, Tryz.results31, go_sem]) rfl ⟨by rw [HQ.out], (Below.refl _ w).alloc (Nat.le_refl _) _⟩

set_option maxHeartbeats 1000000 in
theorem isCount_any (k st n : Int) (nm tx md : ByteArray) (hn : nm.size ≤ maxLen) (w : World) (tb : Tab w) : Calls Tryz.prog 34 #[.agg #[.int .i64 k, .string nm, .string tx, .string md, .int .i64 st, .int .i64 n]] w fun e w' => e = .returned (.bool (isTok nm.data.toList)) ∧ Below w.heap.size w w' := by
  obtain ⟨w1, hw1⟩ : ∃ w1, w1 = w.alloc (.cells #[.int .i64 k, .string nm, .string tx, .string md, .int .i64 st, .int .i64 n] 39) := ⟨_, rfl⟩
  have hb1 : Below w.heap.size w w1 := by rw [hw1]; exact (Below.refl _ w).alloc (Nat.le_refl _) _
  have hR1 : Blk 39 w1 w.heap.size [.int .i64 k, .string nm, .string tx, .string md, .int .i64 st, .int .i64 n] := by rw [hw1]; exact heap_alloc_new w _
  have HR1 : Hid (Blk 39 w1 w.heap.size [.int .i64 k, .string nm, .string tx, .string md, .int .i64 st, .int .i64 n]) := hR1
  have HB1 : Hid (Below w.heap.size w w1) := hb1
  have HW1 : Hid (w1 = _) := hw1
  have HT : Hid (Calls _ _ _ _ _) := IsToken_any nm hn w1 (tb.below hb1 (Nat.le_refl _))
  have r1 := HR1.out.cell 1 rfl
  clear hb1 hR1
  generalize isTok nm.data.toList = Q at *
  rw [hw1] at r1
  clear hw1
  go_enter Tryz.func34, Tryz.ntmps34
  go_wp2_with fail
  try rw [← HW1.out]
  refine HT.out.mono ?_
  rintro e w2 ⟨rfl, hb2⟩
  have HB2 : Hid (Below w.heap.size w w2) := bel_tr HB1.out hb2 HB1.out.size
  clear hb2 HT
  go_wp2
  refine bodyPost_ret (v := .bool Q) (by simp [results, Tryz.results34, go_sem]) rfl ⟨rfl, HB2.out⟩

end Hn
end Go.Proofs.YticncpjpkgdnlaaGreatDoor
