/- Several texts as one. -/
import Derived.Test.YthdfgepnadgkjaaGreatDoorZzA
import Derived.Test.YthdfgepnadgkjaaGreatDoorRows
import Derived.WalkKit
import Derived.Shelf.SlSortCmp.QuietGrown
import Derived.Lib.AppendIntMem
import Derived.Test.YthdfgepnadgkjaaGreatDoorZzJ
import Derived.Laws.StructEq
/-
  Worlds that only grew.
-/
set_option linter.unusedVariables false
set_option linter.unusedSimpArgs false
namespace Go.Proofs.YthdfgepnadgkjaaGreatDoor
open Go.RowKit Go.Shelf
open Go.Sort (grow alloc_eq_grow grow_grow grow_empty)
namespace Sn

theorem mixO : Tryz.prog.follows .mixedOrders = true := by kernel_rfl

/-- A world that only grew: draws, new blocks. -/
def Grew (w w' : World) : Prop := ∃ q os, w' = grow (w.drewN q) os
theorem Grew.below {w w' : World} (h : Grew w w') : Below w.heap.size w w' := by
  obtain ⟨q, os, rfl⟩ := h
  exact Lib.below_grow _ w (Nat.le_refl _) q os
theorem Grew.refl (w : World) : Grew w w := ⟨0, #[], by rw [grow_empty]; rfl⟩
theorem Grew.trans {w w1 w2 : World} (h : Grew w w1) (h' : Grew w1 w2) : Grew w w2 := by
  obtain ⟨q, os, rfl⟩ := h
  obtain ⟨q', os', rfl⟩ := h'
  exact ⟨q + q', os ++ os', by show grow (grow ((w.drewN q).drewN q') os) os' = _; rw [grow_grow, World.drewN_drewN]⟩
theorem Grew.alloc {w w1 : World} (h : Grew w w1) (o : Obj) : Grew w (w1.alloc o) := h.trans ⟨0, #[o], by rw [alloc_eq_grow]; rfl⟩
theorem Grew.drewN {w w1 : World} (h : Grew w w1) (k : Nat) : Grew w (w1.drewN k) := h.trans ⟨k, #[], by rw [grow_empty]⟩

end Sn
end Go.Proofs.YthdfgepnadgkjaaGreatDoor

/-
  span: isSpan.
-/
set_option linter.unusedVariables false
set_option linter.unusedSimpArgs false
namespace Go.Proofs.YthdfgepnadgkjaaGreatDoor
open Go.RowKit Go.Shelf
open Go.Sort (grow alloc_eq_grow grow_grow grow_empty)
namespace Sn
open Oc Tg Ac

theorem eqN (a b c d : Int) (w : World) : (binOp .eql 38 (.agg #[.int .i64 a, .int .i64 b]) (.agg #[.int .i64 c, .int .i64 d])).run Tryz.prog w = .ok (.bool (a == c && b == d)) w := by
  have u3 := Tryz.underlying3
  have a3 := Tryz.isAgg3
  have z3 := Tryz.sizeOf3
  have hS : Tryz.prog.underlying 38 = some (.struct (Tryz.prog.fieldsOf 38)) := by kernel_rfl
  have hp : Tryz.prog.stoodInHeld 38 = false := by kernel_rfl
  rw [run_eql_struct, show (10000 : Nat) = 9999 + 1 from rfl, run_equalIn_agg w 9999 38 _ _ hS hp]
  simp only [Program.fieldsOf, Tryz.underlying38]
  go_simp
  by_cases h1 : a = c <;> by_cases h2 : b = d <;> simp [h1, h2]

theorem PB.grown {T : Nat} {w : World} {g : Nat} {t : Sp} (h : PB T w g t) (n : Nat) (os : Array Obj) : PB T (grow (w.drewN n) os) g t := h.below (Grew.below ⟨n, os, rfl⟩)

set_option maxHeartbeats 400000 in
theorem isEmpty_gr (a b : Int) (w : World) :
    Calls Tryz.prog 15 #[.agg #[.int .i64 a, .int .i64 b]] w fun e w' => e = .returned (.bool (emp (a, b))) ∧ ∃ q os, w' = grow (w.drewN q) os := by
  unfold emp
  dsimp only
  go_enter Tryz.func15, Tryz.ntmps15
  go_wp2
  go_ret
  exact ⟨rfl, (Grew.refl w).alloc _⟩

set_option maxHeartbeats 400000 in
theorem within_gr (a b size : Int) (w : World) :
    Calls Tryz.prog 14 #[.agg #[.int .i64 a, .int .i64 b], .int .i64 size] w fun e w' => e = .returned (.agg #[.int .i64 (wth (a, b) size).1, .int .i64 (wth (a, b) size).2]) ∧ ∃ q os, w' = grow (w.drewN q) os := by
  unfold wth
  dsimp only
  go_enter Tryz.func14, Tryz.ntmps14
  go_wp2
  refine bodyPost_ret (v := .agg #[.int .i64 (max a 0), .int .i64 (min b size)]) (by simp [results, Tryz.results14, go_sem]) rfl ?_
  exact ⟨rfl, ((Grew.refl w).alloc _).alloc _⟩

set_option maxRecDepth 100000 in
set_option maxHeartbeats 1000000 in
theorem isSpan_gr (a b size : Int) (w : World) :
    Calls Tryz.prog 44 #[.agg #[.int .i64 a, .int .i64 b], .int .i64 size] w fun e w' => e = .returned (.bool (isSp (a, b) size)) ∧ ∃ q os, w' = grow (w.drewN q) os := by
  have HI : Hid (∀ W, Calls _ _ _ W _) := fun W => isEmpty_gr a b W
  have HW : Hid (∀ W, Calls _ _ _ W _) := fun W => within_gr a b size W
  obtain ⟨w1, hw1⟩ : ∃ w1, w1 = w.alloc (.cells #[.int .i64 a, .int .i64 b] 38) := ⟨_, rfl⟩
  have HPB : Hid (PB 38 w1 w.heap.size (a, b)) := (by rw [hw1]; exact heap_alloc_new w _ : PB _ _ _ _)
  have HB1 : Hid (Grew w w1) := (by rw [hw1]; exact (Grew.refl w).alloc _ : Grew _ _)
  have k0 : ∀ n os, (grow (w1.drewN n) os).cell? ⟨w.heap.size, 0, none⟩ = some (.int .i64 a) := fun n os => (HPB.out.grown n os).c0
  have k1 : ∀ n os, (grow (w1.drewN n) os).cell? ⟨w.heap.size, 1, none⟩ = some (.int .i64 b) := fun n os => (HPB.out.grown n os).c1
  have HEQ := fun y1 y2 w => eqN a b y1 y2 w
  have hmx := mixO
  cases hem : emp (a, b) with
  | true =>
    rw [hem] at HI
    have HS : Hid (isSp (a, b) size = false) := isSp_emp hem size
    clear hem
    go_enter Tryz.func44, Tryz.ntmps44
    go_wp2_with fail
    rw [← hw1]
    clear hw1
    generalize w.heap.size = g at *
    go_quiet_grown (first | (go_at_call 15; refine Calls.grown_of (HI.out _)) | (go_at_call 14; refine Calls.grown_of (HW.out _)))
    go_wp2
    go_ret
    rw [HS.out]
    exact ⟨rfl, HB1.out.trans ⟨nq, osq, rfl⟩⟩
  | false =>
    rw [hem] at HI
    have HS : Hid (isSp (a, b) size = decide ((a, b) = wth (a, b) size)) := isSp_wth hem size
    clear hem
    generalize wth (a, b) size = Y at *
    obtain ⟨y1, y2⟩ := Y
    dsimp only at *
    go_enter Tryz.func44, Tryz.ntmps44
    go_wp2_with fail
    rw [← hw1]
    clear hw1
    generalize w.heap.size = g at *
    go_quiet_grown (first | (go_at_call 15; refine Calls.grown_of (HI.out _)) | (go_at_call 14; refine Calls.grown_of (HW.out _)))
    go_wp2
    go_ret
    rw [HS.out]
    refine ⟨ret_bool ?_, HB1.out.trans ⟨nq, osq, rfl⟩⟩
    rw [Bool.eq_iff_iff]
    simp

end Sn
end Go.Proofs.YthdfgepnadgkjaaGreatDoor

/-
  Numbers in digits: worlds that only grew.
-/
set_option linter.unusedVariables false
set_option linter.unusedSimpArgs false
namespace Go.Proofs.YthdfgepnadgkjaaGreatDoor
open Go.RowKit Go.Shelf
open Go.Sort (grow alloc_eq_grow grow_grow grow_empty)
namespace Sn
open Oc

set_option maxHeartbeats 400000 in
theorem Digits_gr (n : Int) (h0 : -9223372036854775808 ≤ n) (h1 : n ≤ 9223372036854775807) (w : World) (t : Pow w) :
    Calls Tryz.prog 25 #[.int .i64 n] w fun e w' => e = .returned (.string (str (Lib.itoa n))) ∧ ∃ q os, w' = grow (w.drewN q) os := by
  have HT : Hid (Pow w) := t
  clear t
  have hcon := Tryz.strconv_Itoa n h0 h1 w HT.out
  change Calls Tryz.prog 50 _ _ (fun e w' => e = .returned (.string (str (Lib.itoa n))) ∧ ∃ k os, w' = grow (w.drewN k) os) at hcon
  have HC : Hid (Calls Tryz.prog 50 #[.int .i64 n] w (fun e w' => e = .returned (.string (str (Lib.itoa n))) ∧ ∃ k os, w' = grow (w.drewN k) os)) := hcon
  clear hcon
  go_enter Tryz.func25, Tryz.ntmps25
  go_wp2_with fail
  refine HC.out.mono ?_
  rintro e w' ⟨rfl, k, os, rfl⟩
  go_wp2
  go_ret
  exact ⟨rfl, k, os, rfl⟩

end Sn
end Go.Proofs.YthdfgepnadgkjaaGreatDoor
