/-
  span: isSpan.
-/
import Derived.Test.YtbgbidjngjdceaaDoorSnS
import Derived.Laws.StructEq
import Derived.Test.YtbgbidjngjdceaaDoorSnG
set_option linter.unusedVariables false
set_option linter.unusedSimpArgs false
namespace Go.Proofs.YtbgbidjngjdceaaDoor
open Go.RowKit Go.Shelf
open Go.Sort (grow alloc_eq_grow grow_grow grow_empty)
namespace Sn
open Oc Tg Ac

theorem eqN (a b c d : Int) (w : World) : (binOp .eql 44 (.agg #[.int .i64 a, .int .i64 b]) (.agg #[.int .i64 c, .int .i64 d])).run Tryd.prog w = .ok (.bool (a == c && b == d)) w := by
  have u3 := Tryd.underlying3
  have a3 := Tryd.isAgg3
  have z3 := Tryd.sizeOf3
  have hS : Tryd.prog.underlying 44 = some (.struct (Tryd.prog.fieldsOf 44)) := by kernel_rfl
  have hp : Tryd.prog.stoodInHeld 44 = false := by kernel_rfl
  rw [run_eql_struct, show (10000 : Nat) = 9999 + 1 from rfl, run_equalIn_agg w 9999 44 _ _ hS hp]
  simp only [Program.fieldsOf, Tryd.underlying44]
  go_simp
  by_cases h1 : a = c <;> by_cases h2 : b = d <;> simp [h1, h2]

theorem PB.grown {T : Nat} {w : World} {g : Nat} {t : Sp} (h : PB T w g t) (n : Nat) (os : Array Obj) : PB T (grow (w.drewN n) os) g t := h.below (Grew.below ⟨n, os, rfl⟩)

set_option maxHeartbeats 400000 in
theorem isEmpty_gr (a b : Int) (w : World) :
    Calls Tryd.prog 31 #[.agg #[.int .i64 a, .int .i64 b]] w fun e w' => e = .returned (.bool (emp (a, b))) ∧ ∃ q os, w' = grow (w.drewN q) os := by
  unfold emp
  dsimp only
  go_enter Tryd.func31, Tryd.ntmps31
  go_wp2
  go_ret
  exact ⟨rfl, (Grew.refl w).alloc _⟩

set_option maxHeartbeats 400000 in
theorem within_gr (a b size : Int) (w : World) :
    Calls Tryd.prog 30 #[.agg #[.int .i64 a, .int .i64 b], .int .i64 size] w fun e w' => e = .returned (.agg #[.int .i64 (wth (a, b) size).1, .int .i64 (wth (a, b) size).2]) ∧ ∃ q os, w' = grow (w.drewN q) os := by
  unfold wth
  dsimp only
  go_enter Tryd.func30, Tryd.ntmps30
  go_wp2
  refine bodyPost_ret (v := .agg #[.int .i64 (max a 0), .int .i64 (min b size)]) (by simp [results, Tryd.results30, go_sem]) rfl ?_
  exact ⟨rfl, ((Grew.refl w).alloc _).alloc _⟩

set_option maxRecDepth 100000 in
set_option maxHeartbeats 1000000 in
theorem isSpan_gr (a b size : Int) (w : World) :
    Calls Tryd.prog 44 #[.agg #[.int .i64 a, .int .i64 b], .int .i64 size] w fun e w' => e = .returned (.bool (isSp (a, b) size)) ∧ ∃ q os, w' = grow (w.drewN q) os := by
  have HI : Hid (∀ W, Calls _ _ _ W _) := fun W => isEmpty_gr a b W
  have HW : Hid (∀ W, Calls _ _ _ W _) := fun W => within_gr a b size W
  obtain ⟨w1, hw1⟩ : ∃ w1, w1 = w.alloc (.cells #[.int .i64 a, .int .i64 b] 44) := ⟨_, rfl⟩
  have HPB : Hid (PB 44 w1 w.heap.size (a, b)) := (by rw [hw1]; exact heap_alloc_new w _ : PB _ _ _ _)
  have HB1 : Hid (Grew w w1) := (by rw [hw1]; exact (Grew.refl w).alloc _ : Grew _ _)
  have k0 : ∀ n os, (grow (w1.drewN n) os).cell? ⟨w.heap.size, 0, none⟩ = some (.int .i64 a) := fun n os => (HPB.out.grown n os).c0
  have k1 : ∀ n os, (grow (w1.drewN n) os).cell? ⟨w.heap.size, 1, none⟩ = some (.int .i64 b) := fun n os => (HPB.out.grown n os).c1
  have HEQ := fun y1 y2 w => eqN a b y1 y2 w
  have hmx := mixO
  cases hem : emp (a, b) with
  | true =>
    rw [hem] at HI
    have HS : Hid (isSp (a, b) size = false) := isSp_emp hem size
    clear hem
    go_enter Tryd.func44, Tryd.ntmps44
    go_wp2_with fail
    rw [← hw1]
    clear hw1
    generalize w.heap.size = g at *
    go_quiet_grown (first | (go_at_call 31; refine Calls.grown_of (HI.out _)) | (go_at_call 30; refine Calls.grown_of (HW.out _)))
    go_wp2
    go_ret
    rw [HS.out]
    exact ⟨rfl, HB1.out.trans ⟨nq, osq, rfl⟩⟩
  | false =>
    rw [hem] at HI
    have HS : Hid (isSp (a, b) size = decide ((a, b) = wth (a, b) size)) := isSp_wth hem size
    clear hem
    generalize wth (a, b) size = Y at *
    obtain ⟨y1, y2⟩ := Y
    dsimp only at *
    go_enter Tryd.func44, Tryd.ntmps44
    go_wp2_with fail
    rw [← hw1]
    clear hw1
    generalize w.heap.size = g at *
    go_quiet_grown (first | (go_at_call 31; refine Calls.grown_of (HI.out _)) | (go_at_call 30; refine Calls.grown_of (HW.out _)))
    go_wp2
    go_ret
    rw [HS.out]
    refine ⟨ret_bool ?_, HB1.out.trans ⟨nq, osq, rfl⟩⟩
    rw [Bool.eq_iff_iff]
    simp

end Sn
end Go.Proofs.YtbgbidjngjdceaaDoor
