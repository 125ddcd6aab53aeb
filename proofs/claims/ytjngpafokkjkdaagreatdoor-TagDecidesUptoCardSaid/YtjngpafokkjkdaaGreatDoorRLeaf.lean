/-
  Contracts of the document's calendar.
-/
import Derived.Test.YtjngpafokkjkdaaGreatDoorSLeaf2
import Derived.Test.YtjngpafokkjkdaaGreatDoorWPlain4
set_option linter.unusedVariables false
set_option linter.unusedSimpArgs false
namespace Go.Proofs.YtjngpafokkjkdaaGreatDoor
open Go.RowKit
namespace Bs

set_option maxHeartbeats 400000 in
theorem rLeap_any (y : Int) (hy : I64 y) (w : World) :
    Calls Tryz.prog 100 #[.int .i64 y] w fun e w' => e = .returned (.bool (leap y)) ∧ w' = w := by
  obtain ⟨h0, h1⟩ := hy
  rw [leap_t]
  by_cases a : y.tmod 4 = 0 <;> by_cases b : y.tmod 100 = 0 <;> by_cases c : y.tmod 400 = 0
  all_goals
    go_enter Tryz.func100, Tryz.ntmps100
    go_wp2
    go_ret
    exact ⟨ret_bool (by simp [a, b, c]), rfl⟩

set_option maxHeartbeats 400000 in
theorem ryearDays_any (y : Int) (hy : I64 y) (w : World) :
    Calls Tryz.prog 80 #[.int .i64 y] w fun e w' => e = .returned (.int .i64 (yd y)) ∧ w' = w := by
  have HL : Hid (Calls Tryz.prog 100 #[.int .i64 y] w fun e w' => e = .returned (.bool (leap y)) ∧ w' = w) := rLeap_any y hy w
  unfold yd
  cases hl : leap y
  all_goals
    rw [hl] at HL
    go_enter Tryz.func80, Tryz.ntmps80
    go_wp2_with fail
    refine Calls.mono HL.out ?_
    rintro e w' ⟨rfl, rfl⟩
    go_wp2
    go_ret
    exact ⟨rfl, rfl⟩

set_option maxHeartbeats 1000000 in
theorem rMonthDays_any (y m : Int) (hy : I64 y) (hm : I64 m) (w : World) :
    Calls Tryz.prog 79 #[.int .i64 y, .int .i64 m] w fun e w' => e = .returned (.int .i64 (md y m)) ∧ Below w.heap.size w w' := by
  obtain ⟨m0, m1⟩ := hm
  have HL : Hid (Calls Tryz.prog 100 #[.int .i64 y] w fun e w' => e = .returned (.bool (leap y)) ∧ w' = w) := rLeap_any y hy w
  by_cases h : 1 ≤ m ∧ m ≤ 12
  · rcases months h.1 h.2 with rfl | rfl | rfl | rfl | rfl | rfl | rfl | rfl | rfl | rfl | rfl | rfl
    case inr.inl =>
      cases hl : leap y
      all_goals
        rw [hl] at HL
        go_enter Tryz.func79, Tryz.ntmps79
        go_wp2_with fail
        refine Calls.mono HL.out ?_
        rintro e w' ⟨rfl, rfl⟩
        go_wp2
        go_ret
        exact ⟨ret_int (by simp [md, feb, hl]), by first | exact Below.refl _ _ | exact ((But.refl [] _).alloc _).to_below⟩
    all_goals
      go_enter Tryz.func79, Tryz.ntmps79
      go_wp2
      go_ret
      exact ⟨rfl, ((But.refl [] _).alloc _).to_below⟩
  · by_cases h3 : m < 1
    · go_enter Tryz.func79, Tryz.ntmps79
      go_wp2
      go_ret
      exact ⟨ret_int (by unfold md; rw [if_pos (by omega)]), Below.refl _ _⟩
    · have h4 : 12 < m := by omega
      go_enter Tryz.func79, Tryz.ntmps79
      go_wp2
      go_ret
      exact ⟨ret_int (by unfold md; rw [if_pos (by omega)]), Below.refl _ _⟩

set_option maxHeartbeats 400000 in
theorem rWeekday_any (n : Int) (h0 : -1000000000 ≤ n) (h1 : n ≤ 1000000000) (w : World) :
    Calls Tryz.prog 50 #[.int .i64 n] w fun e w' => e = .returned (.int .i64 (wday n)) ∧ w' = w := by
  have a1 : -7 < (n + 3).tmod 7 := Int.lt_tmod_of_pos _ (by omega)
  have a2 : (n + 3).tmod 7 < 7 := Int.tmod_lt_of_pos _ (by omega)
  have a3 : ((n + 3).tmod 7 + 7).tmod 7 = wday n := by
    unfold wday
    rw [tr (by omega), Int.add_emod_right]
    have e : (n + 3) % 7 = (7 * (n + 3).tdiv 7 + (n + 3).tmod 7) % 7 := by rw [Int.mul_tdiv_add_tmod]
    rw [e, Int.mul_add_emod_self_left]
  have A3 : Hid (_ = _) := a3
  clear a3
  go_enter Tryz.func50, Tryz.ntmps50
  go_wp2
  go_ret
  first | exact ⟨ret_int A3.out, rfl⟩ | exact ⟨ret_int (by rw [← A3.out]; exact (tr (by omega)).symm), rfl⟩

end Bs
end Go.Proofs.YtjngpafokkjkdaaGreatDoor
