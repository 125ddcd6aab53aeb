/-
  Contracts of the document's calendar.
-/
import Derived.Test.YtpfkajalkakbgabDoorSLeaf2
import Derived.Test.YtpfkajalkakbgabDoorWPlain4
set_option linter.unusedVariables false
set_option linter.unusedSimpArgs false
namespace Go.Proofs.YtpfkajalkakbgabDoor
open Go.RowKit
namespace Bs

set_option maxHeartbeats 400000 in
theorem rLeap_any (y : Int) (hy : I64 y) (w : World) :
    Calls Tryd.prog 17 #[.int .i64 y] w fun e w' => e = .returned (.bool (leap y)) ∧ w' = w := by
  obtain ⟨h0, h1⟩ := hy
  rw [leap_t]
  by_cases a : y.tmod 4 = 0 <;> by_cases b : y.tmod 100 = 0 <;> by_cases c : y.tmod 400 = 0
  all_goals
    go_enter Tryd.func17, Tryd.ntmps17
    go_wp2
    go_ret
    exact ⟨ret_bool (by simp [a, b, c]), rfl⟩

set_option maxHeartbeats 1000000 in
theorem rMonthDays_any (y m : Int) (hy : I64 y) (hm : I64 m) (w : World) :
    Calls Tryd.prog 9 #[.int .i64 y, .int .i64 m] w fun e w' => e = .returned (.int .i64 (md y m)) ∧ Below w.heap.size w w' := by
  obtain ⟨m0, m1⟩ := hm
  have HL : Hid (Calls Tryd.prog 17 #[.int .i64 y] w fun e w' => e = .returned (.bool (leap y)) ∧ w' = w) := rLeap_any y hy w
  by_cases h : 1 ≤ m ∧ m ≤ 12
  · rcases months h.1 h.2 with rfl | rfl | rfl | rfl | rfl | rfl | rfl | rfl | rfl | rfl | rfl | rfl
    case inr.inl =>
      cases hl : leap y
      all_goals
        rw [hl] at HL
        go_enter Tryd.func9, Tryd.ntmps9
        go_wp2_with fail
        refine Calls.mono HL.out ?_
        rintro e w' ⟨rfl, rfl⟩
        go_wp2
        go_ret
        exact ⟨ret_int (by simp [md, feb, hl]), by first | exact Below.refl _ _ | exact ((But.refl [] _).alloc _).to_below⟩
    all_goals
      go_enter Tryd.func9, Tryd.ntmps9
      go_wp2
      go_ret
      exact ⟨rfl, ((But.refl [] _).alloc _).to_below⟩
  · by_cases h3 : m < 1
    · go_enter Tryd.func9, Tryd.ntmps9
      go_wp2
      go_ret
      exact ⟨ret_int (by unfold md; rw [if_pos (by omega)]), Below.refl _ _⟩
    · have h4 : 12 < m := by omega
      go_enter Tryd.func9, Tryd.ntmps9
      go_wp2
      go_ret
      exact ⟨ret_int (by unfold md; rw [if_pos (by omega)]), Below.refl _ _⟩

end Bs
end Go.Proofs.YtpfkajalkakbgabDoor
