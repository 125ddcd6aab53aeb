/-
  The walks of StampCalendar, StampSplits, StampJoins.
-/
import Derived.Test.YtpfkajalkakbgaaDoorWAwk
import Derived.Test.YtpfkajalkakbgaaDoorSJoin
set_option linter.unusedVariables false
set_option linter.unusedSimpArgs false
namespace Go.Proofs.YtpfkajalkakbgaaDoor
open Go.RowKit
namespace Bs

set_option maxRecDepth 100000 in
set_option maxHeartbeats 2000000 in
theorem walk_StampCalendar (y m d : Int) (w : World) (tb : Tb w) (hy : I64 y) (hm : I64 m) (hd : I64 d) :
    Calls Tryd.prog 3 #[.int .i64 y, .int .i64 m, .int .i64 d] w fun e w' => e = .returned (.bool true) ∧ Below w.heap.size w w' := by
  have HA : Hid (Calls Tryd.prog 9 #[] w fun e w' => e = .returned (.bool true) ∧ Below w.heap.size w w') := awake_any w tb
  have HT : Hid (Tb w) := tb
  clear tb
  have H1 : Hid (∀ w, Tb w → Calls Tryd.prog 10 #[.int .i64 y, .int .i64 m, .int .i64 d] w fun e w' => e = .returned (.tuple #[.int .i64 (daysS y m d).1, .int .i64 (daysS y m d).2]) ∧ w' = w) := fun w t => Days_any y m d hy hm hd w t
  have H2 : Hid (∀ w, Calls Tryd.prog 11 #[.int .i64 y, .int .i64 m, .int .i64 d] w fun e w' => e = .returned (.tuple #[.int .i64 (daysS y m d).1, .int .i64 (daysS y m d).2]) ∧ Below w.heap.size w w') := fun w => rDays_any y m d hy hm hd w
  have H3 : Hid (∀ w, Calls Tryd.prog 12 #[.int .i64 y] w fun e w' => e = .returned (.bool (leap y)) ∧ w' = w) := fun w => Leap_any y hy.1 hy.2 w
  have H4 : Hid (∀ w, Calls Tryd.prog 13 #[.int .i64 y] w fun e w' => e = .returned (.bool (leap y)) ∧ w' = w) := fun w => rLeap_any y hy w
  have H5 : Hid (∀ w, Tb w → Calls Tryd.prog 14 #[.int .i64 y, .int .i64 m] w fun e w' => e = .returned (.int .i64 (md y m)) ∧ w' = w) := fun w t => MonthDays_any y m hy hm w t
  have H6 : Hid (∀ w, Calls Tryd.prog 15 #[.int .i64 y, .int .i64 m] w fun e w' => e = .returned (.int .i64 (md y m)) ∧ Below w.heap.size w w') := fun w => rMonthDays_any y m hy hm w
  generalize (daysS y m d).1 = N at *
  generalize (daysS y m d).2 = E at *
  generalize leap y = LP at *
  generalize md y m = MD at *
  go_enter Tryd.func3, Tryd.ntmps3
  go_wp2_with fail
  refine Calls.mono HA.out ?_
  rintro e w1 ⟨rfl, b1⟩
  have HB1 : Hid (Below w.heap.size w w1) := b1
  have HT1 : Hid (Tb w1) := HT.out.bel b1
  clear b1
  go_wp2_with fail
  refine (H1.out _ HT1.out).mono ?_
  rintro e w' ⟨rfl, rfl⟩
  go_wp2_with fail
  refine (H2.out _).mono ?_
  rintro e w2 ⟨rfl, b2⟩
  have HB2 : Hid (Below w.heap.size w w2) := bel_trans HB1.out b2
  have HT2 : Hid (Tb w2) := HT1.out.bel b2
  clear b2
  go_wp2_with fail
  refine (H3.out _).mono ?_
  rintro e w' ⟨rfl, rfl⟩
  go_wp2_with fail
  refine (H4.out _).mono ?_
  rintro e w' ⟨rfl, rfl⟩
  go_wp2_with fail
  refine (H5.out _ HT2.out).mono ?_
  rintro e w' ⟨rfl, rfl⟩
  go_wp2_with fail
  refine (H6.out _).mono ?_
  rintro e w3 ⟨rfl, b3⟩
  have HB3 : Hid (Below w.heap.size w w3) := bel_trans HB2.out b3
  clear b3
  go_wp2
  go_ret
  exact ⟨rfl, HB3.out⟩

set_option maxRecDepth 100000 in
set_option maxHeartbeats 2000000 in
theorem walk_StampJoins (y m d h i s k : Int) (w : World) (tb : Tb w) (hy : I64 y) (hm : I64 m) (hd : I64 d) (hh : I64 h) (hi : I64 i) (hs : I64 s) (hk : I64 k) :
    Calls Tryd.prog 5 #[dv7 y m d h i s k] w fun e w' => e = .returned (.bool true) ∧ Below w.heap.size w w' := by
  have HA : Hid (∀ w, Tb w → Calls Tryd.prog 9 #[] w fun e w' => e = .returned (.bool true) ∧ Below w.heap.size w w') := awake_any
  have HT : Hid (Tb (w.alloc (.cells #[.int .i64 y, .int .i64 m, .int .i64 d, .int .i64 h, .int .i64 i, .int .i64 s, .int .i64 k] 32))) := tb.alloc _
  have HB0 : Hid (Below w.heap.size w (w.alloc (.cells #[.int .i64 y, .int .i64 m, .int .i64 d, .int .i64 h, .int .i64 i, .int .i64 s, .int .i64 k] 32))) := ((But.refl [] w).alloc _).to_below
  clear tb
  have H1 : Hid (∀ w, Tb w → Calls Tryd.prog 19 #[dv7 y m d h i s k] w fun e w' => e = .returned (.tuple #[.int .i64 (joinS y m d h i s k).1, .int .i64 (joinS y m d h i s k).2]) ∧ Below w.heap.size w w') := fun w t => Join_any y m d h i s k hy hm hd hh hi hs hk w t
  have H2 : Hid (∀ w, Calls Tryd.prog 18 #[dv7 y m d h i s k] w fun e w' => e = .returned (dv7 y m d h i s k) ∧ Below w.heap.size w w') := fun w => plain_any y m d h i s k w
  have H3 : Hid (∀ w, Calls Tryd.prog 20 #[dv7 y m d h i s k] w fun e w' => e = .returned (.tuple #[.int .i64 (joinS y m d h i s k).1, .int .i64 (joinS y m d h i s k).2]) ∧ Below w.heap.size w w') := fun w => rJoin_any y m d h i s k hy hm hd hh hi hs hk w
  generalize (joinS y m d h i s k).1 = N at *
  generalize (joinS y m d h i s k).2 = E at *
  unfold dv7 at *
  go_enter Tryd.func5, Tryd.ntmps5
  go_wp2_with fail
  refine (HA.out _ HT.out).mono ?_
  rintro e w1 ⟨rfl, b1⟩
  have HB1 : Hid (Below w.heap.size w w1) := bel_trans HB0.out b1
  have HT1 : Hid (Tb w1) := HT.out.bel b1
  have nn : ∀ x : Nat, x ∉ ([] : List Nat) := fun _ e => by cases e
  have c0 : w1.cell? ⟨w.heap.size, 0, none⟩ = some (.int .i64 y) := (But.of_below b1).cell (by simp) (nn _)
  have c1 : w1.cell? ⟨w.heap.size, 1, none⟩ = some (.int .i64 m) := (But.of_below b1).cell (by simp) (nn _)
  have c2 : w1.cell? ⟨w.heap.size, 2, none⟩ = some (.int .i64 d) := (But.of_below b1).cell (by simp) (nn _)
  have c3 : w1.cell? ⟨w.heap.size, 3, none⟩ = some (.int .i64 h) := (But.of_below b1).cell (by simp) (nn _)
  have c4 : w1.cell? ⟨w.heap.size, 4, none⟩ = some (.int .i64 i) := (But.of_below b1).cell (by simp) (nn _)
  have c5 : w1.cell? ⟨w.heap.size, 5, none⟩ = some (.int .i64 s) := (But.of_below b1).cell (by simp) (nn _)
  have c6 : w1.cell? ⟨w.heap.size, 6, none⟩ = some (.int .i64 k) := (But.of_below b1).cell (by simp) (nn _)
  clear b1
  go_wp2_with fail
  refine (H1.out _ HT1.out).mono ?_
  rintro e w2 ⟨rfl, b2⟩
  have HB2 : Hid (Below w.heap.size w w2) := bel_trans HB1.out b2
  replace c0 := (But.of_below b2).cell c0 (nn _)
  replace c1 := (But.of_below b2).cell c1 (nn _)
  replace c2 := (But.of_below b2).cell c2 (nn _)
  replace c3 := (But.of_below b2).cell c3 (nn _)
  replace c4 := (But.of_below b2).cell c4 (nn _)
  replace c5 := (But.of_below b2).cell c5 (nn _)
  replace c6 := (But.of_below b2).cell c6 (nn _)
  clear b2
  go_wp2_with fail
  refine (H2.out _).mono ?_
  rintro e w3 ⟨rfl, b3⟩
  have HB3 : Hid (Below w.heap.size w w3) := bel_trans HB2.out b3
  clear b3
  go_wp2_with fail
  refine (H3.out _).mono ?_
  rintro e w4 ⟨rfl, b4⟩
  have HB4 : Hid (Below w.heap.size w w4) := bel_trans HB3.out b4
  clear b4
  go_wp2
  go_ret
  exact ⟨rfl, HB4.out⟩

end Bs
end Go.Proofs.YtpfkajalkakbgaaDoor
