/-
  The walk of StampDays.
-/
import Derived.Test.YtpfkajalkakbgabDoorWAwk
import Derived.Test.YtpfkajalkakbgabDoorRLeaf
set_option linter.unusedVariables false
set_option linter.unusedSimpArgs false
namespace Go.Proofs.YtpfkajalkakbgabDoor
open Go.RowKit
namespace Bs

set_option maxRecDepth 100000 in
set_option maxHeartbeats 1000000 in
theorem next_any (y m d : Int) (hy : 1 ≤ y ∧ y ≤ 9999) (hm : 1 ≤ m ∧ m ≤ 12) (hd : 1 ≤ d ∧ d ≤ 31) (w : World) :
    Calls Tryd.prog 11 #[.int .i64 y, .int .i64 m, .int .i64 d] w fun e w' => e = .returned (.tuple #[.int .i64 (nxt y m d).1, .int .i64 (nxt y m d).2.1, .int .i64 (nxt y m d).2.2]) ∧ Below w.heap.size w w' := by
  have H1 : Hid (∀ w, Calls Tryd.prog 9 #[.int .i64 y, .int .i64 m] w fun e w' => e = .returned (.int .i64 (md y m)) ∧ Below w.heap.size w w') := fun w => rMonthDays_any y m ⟨by omega, by omega⟩ ⟨by omega, by omega⟩ w
  unfold nxt
  generalize md y m = MD at *
  by_cases h1 : d < MD
  · rw [if_pos h1]
    go_enter Tryd.func11, Tryd.ntmps11
    go_wp2_with fail
    refine (H1.out _).mono ?_
    rintro e w1 ⟨rfl, b1⟩
    have HB : Hid (Below w.heap.size w w1) := b1
    clear b1
    go_wp2
    go_ret3
    exact ⟨rfl, HB.out⟩
  rw [if_neg h1]
  by_cases h2 : m < 12
  · rw [if_pos h2]
    go_enter Tryd.func11, Tryd.ntmps11
    go_wp2_with fail
    refine (H1.out _).mono ?_
    rintro e w1 ⟨rfl, b1⟩
    have HB : Hid (Below w.heap.size w w1) := b1
    clear b1
    go_wp2
    go_ret3
    exact ⟨rfl, HB.out⟩
  · rw [if_neg h2]
    go_enter Tryd.func11, Tryd.ntmps11
    go_wp2_with fail
    refine (H1.out _).mono ?_
    rintro e w1 ⟨rfl, b1⟩
    have HB : Hid (Below w.heap.size w w1) := b1
    clear b1
    go_wp2
    go_ret3
    exact ⟨rfl, HB.out⟩

theorem split_day {y m d k : Int} (h : IsD y m d) (h0 : 0 ≤ k) (h1 : k < 86400) : splitR (dn y m d * 86400 + k) = (dv7 y m d (k / 3600) (k % 3600 / 60) (k % 60) (wday (dn y m d)), 0) := by
  have r := dn_range h
  obtain ⟨e1, e2⟩ := day_of (n := dn y m d) h0 h1
  unfold splitR
  rw [if_pos (by unfold isM; omega)]
  unfold splitV
  rw [e1, e2, ymd_of h]

set_option maxRecDepth 100000 in
set_option maxHeartbeats 4000000 in
theorem walk_StampDays (y m d : Int) (w : World) (tb : Tb w) (hy : I64 y) (hm : I64 m) (hd : I64 d) :
    Calls Tryd.prog 3 #[.int .i64 y, .int .i64 m, .int .i64 d] w fun e w' => e = .returned (.bool true) ∧ Below w.heap.size w w' := by
  have HA : Hid (Calls Tryd.prog 7 #[] w fun e w' => e = .returned (.bool true) ∧ Below w.heap.size w w') := awake_any w tb
  have HT : Hid (Tb w) := tb
  clear tb
  have H1 : Hid (∀ w, Tb w → Calls Tryd.prog 8 #[.int .i64 y, .int .i64 m, .int .i64 d] w fun e w' => e = .returned (.tuple #[.int .i64 (daysS y m d).1, .int .i64 (daysS y m d).2]) ∧ w' = w) := fun w t => Days_any y m d hy hm hd w t
  have H2 : Hid (∀ w, Calls Tryd.prog 9 #[.int .i64 y, .int .i64 m] w fun e w' => e = .returned (.int .i64 (md y m)) ∧ Below w.heap.size w w') := fun w => rMonthDays_any y m hy hm w
  by_cases hI : IsD y m d
  · rw [daysS_ok hI] at H1
    have hm' := hI.m
    have hml := md_le y m
    have dr := dn_range hI
    obtain ⟨y1, y2, d1, d2⟩ := hI
    have hI : IsD y m d := ⟨y1, y2, d1, d2⟩
    have hmd : ¬ md y m < d := by omega
    have H3 : Hid (∀ w, Tb w → Calls Tryd.prog 10 #[.int .i64 (dn y m d * 86400)] w fun e w' => e = .returned (.tuple #[dv7 y m d 0 0 0 (wday (dn y m d)), .int .i64 0]) ∧ Below w.heap.size w w') := fun w tb => by
      have := Split_any (dn y m d * 86400) ⟨by omega, by omega⟩ w tb
      have e := split_day (k := 0) hI (by omega) (by omega)
      rw [Int.add_zero] at e
      rw [e] at this
      exact this
    have H4 : Hid (∀ w, Calls Tryd.prog 11 #[.int .i64 y, .int .i64 m, .int .i64 d] w fun e w' => e = .returned (.tuple #[.int .i64 (nxt y m d).1, .int .i64 (nxt y m d).2.1, .int .i64 (nxt y m d).2.2]) ∧ Below w.heap.size w w') := fun w => next_any y m d ⟨y1, y2⟩ hm' ⟨d1, by omega⟩ w
    by_cases hl : (nxt y m d).1 ≤ 9999
    · have hN := nxt_is hI hl
      have hdn := nxt_dn hI
      have drN := dn_range hN
      have hNm := hN.m
      have hNd := md_le (nxt y m d).1 (nxt y m d).2.1
      obtain ⟨n1, n2, n3, n4⟩ := hN
      have hN : IsD (nxt y m d).1 (nxt y m d).2.1 (nxt y m d).2.2 := ⟨n1, n2, n3, n4⟩
      have H5 : Hid (∀ w, Tb w → Calls Tryd.prog 8 #[.int .i64 (nxt y m d).1, .int .i64 (nxt y m d).2.1, .int .i64 (nxt y m d).2.2] w fun e w' => e = .returned (.tuple #[.int .i64 (dn y m d + 1), .int .i64 0]) ∧ w' = w) := fun w t => by
        have := Days_any (nxt y m d).1 (nxt y m d).2.1 (nxt y m d).2.2 ⟨by omega, by omega⟩ ⟨by omega, by omega⟩ ⟨by omega, by omega⟩ w t
        rw [daysS_ok hN, hdn] at this
        exact this
      have H6 : Hid (∀ w, Tb w → Calls Tryd.prog 10 #[.int .i64 ((dn y m d + 1) * 86400 + 86399)] w fun e w' => e = .returned (.tuple #[dv7 (nxt y m d).1 (nxt y m d).2.1 (nxt y m d).2.2 23 59 59 (wday (dn y m d + 1)), .int .i64 0]) ∧ Below w.heap.size w w') := fun w tb => by
        have := Split_any ((dn y m d + 1) * 86400 + 86399) ⟨by omega, by omega⟩ w tb
        have e := split_day (k := 86399) hN (by omega) (by omega)
        rw [hdn] at e
        rw [e] at this
        exact this
      have hw0 := wday_r (dn y m d)
      have hww : (wday (dn y m d) + 1).tmod 7 = wday (dn y m d + 1) := by
        rw [tr (by omega)]
        unfold wday
        omega
      rw [hdn] at drN
      clear hN hI hdn
      unfold dv7 at *
      generalize (nxt y m d).1 = ny at *
      generalize (nxt y m d).2.1 = nm at *
      generalize (nxt y m d).2.2 = nd at *
      generalize wday (dn y m d + 1) = k2 at *
      generalize wday (dn y m d) = k1 at *
      generalize dn y m d = D at *
      generalize md y m = MD at *
      go_enter Tryd.func3, Tryd.ntmps3
      go_wp2_with fail
      refine Calls.mono HA.out ?_
      rintro e w1 ⟨rfl, b1⟩
      have HB1 : Hid (Below w.heap.size w w1) := b1
      have HT1 : Hid (Tb w1) := HT.out.bel b1
      clear b1
      go_wp2_with fail
      refine (H1.out _ HT1.out).mono ?_
      rintro e w' ⟨rfl, rfl⟩
      go_wp2_with fail
      refine (H2.out _).mono ?_
      rintro e w2 ⟨rfl, b2⟩
      have HB2 : Hid (Below w.heap.size w w2) := bel_trans HB1.out b2
      have HT2 : Hid (Tb w2) := HT1.out.bel b2
      clear b2
      go_wp2_with fail
      refine (H3.out _ HT2.out).mono ?_
      rintro e w3 ⟨rfl, b3⟩
      have HB3 : Hid (Below w.heap.size w (w3.alloc (.cells #[.int .i64 y, .int .i64 m, .int .i64 d, .int .i64 0, .int .i64 0, .int .i64 0, .int .i64 k1] 28))) := bel_trans (bel_trans HB2.out b3) ((But.refl [] w3).alloc _).to_below
      have HT3 : Hid (Tb (w3.alloc (.cells #[.int .i64 y, .int .i64 m, .int .i64 d, .int .i64 0, .int .i64 0, .int .i64 0, .int .i64 k1] 28))) := (HT2.out.bel b3).alloc _
      clear b3
      go_wp2_with fail
      refine (H4.out _).mono ?_
      rintro e w4 ⟨rfl, b4⟩
      have HB4 : Hid (Below w.heap.size w w4) := bel_trans HB3.out b4
      have HT4 : Hid (Tb w4) := HT3.out.bel b4
      have nn : ∀ x : Nat, x ∉ ([] : List Nat) := fun _ e => by cases e
      have c6 := (But.of_below b4).cell (p := ⟨w3.heap.size, 6, none⟩) (v := .int .i64 k1) (by simp) (nn _)
      clear b4
      go_wp2_with fail
      refine (H5.out _ HT4.out).mono ?_
      rintro e w' ⟨rfl, rfl⟩
      go_wp2_with fail
      refine (H6.out _ HT4.out).mono ?_
      rintro e w5 ⟨rfl, b5⟩
      have HB5 : Hid (Below w.heap.size w (w5.alloc (.cells #[.int .i64 ny, .int .i64 nm, .int .i64 nd, .int .i64 23, .int .i64 59, .int .i64 59, .int .i64 k2] 28))) := bel_trans (bel_trans HB4.out b5) ((But.refl [] w5).alloc _).to_below
      have d6 := ((But.of_below b5).alloc (.cells #[.int .i64 ny, .int .i64 nm, .int .i64 nd, .int .i64 23, .int .i64 59, .int .i64 59, .int .i64 k2] 28)).cell c6 (nn _)
      clear b5 c6
      generalize w3.heap.size = P3 at *
      go_wp2
      go_ret
      exact ⟨rfl, HB5.out⟩
    · have hE := nxt_last hI (by omega)
      unfold dv7 at *
      generalize (nxt y m d).1 = ny at *
      generalize (nxt y m d).2.1 = nm at *
      generalize (nxt y m d).2.2 = nd at *
      generalize wday (dn y m d) = k1 at *
      clear hI
      generalize dn y m d = D at *
      subst hE
      generalize md y m = MD at *
      go_enter Tryd.func3, Tryd.ntmps3
      go_wp2_with fail
      refine Calls.mono HA.out ?_
      rintro e w1 ⟨rfl, b1⟩
      have HB1 : Hid (Below w.heap.size w w1) := b1
      have HT1 : Hid (Tb w1) := HT.out.bel b1
      clear b1
      go_wp2_with fail
      refine (H1.out _ HT1.out).mono ?_
      rintro e w' ⟨rfl, rfl⟩
      go_wp2_with fail
      refine (H2.out _).mono ?_
      rintro e w2 ⟨rfl, b2⟩
      have HB2 : Hid (Below w.heap.size w w2) := bel_trans HB1.out b2
      have HT2 : Hid (Tb w2) := HT1.out.bel b2
      clear b2
      go_wp2_with fail
      refine (H3.out _ HT2.out).mono ?_
      rintro e w3 ⟨rfl, b3⟩
      have HB3 : Hid (Below w.heap.size w (w3.alloc (.cells #[.int .i64 y, .int .i64 m, .int .i64 d, .int .i64 0, .int .i64 0, .int .i64 0, .int .i64 k1] 28))) := bel_trans (bel_trans HB2.out b3) ((But.refl [] w3).alloc _).to_below
      clear b3
      go_wp2_with fail
      refine (H4.out _).mono ?_
      rintro e w4 ⟨rfl, b4⟩
      have HB4 : Hid (Below w.heap.size w w4) := bel_trans HB3.out b4
      clear b4
      go_wp2
      go_ret
      exact ⟨rfl, HB4.out⟩
  · rw [daysS_no hI] at H1
    rcases (by unfold IsD at hI; omega : y < 1 ∨ (¬ y < 1 ∧ 9999 < y) ∨ (¬ y < 1 ∧ ¬ 9999 < y ∧ d < 1)  ∨ (¬ y < 1 ∧ ¬ 9999 < y ∧ ¬ d < 1 ∧ md y m < d)) with h1 | ⟨h1, h2⟩ | ⟨h1, h2, h3⟩ | ⟨h1, h2, h3, h4⟩
    case inr.inr.inr =>
      clear hI
      generalize md y m = MD at *
      go_enter Tryd.func3, Tryd.ntmps3
      go_wp2_with fail
      refine Calls.mono HA.out ?_
      rintro e w1 ⟨rfl, b1⟩
      have HB1 : Hid (Below w.heap.size w w1) := b1
      have HT1 : Hid (Tb w1) := HT.out.bel b1
      clear b1
      go_wp2_with fail
      refine (H1.out _ HT1.out).mono ?_
      rintro e w' ⟨rfl, rfl⟩
      go_wp2_with fail
      refine (H2.out _).mono ?_
      rintro e w2 ⟨rfl, b2⟩
      have HB2 : Hid (Below w.heap.size w w2) := bel_trans HB1.out b2
      clear b2
      go_wp2
      go_ret
      exact ⟨rfl, HB2.out⟩
    all_goals
      clear hI
      go_enter Tryd.func3, Tryd.ntmps3
      go_wp2_with fail
      refine Calls.mono HA.out ?_
      rintro e w1 ⟨rfl, b1⟩
      have HB1 : Hid (Below w.heap.size w w1) := b1
      have HT1 : Hid (Tb w1) := HT.out.bel b1
      clear b1
      go_wp2_with fail
      refine (H1.out _ HT1.out).mono ?_
      rintro e w' ⟨rfl, rfl⟩
      go_wp2
      go_ret
      exact ⟨rfl, HB1.out⟩

end Bs
end Go.Proofs.YtpfkajalkakbgabDoor
