/-
  Contracts of stamp's calendar, and of the document's.
-/
import Derived.Test.YtjngpafokkjkdaaGreatDoorSBase
import Derived.Lib.ItoaMem
import Derived.Lib.ItoaLen
import Derived.Lib.AppendIntMem
import Derived.Lib.LaidTab
set_option linter.unusedVariables false
set_option linter.unusedSimpArgs false
namespace Go.Proofs.YtjngpafokkjkdaaGreatDoor
open Go.RowKit
namespace Bs

theorem tm_z (y k : Int) : (y.tmod k = 0) ↔ (y % k = 0) := ⟨fun h => Int.emod_eq_zero_of_dvd (Int.dvd_of_tmod_eq_zero h), fun h => Int.tmod_eq_zero_of_dvd (Int.dvd_of_emod_eq_zero h)⟩
theorem tq {y k : Int} (h : 0 ≤ y) : y.tdiv k = y / k := Int.tdiv_eq_ediv_of_nonneg h
theorem tr {y k : Int} (h : 0 ≤ y) : y.tmod k = y % k := Int.tmod_eq_emod_of_nonneg h
theorem leap_t (y : Int) : leap y = (decide (y.tmod 4 = 0) && !decide (y.tmod 100 = 0) || decide (y.tmod 400 = 0)) := by
  unfold leap
  simp only [tm_z]
  by_cases a : y % 4 = 0 <;> by_cases b : y % 100 = 0 <;> by_cases c : y % 400 = 0 <;> simp [a, b, c]

set_option maxHeartbeats 400000 in
theorem Leap_any (y : Int) (h0 : -9223372036854775808 ≤ y) (h1 : y ≤ 9223372036854775807) (w : World) :
    Calls Tryz.prog 104 #[.int .i64 y] w fun e w' => e = .returned (.bool (leap y)) ∧ w' = w := by
  rw [leap_t]
  by_cases a : y.tmod 4 = 0 <;> by_cases b : y.tmod 100 = 0 <;> by_cases c : y.tmod 400 = 0
  all_goals
    go_enter Tryz.func104, Tryz.ntmps104
    go_wp2
    go_ret
    exact ⟨ret_bool (by simp [a, b, c]), rfl⟩

/- The tables. -/
def pms : List Int := [31, 28, 31, 30, 31, 30, 31, 31, 30, 31, 30, 31]

/-- The tables lie where they were laid. -/
structure Tb (w : World) : Prop where
  l0 : 2 < w.heap.size
  l1 : 0 < w.heap.size
  l2 : 1 < w.heap.size
  l3 : 3 < w.heap.size
  pm : ∀ i : Nat, i < 12 → w.cell? ⟨2, i, none⟩ = some (.int .i64 (pms.getD i 0))
  sd : ∀ i : Nat, i < 7 → w.cell? ⟨0, i, none⟩ = some (.string (str (shorts.getD i [])))
  ld : ∀ i : Nat, i < 7 → w.cell? ⟨1, i, none⟩ = some (.string (str (longs.getD i [])))
  mo : ∀ i : Nat, i < 12 → w.cell? ⟨3, i, none⟩ = some (.string (str (mons.getD i [])))

theorem Tb.below {B : Nat} {w w' : World} (h : Tb w) (b : Below B w w') (hB : w.heap.size ≤ B) : Tb w' := by
  have hs := b.size
  have l0 := h.l0
  have l1 := h.l1
  have l2 := h.l2
  have l3 := h.l3
  exact ⟨by omega, by omega, by omega, by omega, fun i hi => by rw [b.cell (show 2 < B by omega)]; exact h.pm i hi, fun i hi => by rw [b.cell (show 0 < B by omega)]; exact h.sd i hi, fun i hi => by rw [b.cell (show 1 < B by omega)]; exact h.ld i hi, fun i hi => by rw [b.cell (show 3 < B by omega)]; exact h.mo i hi⟩
theorem Tb.bel {w w' : World} (h : Tb w) (b : Below w.heap.size w w') : Tb w' := h.below b (Nat.le_refl _)

def I64 (x : Int) : Prop := -9223372036854775808 ≤ x ∧ x ≤ 9223372036854775807

set_option maxHeartbeats 1000000 in
theorem MonthDays_any (y m : Int) (hy : I64 y) (hm : I64 m) (w : World) (t : Tb w) :
    Calls Tryz.prog 87 #[.int .i64 y, .int .i64 m] w fun e w' => e = .returned (.int .i64 (md y m)) ∧ w' = w := by
  obtain ⟨m0, m1⟩ := hm
  by_cases h : 1 ≤ m ∧ m ≤ 12
  · by_cases h2 : m = 2
    · subst h2
      have c1 : w.cell? ⟨2, 1, none⟩ = some (.int .i64 28) := t.pm 1 (by decide)
      clear t
      cases hl : leap y
      all_goals
        go_enter Tryz.func87, Tryz.ntmps87
        go_wp2_with fail
        refine (Leap_any y hy.1 hy.2 w).mono ?_
        rintro e w' ⟨rfl, rfl⟩
        rw [hl]
        go_wp2
        go_ret
        exact ⟨ret_int (by simp [md, feb, hl]), rfl⟩
    · have ck := t.pm (m - 1).toNat (by omega)
      clear t
      rcases months h.1 h.2 with rfl | rfl | rfl | rfl | rfl | rfl | rfl | rfl | rfl | rfl | rfl | rfl
      all_goals first
        | (exfalso; exact h2 rfl)
        | (simp [pms] at ck
           go_enter Tryz.func87, Tryz.ntmps87
           go_wp2
           go_ret
           exact ⟨rfl, rfl⟩)
  · by_cases h3 : m < 1
    · go_enter Tryz.func87, Tryz.ntmps87
      go_wp2
      go_ret
      exact ⟨ret_int (by unfold md; rw [if_pos (by omega)]), rfl⟩
    · have h4 : 12 < m := by omega
      go_enter Tryz.func87, Tryz.ntmps87
      go_wp2
      go_ret
      exact ⟨ret_int (by unfold md; rw [if_pos (by omega)]), rfl⟩

def daysS (y m d : Int) : Int × Int := if 1 ≤ y ∧ y ≤ 9999 ∧ 1 ≤ d ∧ d ≤ md y m then (dn y m d, 0) else (0, 41)
theorem daysS_ok {y m d : Int} (h : IsD y m d) : daysS y m d = (dn y m d, 0) := if_pos h
theorem daysS_no {y m d : Int} (h : ¬ IsD y m d) : daysS y m d = (0, 41) := if_neg h
theorem ret_two {j k : IntKind} {a b : Int} {r : Int × Int} (h : r = (a, b)) : Ending.returned (.tuple #[.int j a, .int k b]) = .returned (.tuple #[.int j r.1, .int k r.2]) := by rw [h]
theorem ret_pair {j k : IntKind} {a b c d : Int} (h : a = c) (h' : b = d) : Ending.returned (.tuple #[.int j a, .int k b]) = .returned (.tuple #[.int j c, .int k d]) := by rw [h, h']
theorem jan_r {y : Int} (h1 : 1 ≤ y) (h2 : y ≤ 9999) : -719162 ≤ jan y ∧ jan y ≤ 2932896 := by
  have a := jan_mono h1
  have b := jan_mono (a := y) (b := 9999) h2
  rw [jan_one] at a
  have c : jan 9999 = 2932532 := by decide
  omega
theorem cum_r (y m : Int) : 0 ≤ cum y m ∧ cum y m ≤ 366 := by
  have a := cum_nn y m
  by_cases h : m ≤ 13
  · have b := cum_le y m h
    have c := feb_or y
    rw [yd_feb] at b
    omega
  · rw [cum_big (by omega)]
    have c := feb_or y
    omega
theorem jan_q {y : Int} (h : 1 ≤ y) : (y - 1) * 365 + (y - 1).tdiv 4 - (y - 1).tdiv 100 + (y - 1).tdiv 400 - 719162 = jan y := by
  unfold jan
  rw [tq (by omega), tq (by omega), tq (by omega)]

set_option maxRecDepth 100000 in
set_option maxHeartbeats 1000000 in
theorem Days_any (y m d : Int) (hy : I64 y) (hm : I64 m) (hd : I64 d) (w : World) (t : Tb w) :
    Calls Tryz.prog 92 #[.int .i64 y, .int .i64 m, .int .i64 d] w fun e w' => e = .returned (.tuple #[.int .i64 (daysS y m d).1, .int .i64 (daysS y m d).2]) ∧ w' = w := by
  obtain ⟨d0, d1⟩ := hd
  have HM : Hid (∀ k, I64 k → Calls Tryz.prog 87 #[.int .i64 y, .int .i64 k] w fun e w' => e = .returned (.int .i64 (md y k)) ∧ w' = w) := fun k hk => MonthDays_any y k hy hk w t
  clear t
  obtain ⟨y0, y1⟩ := hy
  by_cases h1 : y < 1
  · rw [daysS_no (fun h => by have := h.1; omega)]
    go_enter Tryz.func92, Tryz.ntmps92
    go_wp2
    go_ret2
    exact ⟨rfl, rfl⟩
  by_cases h2 : 9999 < y
  · rw [daysS_no (fun h => by have := h.2.1; omega)]
    go_enter Tryz.func92, Tryz.ntmps92
    go_wp2
    go_ret2
    exact ⟨rfl, rfl⟩
  by_cases h3 : d < 1
  · rw [daysS_no (fun h => by have := h.2.2.1; omega)]
    go_enter Tryz.func92, Tryz.ntmps92
    go_wp2
    go_ret2
    exact ⟨rfl, rfl⟩
  by_cases h4 : md y m < d
  · rw [daysS_no (fun h => by have := h.2.2.2; omega)]
    go_enter Tryz.func92, Tryz.ntmps92
    go_wp2_with fail
    refine (HM.out m hm).mono ?_
    rintro e w' ⟨rfl, rfl⟩
    go_wp2
    go_ret2
    exact ⟨rfl, rfl⟩
  have hI : IsD y m d := ⟨by omega, by omega, by omega, by omega⟩
  rw [daysS_ok hI]
  obtain ⟨m1, m2⟩ := hI.m
  have hj := jan_q (y := y) (by omega)
  have jr := jan_r (y := y) (by omega) (by omega)
  have q1 : 0 ≤ (y - 1).tdiv 4 ∧ (y - 1).tdiv 4 ≤ 2500 := by rw [tq (by omega)]; omega
  have q2 : 0 ≤ (y - 1).tdiv 100 ∧ (y - 1).tdiv 100 ≤ 100 := by rw [tq (by omega)]; omega
  have q3 : 0 ≤ (y - 1).tdiv 400 ∧ (y - 1).tdiv 400 ≤ 25 := by rw [tq (by omega)]; omega
  have HJ : Hid (_ = _) := hj
  clear hj
  go_enter Tryz.func92, Tryz.ntmps92
  go_wp2_with fail
  refine (HM.out m hm).mono ?_
  rintro e w' ⟨rfl, rfl⟩
  go_wp2
  go_loop [9, 10] (fun n i => ∃ k : Int, 1 ≤ k ∧ k ≤ m ∧ n = .int .i64 (jan y + cum y k) ∧ i = .int .i64 k) (fun _ i => (m - intOf i).toNat)
  case atStart => exact ⟨1, by omega, by omega, by rw [cum_one, ← HJ.out]; simp, rfl⟩
  case round =>
    obtain ⟨k, k1, k2, rfl, rfl⟩ := hrel
    have cr := cum_r y k
    have mr := md_le y k
    by_cases hk : k < m
    · go_wp2_with fail
      refine (HM.out k ⟨by omega, by omega⟩).mono ?_
      rintro e w' ⟨rfl, rfl⟩
      go_wp2
      exact ⟨⟨k + 1, by omega, by omega, by rw [cum_succ y k k1 (by omega)]; congr 1; omega, rfl⟩, by simp [intOf]; omega⟩
    · obtain rfl : k = m := by omega
      have ml := md_le y k
      go_wp2
      go_ret2
      exact ⟨ret_pair (by unfold dn; omega) rfl, rfl⟩

end Bs
end Go.Proofs.YtjngpafokkjkdaaGreatDoor
