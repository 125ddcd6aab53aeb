/-
  Contracts of the document's calendar: a day's number.
-/
import Derived.Test.YtjngpafokkjkdaaGreatDoorRLeaf
set_option linter.unusedVariables false
set_option linter.unusedSimpArgs false
namespace Go.Proofs.YtjngpafokkjkdaaGreatDoor
open Go.RowKit
namespace Bs

set_option maxRecDepth 100000 in
set_option maxHeartbeats 1000000 in
theorem rDays_any (y m d : Int) (hy : I64 y) (hm : I64 m) (hd : I64 d) (w : World) :
    Calls Tryz.prog 49 #[.int .i64 y, .int .i64 m, .int .i64 d] w fun e w' => e = .returned (.tuple #[.int .i64 (daysS y m d).1, .int .i64 (daysS y m d).2]) ∧ Below w.heap.size w w' := by
  obtain ⟨d0, d1⟩ := hd
  have HM : Hid (∀ k, I64 k → ∀ w, Calls Tryz.prog 79 #[.int .i64 y, .int .i64 k] w fun e w' => e = .returned (.int .i64 (md y k)) ∧ Below w.heap.size w w') := fun k hk w => rMonthDays_any y k hy hk w
  have HYD : Hid (∀ k, I64 k → ∀ w, Calls Tryz.prog 80 #[.int .i64 k] w fun e w' => e = .returned (.int .i64 (yd k)) ∧ w' = w) := fun k hk w => ryearDays_any k hk w
  obtain ⟨y0, y1⟩ := hy
  by_cases h1 : y < 1
  · rw [daysS_no (fun h => by have := h.1; omega)]
    go_enter Tryz.func49, Tryz.ntmps49
    go_wp2
    go_ret2
    exact ⟨rfl, Below.refl _ _⟩
  by_cases h2 : 9999 < y
  · rw [daysS_no (fun h => by have := h.2.1; omega)]
    go_enter Tryz.func49, Tryz.ntmps49
    go_wp2
    go_ret2
    exact ⟨rfl, Below.refl _ _⟩
  by_cases h3 : d < 1
  · rw [daysS_no (fun h => by have := h.2.2.1; omega)]
    go_enter Tryz.func49, Tryz.ntmps49
    go_wp2
    go_ret2
    exact ⟨rfl, Below.refl _ _⟩
  by_cases h4 : md y m < d
  · rw [daysS_no (fun h => by have := h.2.2.2; omega)]
    go_enter Tryz.func49, Tryz.ntmps49
    go_wp2_with fail
    refine (HM.out m hm w).mono ?_
    rintro e w1 ⟨rfl, b1⟩
    have HB : Hid (Below w.heap.size w w1) := b1
    clear b1
    go_wp2
    go_ret2
    exact ⟨rfl, HB.out⟩
  have hI : IsD y m d := ⟨by omega, by omega, by omega, by omega⟩
  rw [daysS_ok hI]
  obtain ⟨m1, m2⟩ := hI.m
  have jr := jan_r (y := y) (by omega) (by omega)
  have dr := dn_range hI
  have hdm := md_le y m
  go_enter Tryz.func49, Tryz.ntmps49
  go_wp2_with fail
  refine (HM.out m hm w).mono ?_
  rintro e w1 ⟨rfl, b1⟩
  have HB : Hid (Below w.heap.size w w1) := b1
  clear b1
  go_wp2
  have jr0 := jan_1970
  have ydr : ∀ k : Int, 365 ≤ yd k ∧ yd k ≤ 366 := fun k => by have := feb_or k; rw [yd_feb]; omega
  have HYR : Hid (∀ k : Int, 365 ≤ yd k ∧ yd k ≤ 366) := ydr
  clear ydr
  have HJS : Hid (∀ k, jan (k + 1) = jan k + yd k) := jan_succ
  have HJR : Hid (∀ k, 1 ≤ k → k ≤ 10000 → -719162 ≤ jan k ∧ jan k ≤ 2932897) := fun k h1 h2 => by
    have a := jan_mono h1
    have b := jan_mono h2
    rw [jan_one] at a
    rw [jan_end] at b
    exact ⟨a, b⟩
  go_loopw [8, 9] (fun n i wr => ∃ k : Int, 1 ≤ k ∧ k ≤ m ∧ n = .int .i64 (d - 1 + cum y k) ∧ i = .int .i64 k ∧ Hid (Below w.heap.size w wr)) (fun _ i _ => (m - intOf i).toNat)
  case atStart => exact ⟨1, by omega, by omega, by rw [cum_one]; simp, rfl, HB⟩
  case round =>
    clear HB
    obtain ⟨k, k1, k2, rfl, rfl, HB⟩ := hrel
    have cr := cum_r y k
    have mr := md_le y k
    by_cases hk : k < m
    · go_wp2_with fail
      refine (HM.out k ⟨by omega, by omega⟩ _).mono ?_
      rintro e w2 ⟨rfl, b2⟩
      have HB2 : Hid (Below w.heap.size w w2) := bel_trans HB.out b2
      clear b2
      go_wp2
      exact ⟨⟨k + 1, by omega, by omega, by rw [cum_succ y k k1 (by omega)]; congr 1; omega, rfl, HB2⟩, by simp [intOf]; omega⟩
    · obtain rfl : k = m := by omega
      go_wp2
      go_loopw [8, 10] (fun n i wr => ∃ q : Int, 1970 ≤ q ∧ (q ≤ y ∨ q = 1970) ∧ n = .int .i64 (d - 1 + cum y k + jan q) ∧ i = .int .i64 q ∧ Hid (Below w.heap.size w wr)) (fun _ i _ => (y - intOf i).toNat)
      case atStart => exact ⟨1970, by omega, by omega, by rw [jr0]; simp, rfl, HB⟩
      case round =>
        clear HB
        obtain ⟨q, q1, q2, rfl, rfl, HB⟩ := hrel
        have qr := HJR.out q (by omega) (by omega)
        have yr := HYR.out q
        by_cases hq : q < y
        · have hjs := HJS.out q
          go_wp2_with fail
          refine (HYD.out q ⟨by omega, by omega⟩ _).mono ?_
          rintro e w2 ⟨rfl, rfl⟩
          go_wp2
          exact ⟨⟨q + 1, by omega, by omega, by congr 1; omega, rfl, HB⟩, by simp [intOf]; omega⟩
        · go_wp2
          have hz : (y ≤ 1970 ∧ q = 1970) ∨ (1970 ≤ y ∧ q = y) := by omega
          go_loopw [8, 11] (fun n i wr => ∃ r : Int, y ≤ r ∧ (r ≤ 1970 ∨ r = y) ∧ n = .int .i64 (d - 1 + cum y k + jan q + jan y - jan r) ∧ i = .int .i64 r ∧ Hid (Below w.heap.size w wr)) (fun _ i _ => (1970 - intOf i).toNat)
          case atStart => exact ⟨y, by omega, by omega, by congr 1; omega, rfl, HB⟩
          case round =>
            clear HB
            obtain ⟨r, r1, r2, rfl, rfl, HB⟩ := hrel
            have rr := HJR.out r (by omega) (by omega)
            have yr2 := HYR.out r
            by_cases hr : r < 1970
            · have hjs := HJS.out r
              go_wp2_with fail
              refine (HYD.out r ⟨by omega, by omega⟩ _).mono ?_
              rintro e w2 ⟨rfl, rfl⟩
              go_wp2
              exact ⟨⟨r + 1, by omega, by omega, by congr 1; omega, rfl, HB⟩, by simp [intOf]; omega⟩
            · go_wp2
              go_ret2
              refine ⟨ret_pair ?_ rfl, HB.out⟩
              unfold dn
              rcases hz with ⟨hz1, rfl⟩ | ⟨hz1, rfl⟩
              · obtain rfl : r = 1970 := by omega
                omega
              · obtain rfl : r = q := by omega
                omega

end Bs
end Go.Proofs.YtjngpafokkjkdaaGreatDoor
