/-
  What the pieces say.
-/
import Derived.Test.YtjngpafokkjkdaaGreatDoorSTk
set_option linter.unusedVariables false
set_option linter.unusedSimpArgs false
namespace Go.Proofs.YtjngpafokkjkdaaGreatDoor
open Go.RowKit
namespace Bs

theorem Pcs.all {w : World} {P : Nat} {st : List Int} (h : Pcs w P st) : w.cell? ⟨P, 0, none⟩ = some (.int .i64 (g st 0)) ∧ w.cell? ⟨P, 2, none⟩ = some (.int .i64 (g st 2)) ∧ w.cell? ⟨P, 3, none⟩ = some (.int .i64 (g st 3)) ∧ w.cell? ⟨P, 4, none⟩ = some (.int .i64 (g st 4)) ∧ w.cell? ⟨P, 6, none⟩ = some (.int .i64 (g st 6)) ∧ w.cell? ⟨P, 7, none⟩ = some (.int .i64 (g st 7)) ∧ w.cell? ⟨P, 8, none⟩ = some (.int .i64 (g st 8)) ∧ w.cell? ⟨P, 9, none⟩ = some (.int .i64 (g st 9)) ∧ w.cell? ⟨P, 10, none⟩ = some (.int .i64 (g st 10)) ∧ w.cell? ⟨P, 11, none⟩ = some (.int .i64 (g st 11)) ∧ w.cell? ⟨P, 12, none⟩ = some (.int .i64 (g st 12)) ∧ w.cell? ⟨P, 13, none⟩ = some (.int .i64 (g st 13)) :=
  ⟨h.cell 0 (by omega), h.cell 2 (by omega), h.cell 3 (by omega), h.cell 4 (by omega), h.cell 6 (by omega), h.cell 7 (by omega), h.cell 8 (by omega), h.cell 9 (by omega), h.cell 10 (by omega), h.cell 11 (by omega), h.cell 12 (by omega), h.cell 13 (by omega)⟩

/-- The pieces' values are such as digits can say. -/
structure Fair (st : List Int) : Prop where
  d : 0 ≤ g st 2 ∧ g st 2 ≤ 99
  m : 0 ≤ g st 4 ∧ g st 4 ≤ 11
  y : -100 ≤ g st 6 ∧ g st 6 ≤ 11000
  h : 0 ≤ g st 8 ∧ g st 8 ≤ 99
  i : 0 ≤ g st 10 ∧ g st 10 ≤ 99
  s : 0 ≤ g st 12 ∧ g st 12 ≤ 99
  w : 0 ≤ g st 0 ∧ g st 0 ≤ 6

set_option maxRecDepth 100000 in
set_option maxHeartbeats 4000000 in
theorem moment_any (P : Nat) (st : List Int) (fair : Fair st) (w : World) (hp' : Pcs w P st) (tb : Tb w) :
    Calls Tryz.prog 64 #[pp P 0] w fun e w' => e = .returned (.tuple #[.int .i64 (momS (g st 6) st).1, .int .i64 (momS (g st 6) st).2.1, .int .i64 (momS (g st 6) st).2.2]) ∧ But [] w w' := by
  obtain ⟨c0, c2, c3, c4, c6, c7, c8, c9, c10, c11, c12, c13⟩ := hp'.all
  obtain ⟨⟨d0, d1⟩, ⟨m0, m1⟩, ⟨y0, y1⟩, ⟨h0, h1⟩, ⟨i0, i1⟩, ⟨s0, s1⟩, ⟨w0, w1⟩⟩ := fair
  have HP : Hid (Pcs w P st) := hp'
  have HD : Hid (∀ n, Calls Tryz.prog 92 #[.int .i64 (g st 6), .int .i64 (g st 4 + 1), .int .i64 (g st 2)] (w.drewN n) fun e w' => e = .returned (.tuple #[.int .i64 (daysS (g st 6) (g st 4 + 1) (g st 2)).1, .int .i64 (daysS (g st 6) (g st 4 + 1) (g st 2)).2]) ∧ w' = w.drewN n) := fun n => Days_any _ _ _ ⟨by omega, by omega⟩ ⟨by omega, by omega⟩ ⟨by omega, by omega⟩ _ (tb.bel ((But.refl [] w).drewN n).to_below)
  clear hp' tb
  unfold pp
  by_cases hy1 : g st 6 < 1
  · have HS : Hid (momS (g st 6) st = (0, 41, g st 7)) := (by unfold momS; rw [if_pos (Or.inl hy1)] : momS (g st 6) st = (0, 41, g st 7))
    go_enter Tryz.func64, Tryz.ntmps64
    go_wp2_with fail
    go_quiet (fail)
    go_wp2
    exact bodyPost_ret (v := .tuple #[.int .i64 (momS (g st 6) st).1, .int .i64 (momS (g st 6) st).2.1, .int .i64 (momS (g st 6) st).2.2]) (by rw [HS.out]; simp [results, Tryz.results64, go_sem]) rfl ⟨rfl, (But.refl [] w).drewN _⟩
  by_cases hy2 : 9999 < g st 6
  · have HS : Hid (momS (g st 6) st = (0, 41, g st 7)) := (by unfold momS; rw [if_pos (Or.inr hy2)] : momS (g st 6) st = (0, 41, g st 7))
    go_enter Tryz.func64, Tryz.ntmps64
    go_wp2_with fail
    go_quiet (fail)
    go_wp2
    exact bodyPost_ret (v := .tuple #[.int .i64 (momS (g st 6) st).1, .int .i64 (momS (g st 6) st).2.1, .int .i64 (momS (g st 6) st).2.2]) (by rw [HS.out]; simp [results, Tryz.results64, go_sem]) rfl ⟨rfl, (But.refl [] w).drewN _⟩
  have hyy : ¬ (g st 6 < 1 ∨ 9999 < g st 6) := by omega
  by_cases hI : IsD (g st 6) (g st 4 + 1) (g st 2)
  · have hdn := dn_range hI
    rw [daysS_ok hI] at HD
    have hI' : ¬ ¬ (1 ≤ g st 2 ∧ g st 2 ≤ md (g st 6) (g st 4 + 1)) := fun h => h ⟨hI.2.2.1, hI.2.2.2⟩
    have HS0 : Hid (momS (g st 6) st = if 23 < g st 8 then (0, 42, g st 9) else if 59 < g st 10 then (0, 42, g st 11) else if 60 < g st 12 then (0, 42, g st 13) else if g st 0 ≠ wday (dn (g st 6) (g st 4 + 1) (g st 2)) then (0, 43, 0) else if 253402300799 < dn (g st 6) (g st 4 + 1) (g st 2) * 86400 + g st 8 * 3600 + g st 10 * 60 + g st 12 then (0, 40, 0) else (dn (g st 6) (g st 4 + 1) (g st 2) * 86400 + g st 8 * 3600 + g st 10 * 60 + g st 12, 0, 0)) := (by
      unfold momS
      rw [if_neg hyy, if_neg hI'] : _ = _)
    clear hI hI'
    generalize hdd : dn (g st 6) (g st 4 + 1) (g st 2) = D at *
    go_enter Tryz.func64, Tryz.ntmps64
    go_wp2_with fail
    go_quiet ((go_at_call 92; exact Calls.quiet_of_same (HD.out _)))
    have HB1 : Hid (But [] w (w.drewN nq)) := (But.refl [] w).drewN nq
    have HP1 : Hid (Pcs (w.drewN nq) P st) := HP.out.but HB1.out (fun e => by cases e)
    generalize w.drewN nq = W1 at *
    clear c0 c2 c3 c4 c6 c7 c8 c9 c10 c11 c12 c13
    obtain ⟨c0, c2, c3, c4, c6, c7, c8, c9, c10, c11, c12, c13⟩ := HP1.out.all
    by_cases q1 : 23 < g st 8
    · have HS : Hid (momS (g st 6) st = (0, 42, g st 9)) := (by rw [HS0.out, if_pos q1] : momS (g st 6) st = (0, 42, g st 9))
      go_wp2_with fail
      go_quiet (fail)
      go_wp2
      exact bodyPost_ret (v := .tuple #[.int .i64 (momS (g st 6) st).1, .int .i64 (momS (g st 6) st).2.1, .int .i64 (momS (g st 6) st).2.2]) (by rw [HS.out]; simp [results, Tryz.results64, go_sem]) rfl ⟨rfl, HB1.out.drewN _⟩
    by_cases q2 : 59 < g st 10
    · have HS : Hid (momS (g st 6) st = (0, 42, g st 11)) := (by rw [HS0.out, if_neg (by omega : ¬ 23 < g st 8), if_pos q2] : momS (g st 6) st = (0, 42, g st 11))
      go_wp2_with fail
      go_quiet (fail)
      go_wp2
      exact bodyPost_ret (v := .tuple #[.int .i64 (momS (g st 6) st).1, .int .i64 (momS (g st 6) st).2.1, .int .i64 (momS (g st 6) st).2.2]) (by rw [HS.out]; simp [results, Tryz.results64, go_sem]) rfl ⟨rfl, HB1.out.drewN _⟩
    by_cases q3 : 60 < g st 12
    · have HS : Hid (momS (g st 6) st = (0, 42, g st 13)) := (by rw [HS0.out, if_neg (by omega : ¬ 23 < g st 8), if_neg (by omega : ¬ 59 < g st 10), if_pos q3] : momS (g st 6) st = (0, 42, g st 13))
      go_wp2_with fail
      go_quiet (fail)
      go_wp2
      exact bodyPost_ret (v := .tuple #[.int .i64 (momS (g st 6) st).1, .int .i64 (momS (g st 6) st).2.1, .int .i64 (momS (g st 6) st).2.2]) (by rw [HS.out]; simp [results, Tryz.results64, go_sem]) rfl ⟨rfl, HB1.out.drewN _⟩
    have HW : Hid (∀ w, Calls Tryz.prog 88 #[.int .i64 D] w fun e w' => e = .returned (.int .i64 (wday D)) ∧ w' = w) := fun w => weekday_any D (by omega) (by omega) w
    have HM : Hid (∀ w, Calls Tryz.prog 93 #[.int .i64 D, .int .i64 (g st 8), .int .i64 (g st 10), .int .i64 (g st 12)] w fun e w' => e = .returned (.int .i64 (D * 86400 + g st 8 * 3600 + g st 10 * 60 + g st 12)) ∧ w' = w) := fun w => momentOf_any D _ _ _ (by omega) (by omega) (by omega) (by omega) (by omega) (by omega) (by omega) (by omega) w
    generalize wday D = WD at *
    by_cases q4 : g st 0 = WD
    · have hne : (g st 0 != WD) = false := by simp [q4]
      go_wp2_with fail
      go_quiet ((go_at_call 88; exact Calls.quiet_of_same (HW.out _)))
      have HB2 : Hid (But [] w (W1.drewN nq)) := HB1.out.drewN nq
      have HP2 : Hid (Pcs (W1.drewN nq) P st) := HP1.out.but ((But.refl [] W1).drewN nq) (fun e => by cases e)
      generalize W1.drewN nq = W2 at *
      clear c0 c2 c3 c4 c6 c7 c8 c9 c10 c11 c12 c13
      obtain ⟨c0, c2, c3, c4, c6, c7, c8, c9, c10, c11, c12, c13⟩ := HP2.out.all
      go_wp2_with fail
      go_quiet ((go_at_call 93; exact Calls.quiet_of_same (HM.out _)))
      by_cases q5 : 253402300799 < D * 86400 + g st 8 * 3600 + g st 10 * 60 + g st 12
      · have HS : Hid (momS (g st 6) st = (0, 40, 0)) := (by rw [HS0.out, if_neg (by omega : ¬ 23 < g st 8), if_neg (by omega : ¬ 59 < g st 10), if_neg (by omega : ¬ 60 < g st 12), if_neg (fun h => h q4), if_pos q5] : momS (g st 6) st = (0, 40, 0))
        go_wp2
        exact bodyPost_ret (v := .tuple #[.int .i64 (momS (g st 6) st).1, .int .i64 (momS (g st 6) st).2.1, .int .i64 (momS (g st 6) st).2.2]) (by rw [HS.out]; simp [results, Tryz.results64, go_sem]) rfl ⟨rfl, HB2.out.drewN _⟩
      · have HS : Hid (momS (g st 6) st = (D * 86400 + g st 8 * 3600 + g st 10 * 60 + g st 12, 0, 0)) := (by rw [HS0.out, if_neg (by omega : ¬ 23 < g st 8), if_neg (by omega : ¬ 59 < g st 10), if_neg (by omega : ¬ 60 < g st 12), if_neg (fun h => h q4), if_neg (by omega : ¬ 253402300799 < D * 86400 + g st 8 * 3600 + g st 10 * 60 + g st 12)] : momS (g st 6) st = (D * 86400 + g st 8 * 3600 + g st 10 * 60 + g st 12, 0, 0))
        go_wp2
        exact bodyPost_ret (v := .tuple #[.int .i64 (momS (g st 6) st).1, .int .i64 (momS (g st 6) st).2.1, .int .i64 (momS (g st 6) st).2.2]) (by rw [HS.out]; simp [results, Tryz.results64, go_sem]) rfl ⟨rfl, HB2.out.drewN _⟩
    · have hne : (g st 0 != WD) = true := by simp [q4]
      have HS : Hid (momS (g st 6) st = (0, 43, 0)) := (by rw [HS0.out, if_neg (by omega : ¬ 23 < g st 8), if_neg (by omega : ¬ 59 < g st 10), if_neg (by omega : ¬ 60 < g st 12), if_pos q4] : momS (g st 6) st = (0, 43, 0))
      go_wp2_with fail
      go_quiet ((go_at_call 88; exact Calls.quiet_of_same (HW.out _)))
      go_wp2
      exact bodyPost_ret (v := .tuple #[.int .i64 (momS (g st 6) st).1, .int .i64 (momS (g st 6) st).2.1, .int .i64 (momS (g st 6) st).2.2]) (by rw [HS.out]; simp [results, Tryz.results64, go_sem]) rfl ⟨rfl, HB1.out.drewN _⟩
  · have HS : Hid (momS (g st 6) st = (0, 41, g st 3)) := (by
      unfold momS
      rw [if_neg hyy, if_pos (fun h => hI ⟨by omega, by omega, h.1, h.2⟩)] : momS (g st 6) st = (0, 41, g st 3))
    rw [daysS_no hI] at HD
    go_enter Tryz.func64, Tryz.ntmps64
    go_wp2_with fail
    go_quiet ((go_at_call 92; exact Calls.quiet_of_same (HD.out _)))
    have HB1 : Hid (But [] w (w.drewN nq)) := (But.refl [] w).drewN nq
    have HP1 : Hid (Pcs (w.drewN nq) P st) := HP.out.but HB1.out (fun e => by cases e)
    generalize w.drewN nq = W1 at *
    clear c0 c2 c3 c4 c6 c7 c8 c9 c10 c11 c12 c13
    obtain ⟨c0, c2, c3, c4, c6, c7, c8, c9, c10, c11, c12, c13⟩ := HP1.out.all
    go_wp2_with fail
    go_quiet (fail)
    go_wp2
    exact bodyPost_ret (v := .tuple #[.int .i64 (momS (g st 6) st).1, .int .i64 (momS (g st 6) st).2.1, .int .i64 (momS (g st 6) st).2.2]) (by rw [HS.out]; simp [results, Tryz.results64, go_sem]) rfl ⟨rfl, HB1.out.drewN _⟩

end Bs
end Go.Proofs.YtjngpafokkjkdaaGreatDoor
