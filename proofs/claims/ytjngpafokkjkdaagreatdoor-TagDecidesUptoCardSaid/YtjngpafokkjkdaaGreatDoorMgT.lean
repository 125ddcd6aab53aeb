/- Several texts as one. -/
import Derived.Test.YtjngpafokkjkdaaGreatDoorMgR
import Derived.Test.YtjngpafokkjkdaaGreatDoorMgQ
import Derived.Test.YtjngpafokkjkdaaGreatDoorMgS
/-
  Which form; the year of two digits.
-/
set_option linter.unusedVariables false
set_option linter.unusedSimpArgs false
namespace Go.Proofs.YtjngpafokkjkdaaGreatDoor
open Go.RowKit
namespace Bs

theorem str_app (a b : List UInt8) : str a ++ str b = str (a ++ b) := by
  apply eq_list
  simp [str]

set_option maxRecDepth 100000 in
set_option maxHeartbeats 1000000 in
theorem formOf_any (l : List UInt8) (w : World) (tb : Tb w) :
    Calls Tryz.prog 61 #[.string (str l)] w fun e w' => e = .returned (.int .i64 (formS l)) ∧ w' = w := by
  have HTB : Hid (Tb w) := tb
  clear tb
  go_enter Tryz.func61, Tryz.ntmps61
  go_wp2
  go_loop [4] (fun i => ∃ k : Nat, k ≤ 7 ∧ i = .int .i64 (k : Int) ∧ Hid (formF l (7 - k) k = formS l)) (fun i => 7 - (intOf i).toNat)
  case atStart => exact ⟨0, by omega, rfl, (rfl : formF l (7 - 0) 0 = formS l)⟩
  case round =>
    obtain ⟨k, hk, rfl, hf⟩ := hrel
    by_cases hkn : k < 7
    · have hst : formF l (7 - k) k = if hp l (shorts.getD k [] ++ [44]) then 0 else if hp l (longs.getD k [] ++ [44]) then 1 else formF l (7 - (k + 1)) (k + 1) := by
        rw [show 7 - k = (7 - (k + 1)) + 1 by omega]
        conv => lhs; unfold formF
      have cs := HTB.out.sd k hkn
      have cl := HTB.out.ld k hkn
      have z1 : (str (shorts.getD k [])).size ≤ 9 := by rw [str_size]; exact shorts_len k hkn
      have z2 : (str (longs.getD k [])).size ≤ 9 := by rw [str_size]; exact longs_len k hkn
      have z3 : (str (shorts.getD k [])).size + (⟨#[44]⟩ : ByteArray).size ≤ 100 := by have : (⟨#[44]⟩ : ByteArray).size = 1 := rfl; omega
      have z4 : (str (longs.getD k [])).size + (⟨#[44]⟩ : ByteArray).size ≤ 100 := by have : (⟨#[44]⟩ : ByteArray).size = 1 := rfl; omega
      have A1 : Hid (Calls Tryz.prog 89 #[.string (str l), .string (str (shorts.getD k []) ++ ⟨#[44]⟩)] w fun e w' => e = .returned (.bool (hp l (shorts.getD k [] ++ [44]))) ∧ w' = w) := (by
        rw [show (⟨#[44]⟩ : ByteArray) = str [44] from rfl, str_app]
        exact HasPrefix_any _ _ w : Calls Tryz.prog 89 #[.string (str l), .string (str (shorts.getD k []) ++ ⟨#[44]⟩)] w fun e w' => e = .returned (.bool (hp l (shorts.getD k [] ++ [44]))) ∧ w' = w)
      have A2 : Hid (Calls Tryz.prog 89 #[.string (str l), .string (str (longs.getD k []) ++ ⟨#[44]⟩)] w fun e w' => e = .returned (.bool (hp l (longs.getD k [] ++ [44]))) ∧ w' = w) := (by
        rw [show (⟨#[44]⟩ : ByteArray) = str [44] from rfl, str_app]
        exact HasPrefix_any _ _ w : Calls Tryz.prog 89 #[.string (str l), .string (str (longs.getD k []) ++ ⟨#[44]⟩)] w fun e w' => e = .returned (.bool (hp l (longs.getD k [] ++ [44]))) ∧ w' = w)
      rw [hf.out] at hst
      generalize hp l (shorts.getD k [] ++ [44]) = p1 at *
      generalize hp l (longs.getD k [] ++ [44]) = p2 at *
      have HST : Hid (_ = _) := hst
      clear hst
      generalize str (shorts.getD k []) = S1 at *
      generalize str (longs.getD k []) = S2 at *
      go_wp2_with fail
      refine Calls.mono A1.out ?_
      rintro e w' ⟨rfl, rfl⟩
      cases p1
      · go_wp2_with fail
        refine Calls.mono A2.out ?_
        rintro e w' ⟨rfl, rfl⟩
        cases p2
        · go_wp2
          exact ⟨⟨k + 1, by omega, by go_num, (HST.out.symm : formF l (7 - (k + 1)) (k + 1) = formS l)⟩, by simp [intOf]; omega⟩
        · go_wp2
          go_ret
          exact ⟨by rw [HST.out]; rfl, rfl⟩
      · go_wp2
        go_ret
        exact ⟨by rw [HST.out]; rfl, rfl⟩
    · obtain rfl : k = 7 := by omega
      go_wp2
      go_ret
      exact ⟨by rw [← hf.out]; rfl, rfl⟩

set_option maxHeartbeats 400000 in
theorem nearYear_any (c this : Int) (h0 : 0 ≤ c) (h1 : c ≤ 9999) (h2 : 0 ≤ this) (h3 : this ≤ 9999) (w : World) :
    Calls Tryz.prog 63 #[.int .i64 c, .int .i64 this] w fun e w' => e = .returned (.int .i64 (nearS c this)) ∧ w' = w := by
  have HM : Hid (Calls Tryz.prog 91 #[.int .i64 (c - (this - 49)), .int .i64 100] w fun e w' => e = .returned (.int .i64 ((c - (this - 49)) % 100)) ∧ w' = w) := modulo_any _ 100 ⟨by omega, by omega⟩ (by omega) (by omega) w
  have r := Int.emod_nonneg (c - (this - 49)) (show (100 : Int) ≠ 0 by omega)
  have r2 := Int.emod_lt_of_pos (c - (this - 49)) (show (0 : Int) < 100 by omega)
  unfold nearS
  go_enter Tryz.func63, Tryz.ntmps63
  go_wp2_with fail
  refine Calls.mono HM.out ?_
  rintro e w' ⟨rfl, rfl⟩
  go_wp2
  go_ret
  exact ⟨rfl, rfl⟩

end Bs
end Go.Proofs.YtjngpafokkjkdaaGreatDoor

/-
  What the pieces say.
-/
set_option linter.unusedVariables false
set_option linter.unusedSimpArgs false
namespace Go.Proofs.YtjngpafokkjkdaaGreatDoor
open Go.RowKit
namespace Bs

theorem Pcs.all {w : World} {P : Nat} {st : List Int} (h : Pcs w P st) : w.cell? ⟨P, 0, none⟩ = some (.int .i64 (g st 0)) ∧ w.cell? ⟨P, 2, none⟩ = some (.int .i64 (g st 2)) ∧ w.cell? ⟨P, 3, none⟩ = some (.int .i64 (g st 3)) ∧ w.cell? ⟨P, 4, none⟩ = some (.int .i64 (g st 4)) ∧ w.cell? ⟨P, 6, none⟩ = some (.int .i64 (g st 6)) ∧ w.cell? ⟨P, 7, none⟩ = some (.int .i64 (g st 7)) ∧ w.cell? ⟨P, 8, none⟩ = some (.int .i64 (g st 8)) ∧ w.cell? ⟨P, 9, none⟩ = some (.int .i64 (g st 9)) ∧ w.cell? ⟨P, 10, none⟩ = some (.int .i64 (g st 10)) ∧ w.cell? ⟨P, 11, none⟩ = some (.int .i64 (g st 11)) ∧ w.cell? ⟨P, 12, none⟩ = some (.int .i64 (g st 12)) ∧ w.cell? ⟨P, 13, none⟩ = some (.int .i64 (g st 13)) :=
  ⟨h.cell 0 (by omega), h.cell 2 (by omega), h.cell 3 (by omega), h.cell 4 (by omega), h.cell 6 (by omega), h.cell 7 (by omega), h.cell 8 (by omega), h.cell 9 (by omega), h.cell 10 (by omega), h.cell 11 (by omega), h.cell 12 (by omega), h.cell 13 (by omega)⟩

/-- The pieces' values are such as digits can say. -/
structure Fair (st : List Int) : Prop where
  d : 0 ≤ g st 2 ∧ g st 2 ≤ 99
  m : 0 ≤ g st 4 ∧ g st 4 ≤ 11
  y : -100 ≤ g st 6 ∧ g st 6 ≤ 11000
  h : 0 ≤ g st 8 ∧ g st 8 ≤ 99
  i : 0 ≤ g st 10 ∧ g st 10 ≤ 99
  s : 0 ≤ g st 12 ∧ g st 12 ≤ 99
  w : 0 ≤ g st 0 ∧ g st 0 ≤ 6

set_option maxRecDepth 100000 in
set_option maxHeartbeats 4000000 in
theorem moment_any (P : Nat) (st : List Int) (fair : Fair st) (w : World) (hp' : Pcs w P st) (tb : Tb w) :
    Calls Tryz.prog 64 #[pp P 0] w fun e w' => e = .returned (.tuple #[.int .i64 (momS (g st 6) st).1, .int .i64 (momS (g st 6) st).2.1, .int .i64 (momS (g st 6) st).2.2]) ∧ But [] w w' := by
  obtain ⟨c0, c2, c3, c4, c6, c7, c8, c9, c10, c11, c12, c13⟩ := hp'.all
  obtain ⟨⟨d0, d1⟩, ⟨m0, m1⟩, ⟨y0, y1⟩, ⟨h0, h1⟩, ⟨i0, i1⟩, ⟨s0, s1⟩, ⟨w0, w1⟩⟩ := fair
  have HP : Hid (Pcs w P st) := hp'
  have HD : Hid (∀ n, Calls Tryz.prog 92 #[.int .i64 (g st 6), .int .i64 (g st 4 + 1), .int .i64 (g st 2)] (w.drewN n) fun e w' => e = .returned (.tuple #[.int .i64 (daysS (g st 6) (g st 4 + 1) (g st 2)).1, .int .i64 (daysS (g st 6) (g st 4 + 1) (g st 2)).2]) ∧ w' = w.drewN n) := fun n => Days_any _ _ _ ⟨by omega, by omega⟩ ⟨by omega, by omega⟩ ⟨by omega, by omega⟩ _ (tb.bel ((But.refl [] w).drewN n).to_below)
  clear hp' tb
  unfold pp
  by_cases hy1 : g st 6 < 1
  · have HS : Hid (momS (g st 6) st = (0, 41, g st 7)) := (by unfold momS; rw [if_pos (Or.inl hy1)] : momS (g st 6) st = (0, 41, g st 7))
    go_enter Tryz.func64, Tryz.ntmps64
    go_wp2_with fail
    go_quiet (fail)
    go_wp2
    exact bodyPost_ret (v := .tuple #[.int .i64 (momS (g st 6) st).1, .int .i64 (momS (g st 6) st).2.1, .int .i64 (momS (g st 6) st).2.2]) (by rw [HS.out]; simp [results, Tryz.results64, go_sem]) rfl ⟨rfl, (But.refl [] w).drewN _⟩
  by_cases hy2 : 9999 < g st 6
  · have HS : Hid (momS (g st 6) st = (0, 41, g st 7)) := (by unfold momS; rw [if_pos (Or.inr hy2)] : momS (g st 6) st = (0, 41, g st 7))
    go_enter Tryz.func64, Tryz.ntmps64
    go_wp2_with fail
    go_quiet (fail)
    go_wp2
    exact bodyPost_ret (v := .tuple #[.int .i64 (momS (g st 6) st).1, .int .i64 (momS (g st 6) st).2.1, .int .i64 (momS (g st 6) st).2.2]) (by rw [HS.out]; simp [results, Tryz.results64, go_sem]) rfl ⟨rfl, (But.refl [] w).drewN _⟩
  have hyy : ¬ (g st 6 < 1 ∨ 9999 < g st 6) := by omega
  by_cases hI : IsD (g st 6) (g st 4 + 1) (g st 2)
  · have hdn := dn_range hI
    rw [daysS_ok hI] at HD
    have hI' : ¬ ¬ (1 ≤ g st 2 ∧ g st 2 ≤ md (g st 6) (g st 4 + 1)) := fun h => h ⟨hI.2.2.1, hI.2.2.2⟩
    have HS0 : Hid (momS (g st 6) st = if 23 < g st 8 then (0, 42, g st 9) else if 59 < g st 10 then (0, 42, g st 11) else if 60 < g st 12 then (0, 42, g st 13) else if g st 0 ≠ wday (dn (g st 6) (g st 4 + 1) (g st 2)) then (0, 43, 0) else if 253402300799 < dn (g st 6) (g st 4 + 1) (g st 2) * 86400 + g st 8 * 3600 + g st 10 * 60 + g st 12 then (0, 40, 0) else (dn (g st 6) (g st 4 + 1) (g st 2) * 86400 + g st 8 * 3600 + g st 10 * 60 + g st 12, 0, 0)) := (by
      unfold momS
      rw [if_neg hyy, if_neg hI'] : _ = _)
    clear hI hI'
    generalize hdd : dn (g st 6) (g st 4 + 1) (g st 2) = D at *
    go_enter Tryz.func64, Tryz.ntmps64
    go_wp2_with fail
    go_quiet ((go_at_call 92; exact Calls.quiet_of_same (HD.out _)))
    have HB1 : Hid (But [] w (w.drewN nq)) := (But.refl [] w).drewN nq
    have HP1 : Hid (Pcs (w.drewN nq) P st) := HP.out.but HB1.out (fun e => by cases e)
    generalize w.drewN nq = W1 at *
    clear c0 c2 c3 c4 c6 c7 c8 c9 c10 c11 c12 c13
    obtain ⟨c0, c2, c3, c4, c6, c7, c8, c9, c10, c11, c12, c13⟩ := HP1.out.all
    by_cases q1 : 23 < g st 8
    · have HS : Hid (momS (g st 6) st = (0, 42, g st 9)) := (by rw [HS0.out, if_pos q1] : momS (g st 6) st = (0, 42, g st 9))
      go_wp2_with fail
      go_quiet (fail)
      go_wp2
      exact bodyPost_ret (v := .tuple #[.int .i64 (momS (g st 6) st).1, .int .i64 (momS (g st 6) st).2.1, .int .i64 (momS (g st 6) st).2.2]) (by rw [HS.out]; simp [results, Tryz.results64, go_sem]) rfl ⟨rfl, HB1.out.drewN _⟩
    by_cases q2 : 59 < g st 10
    · have HS : Hid (momS (g st 6) st = (0, 42, g st 11)) := (by rw [HS0.out, if_neg (by omega : ¬ 23 < g st 8), if_pos q2] : momS (g st 6) st = (0, 42, g st 11))
      go_wp2_with fail
      go_quiet (fail)
      go_wp2
      exact bodyPost_ret (v := .tuple #[.int .i64 (momS (g st 6) st).1, .int .i64 (momS (g st 6) st).2.1, .int .i64 (momS (g st 6) st).2.2]) (by rw [HS.out]; simp [results, Tryz.results64, go_sem]) rfl ⟨rfl, HB1.out.drewN _⟩
    by_cases q3 : 60 < g st 12
    · have HS : Hid (momS (g st 6) st = (0, 42, g st 13)) := (by rw [HS0.out, if_neg (by omega : ¬ 23 < g st 8), if_neg (by omega : ¬ 59 < g st 10), if_pos q3] : momS (g st 6) st = (0, 42, g st 13))
      go_wp2_with fail
      go_quiet (fail)
      go_wp2
      exact bodyPost_ret (v := .tuple #[.int .i64 (momS (g st 6) st).1, .int .i64 (momS (g st 6) st).2.1, .int .i64 (momS (g st 6) st).2.2]) (by rw [HS.out]; simp [results, Tryz.results64, go_sem]) rfl ⟨rfl, HB1.out.drewN _⟩
    have HW : Hid (∀ w, Calls Tryz.prog 88 #[.int .i64 D] w fun e w' => e = .returned (.int .i64 (wday D)) ∧ w' = w) := fun w => weekday_any D (by omega) (by omega) w
    have HM : Hid (∀ w, Calls Tryz.prog 93 #[.int .i64 D, .int .i64 (g st 8), .int .i64 (g st 10), .int .i64 (g st 12)] w fun e w' => e = .returned (.int .i64 (D * 86400 + g st 8 * 3600 + g st 10 * 60 + g st 12)) ∧ w' = w) := fun w => momentOf_any D _ _ _ (by omega) (by omega) (by omega) (by omega) (by omega) (by omega) (by omega) (by omega) w
    generalize wday D = WD at *
    by_cases q4 : g st 0 = WD
    · have hne : (g st 0 != WD) = false := by simp [q4]
      go_wp2_with fail
      go_quiet ((go_at_call 88; exact Calls.quiet_of_same (HW.out _)))
      have HB2 : Hid (But [] w (W1.drewN nq)) := HB1.out.drewN nq
      have HP2 : Hid (Pcs (W1.drewN nq) P st) := HP1.out.but ((But.refl [] W1).drewN nq) (fun e => by cases e)
      generalize W1.drewN nq = W2 at *
      clear c0 c2 c3 c4 c6 c7 c8 c9 c10 c11 c12 c13
      obtain ⟨c0, c2, c3, c4, c6, c7, c8, c9, c10, c11, c12, c13⟩ := HP2.out.all
      go_wp2_with fail
      go_quiet ((go_at_call 93; exact Calls.quiet_of_same (HM.out _)))
      by_cases q5 : 253402300799 < D * 86400 + g st 8 * 3600 + g st 10 * 60 + g st 12
      · have HS : Hid (momS (g st 6) st = (0, 40, 0)) := (by rw [HS0.out, if_neg (by omega : ¬ 23 < g st 8), if_neg (by omega : ¬ 59 < g st 10), if_neg (by omega : ¬ 60 < g st 12), if_neg (fun h => h q4), if_pos q5] : momS (g st 6) st = (0, 40, 0))
        go_wp2
        exact bodyPost_ret (v := .tuple #[.int .i64 (momS (g st 6) st).1, .int .i64 (momS (g st 6) st).2.1, .int .i64 (momS (g st 6) st).2.2]) (by rw [HS.out]; simp [results, Tryz.results64, go_sem]) rfl ⟨rfl, HB2.out.drewN _⟩
      · have HS : Hid (momS (g st 6) st = (D * 86400 + g st 8 * 3600 + g st 10 * 60 + g st 12, 0, 0)) := (by rw [HS0.out, if_neg (by omega : ¬ 23 < g st 8), if_neg (by omega : ¬ 59 < g st 10), if_neg (by omega : ¬ 60 < g st 12), if_neg (fun h => h q4), if_neg (by omega : ¬ 253402300799 < D * 86400 + g st 8 * 3600 + g st 10 * 60 + g st 12)] : momS (g st 6) st = (D * 86400 + g st 8 * 3600 + g st 10 * 60 + g st 12, 0, 0))
        go_wp2
        exact bodyPost_ret (v := .tuple #[.int .i64 (momS (g st 6) st).1, .int .i64 (momS (g st 6) st).2.1, .int .i64 (momS (g st 6) st).2.2]) (by rw [HS.out]; simp [results, Tryz.results64, go_sem]) rfl ⟨rfl, HB2.out.drewN _⟩
    · have hne : (g st 0 != WD) = true := by simp [q4]
      have HS : Hid (momS (g st 6) st = (0, 43, 0)) := (by rw [HS0.out, if_neg (by omega : ¬ 23 < g st 8), if_neg (by omega : ¬ 59 < g st 10), if_neg (by omega : ¬ 60 < g st 12), if_pos q4] : momS (g st 6) st = (0, 43, 0))
      go_wp2_with fail
      go_quiet ((go_at_call 88; exact Calls.quiet_of_same (HW.out _)))
      go_wp2
      exact bodyPost_ret (v := .tuple #[.int .i64 (momS (g st 6) st).1, .int .i64 (momS (g st 6) st).2.1, .int .i64 (momS (g st 6) st).2.2]) (by rw [HS.out]; simp [results, Tryz.results64, go_sem]) rfl ⟨rfl, HB1.out.drewN _⟩
  · have HS : Hid (momS (g st 6) st = (0, 41, g st 3)) := (by
      unfold momS
      rw [if_neg hyy, if_pos (fun h => hI ⟨by omega, by omega, h.1, h.2⟩)] : momS (g st 6) st = (0, 41, g st 3))
    rw [daysS_no hI] at HD
    go_enter Tryz.func64, Tryz.ntmps64
    go_wp2_with fail
    go_quiet ((go_at_call 92; exact Calls.quiet_of_same (HD.out _)))
    have HB1 : Hid (But [] w (w.drewN nq)) := (But.refl [] w).drewN nq
    have HP1 : Hid (Pcs (w.drewN nq) P st) := HP.out.but HB1.out (fun e => by cases e)
    generalize w.drewN nq = W1 at *
    clear c0 c2 c3 c4 c6 c7 c8 c9 c10 c11 c12 c13
    obtain ⟨c0, c2, c3, c4, c6, c7, c8, c9, c10, c11, c12, c13⟩ := HP1.out.all
    go_wp2_with fail
    go_quiet (fail)
    go_wp2
    exact bodyPost_ret (v := .tuple #[.int .i64 (momS (g st 6) st).1, .int .i64 (momS (g st 6) st).2.1, .int .i64 (momS (g st 6) st).2.2]) (by rw [HS.out]; simp [results, Tryz.results64, go_sem]) rfl ⟨rfl, HB1.out.drewN _⟩

end Bs
end Go.Proofs.YtjngpafokkjkdaaGreatDoor

/-
  Parse.
-/
set_option linter.unusedVariables false
set_option linter.unusedSimpArgs false
namespace Go.Proofs.YtjngpafokkjkdaaGreatDoor
open Go.RowKit
namespace Bs

/- The pieces' values are such as digits and names can say. -/
structure Fair0 (st : List Int) : Prop where
  len : st.length = 14
  d : 0 ≤ g st 2 ∧ g st 2 ≤ 99
  m : 0 ≤ g st 4 ∧ g st 4 ≤ 11
  y : 0 ≤ g st 6 ∧ g st 6 ≤ 9999
  h : 0 ≤ g st 8 ∧ g st 8 ≤ 99
  i : 0 ≤ g st 10 ∧ g st 10 ≤ 99
  s : 0 ≤ g st 12 ∧ g st 12 ≤ 99
  w : 0 ≤ g st 0 ∧ g st 0 ≤ 6
def okV : Nat → Int → Prop
  | 0, v => 0 ≤ v ∧ v ≤ 6
  | 2, v => 0 ≤ v ∧ v ≤ 11
  | 3, v => 0 ≤ v ∧ v ≤ 9999
  | _, v => 0 ≤ v ∧ v ≤ 99
theorem g_put {st : List Int} {f : Nat} {v a : Int} (h : st.length = 14) (hf : f < 7) (i : Nat) (hi : i < 7) : g (put st f v a) (2 * i) = if i = f then v else g st (2 * i) := by
  unfold put g
  rw [List.getD_eq_getElem?_getD, List.getElem?_set_ne (by omega)]
  by_cases hif : i = f
  · subst hif
    rw [List.getElem?_set_self (by omega), if_pos rfl]
    rfl
  · rw [List.getElem?_set_ne (by omega), if_neg hif, ← List.getD_eq_getElem?_getD]
theorem Fair0.put {st : List Int} (h : Fair0 st) (f : Nat) (hf : f < 7) (v a : Int) (hv : okV f v) : Fair0 (put st f v a) := by
  have hl := h.len
  have gg := fun i hi => g_put (v := v) (a := a) hl hf i hi
  have e0 := gg 0 (by omega)
  have e1 := gg 1 (by omega)
  have e2 := gg 2 (by omega)
  have e3 := gg 3 (by omega)
  have e4 := gg 4 (by omega)
  have e5 := gg 5 (by omega)
  have e6 := gg 6 (by omega)
  refine ⟨by rw [put_len]; exact hl, ?_, ?_, ?_, ?_, ?_, ?_, ?_⟩
  · rw [show (2 : Nat) = 2 * 1 from rfl, e1]; split
    · subst_vars; exact hv
    · exact h.d
  · rw [show (4 : Nat) = 2 * 2 from rfl, e2]; split
    · subst_vars; exact hv
    · exact h.m
  · rw [show (6 : Nat) = 2 * 3 from rfl, e3]; split
    · subst_vars; exact hv
    · exact h.y
  · rw [show (8 : Nat) = 2 * 4 from rfl, e4]; split
    · subst_vars; exact hv
    · exact h.h
  · rw [show (10 : Nat) = 2 * 5 from rfl, e5]; split
    · subst_vars; exact hv
    · exact h.i
  · rw [show (12 : Nat) = 2 * 6 from rfl, e6]; split
    · subst_vars; exact hv
    · exact h.s
  · rw [show (0 : Nat) = 2 * 0 from rfl, e0]; split
    · subst_vars; exact hv
    · exact h.w
theorem dgs_bd (l : List UInt8) : ∀ (n a : Nat) (v0 : Int) (r : Nat × Int), 0 ≤ v0 → dgs l n a v0 = .ok r → 0 ≤ r.2 ∧ r.2 + 1 ≤ (v0 + 1) * 10 ^ n
  | 0, a, v0, r, h, e => by cases e; simp; omega
  | n + 1, a, v0, r, h, e => by
    unfold dgs at e
    split at e
    · rename_i c hc
      split at e
      · rename_i hd
        have hd' : 48 ≤ c.toNat ∧ c.toNat ≤ 57 := by simpa [dgt] using hd
        have hdv : 0 ≤ dv c ∧ dv c ≤ 9 := by unfold dv; omega
        obtain ⟨a1, a2⟩ := dgs_bd l n (a + 1) (v0 * 10 + dv c) r (by omega) e
        refine ⟨a1, Int.le_trans a2 ?_⟩
        rw [Int.pow_succ, Int.mul_comm (10 ^ n) 10, ← Int.mul_assoc]
        exact Int.mul_le_mul_of_nonneg_right (by omega) (by exact Int.le_of_lt (Int.pow_pos (by decide)))
      · cases e
    · cases e
def okR : TK → Prop
  | .ex _ => True
  | .dg n f => (n = 2 ∧ f < 7 ∧ f ≠ 0 ∧ f ≠ 2) ∨ (n = 4 ∧ f = 3)
  | .lo f => f = 1
  | .nm k f => (k < 2 ∧ f = 0) ∨ (k = 2 ∧ f = 2)
theorem dgR_fair {st st' : List Int} {f n a b : Nat} {a' : Int} {l : List UInt8} (h : Fair0 st) (hok : (n ≤ 2 ∧ f < 7 ∧ f ≠ 0 ∧ f ≠ 2) ∨ (n = 4 ∧ f = 3)) (e : dgR st f a' (dgs l n a 0) = .ok (b, st')) : Fair0 st' := by
  cases hg : dgs l n a 0 with
  | error x => rw [hg] at e; cases e
  | ok x =>
    rw [hg] at e
    cases e
    have hb := dgs_bd l n a 0 x (by omega) hg
    rcases hok with ⟨h1, h2, h3, h4⟩ | ⟨rfl, rfl⟩
    · have hx : 0 ≤ x.2 ∧ x.2 ≤ 99 := by
        rcases (by omega : n = 0 ∨ n = 1 ∨ n = 2) with rfl | rfl | rfl <;> simp at hb <;> omega
      refine h.put f h2 _ _ ?_
      rcases (by omega : f = 1 ∨ f = 3 ∨ f = 4 ∨ f = 5 ∨ f = 6) with rfl | rfl | rfl | rfl | rfl <;> simp [okV] <;> omega
    · refine h.put 3 (by omega) _ _ ?_
      simp [okV]
      simp at hb
      omega
theorem take1_fair {l : List UInt8} {a b : Nat} {st st' : List Int} {t : TK} (ok : okR t) (h : Fair0 st) (e : take1 l a st t = .ok (b, st')) : Fair0 st' := by
  cases t with
  | ex t =>
    unfold take1 at e
    dsimp only at e
    cases hx : exs l t a with
    | error x => rw [hx] at e; cases e
    | ok x => rw [hx] at e; cases e; exact h
  | dg n f =>
    rw [take1_dg] at e
    refine dgR_fair h ?_ e
    rcases ok with ⟨h1, h2⟩ | h1
    · exact .inl ⟨by omega, h2⟩
    · exact .inr h1
  | lo f =>
    cases (ok : f = 1)
    rw [take1_lo] at e
    unfold loR at e
    split at e
    · exact dgR_fair h (.inl ⟨by omega, by omega, by omega, by omega⟩) e
    · exact dgR_fair h (.inl ⟨by omega, by omega, by omega, by omega⟩) e
  | nm k f =>
    rw [take1_nm] at e
    cases hn : nam l a (nms k) with
    | none => rw [hn] at e; cases e
    | some i =>
      rw [hn] at e
      cases e
      have hi : i < (nms k).length := by
        unfold nam at hn
        exact (List.findIdx?_eq_some_iff_getElem.1 hn).1
      rcases ok with ⟨h1, rfl⟩ | ⟨rfl, rfl⟩
      · refine h.put 0 (by omega) _ _ ?_
        rcases (by omega : k = 0 ∨ k = 1) with rfl | rfl <;> simp [nms, shorts, longs] at hi <;> simp [okV] <;> omega
      · refine h.put 2 (by omega) _ _ ?_
        simp [nms, mons] at hi
        simp [okV]
        omega
theorem takes_fair {l : List UInt8} : ∀ {ts : List TK} {a b : Nat} {st st' : List Int}, (∀ t, t ∈ ts → okR t) → Fair0 st → takes l ts a st = .ok (b, st') → Fair0 st'
  | [], a, b, st, st', _, h, e => by cases e; exact h
  | t :: ts, a, b, st, st', ok, h, e => by
    unfold takes at e
    cases ht : take1 l a st t with
    | error x => rw [ht] at e; cases e
    | ok x =>
      rw [ht] at e
      exact takes_fair (fun t ht => ok t (List.mem_cons_of_mem _ ht)) (take1_fair (ok t (List.mem_cons_self ..)) h ht) e
theorem tks_okR {form : Int} : ∀ t, t ∈ tks form → okR t := by
  have h1 : ∀ t ∈ tkL, okR t := by simp [tkL, okR]
  have h2 : ∀ t ∈ tkP, okR t := by simp [tkP, okR]
  have h3 : ∀ t ∈ tkF, okR t := by simp [tkF, okR]
  unfold tks
  split
  · exact h1
  · split
    · exact h2
    · exact h3
theorem z14_fair : Fair0 z14 := by
  constructor <;> decide
theorem g_set6 {st : List Int} (h : st.length = 14) (x : Int) (i : Nat) : g (st.set 6 x) i = if i = 6 then x else g st i := by
  unfold g
  rw [List.getD_eq_getElem?_getD]
  by_cases hi : i = 6
  · subst hi
    rw [List.getElem?_set_self (by omega), if_pos rfl]
    rfl
  · rw [List.getElem?_set_ne (by omega), if_neg hi, ← List.getD_eq_getElem?_getD]
theorem momS_set {st : List Int} (h : st.length = 14) (x : Int) : momS (g (st.set 6 x) 6) (st.set 6 x) = momS x st := by
  unfold momS
  simp only [g_set6 h]
  simp
theorem Fair0.fair {st : List Int} (h : Fair0 st) : Fair st := ⟨h.d, h.m, ⟨by have := h.y.1; omega, by have := h.y.2; omega⟩, h.h, h.i, h.s, h.w⟩
theorem Fair0.fair6 {st : List Int} (h : Fair0 st) (x : Int) (h0 : -100 ≤ x) (h1 : x ≤ 11000) : Fair (st.set 6 x) := by
  have gs := g_set6 h.len x
  refine ⟨?_, ?_, ?_, ?_, ?_, ?_, ?_⟩ <;> rw [gs] <;> simp
  · exact h.d
  · exact h.m
  · exact ⟨h0, h1⟩
  · exact h.h
  · exact h.i
  · exact h.s
  · exact h.w
def TakersC : Prop := ∀ (form : Int) (P : Nat) (w : World), (form = 0 ∨ form = 1 ∨ form = 2) → P < w.heap.size → Calls Tryz.prog 90 #[.int .i64 form, pp P 0] w fun e w' => ∃ v, e = .returned v ∧ Tks w' P (tks form) v ∧ Below w.heap.size w w'

set_option maxRecDepth 100000 in
set_option maxHeartbeats 4000000 in
theorem Parse_any0 (CT : Hid TakersC) (l : List UInt8) (now : Int) (hl : l.length ≤ 140737488355328) (hn : I64 now) (w : World) (tb : Tb w) :
    Calls Tryz.prog 38 #[.string (str l), .int .i64 now] w fun e w' => e = .returned (.tuple #[.int .i64 (parseS l now).1, .int .i64 (parseS l now).2.1, .int .i64 (parseS l now).2.2.1, .int .i64 (parseS l now).2.2.2]) ∧ Below w.heap.size w w' := by
  have hsp := Split_any now hn w tb
  have HTB : Hid (Tb w) := tb
  clear tb
  by_cases hM : isM now
  · rw [show splitR now = (splitV now, 0) from if_pos hM] at hsp
    have HSP : Hid (Calls Tryz.prog 60 #[.int .i64 now] w fun e w' => e = .returned (.tuple #[splitV now, .int .i64 0]) ∧ Below w.heap.size w w') := hsp
    clear hsp
    unfold splitV dv7 at HSP
    have hM1 := hM.1
    have hM2 := hM.2
    have hyr := (ymd_is (D := now / 86400) (by omega) (by omega)).1
    have hy1 : 1 ≤ yearOfM now := hyr.1
    have hy2 : yearOfM now ≤ 9999 := hyr.2.1
    have HYM : Hid ((ymd (now / 86400)).1 = yearOfM now) := (rfl : (ymd (now / 86400)).1 = yearOfM now)
    rw [HYM.out] at HSP
    clear hyr
    generalize (ymd (now / 86400)).2.1 = n1 at *
    generalize (ymd (now / 86400)).2.2 = n2 at *
    generalize now % 86400 / 3600 = n3 at *
    generalize now % 86400 % 3600 / 60 = n4 at *
    generalize now % 86400 % 60 = n5 at *
    generalize wday (now / 86400) = n6 at *
    have hF := formS_r l
    have HPS : Hid (parseS l now = pars2 l now (takes l (tks (formS l)) 0 z14)) := if_neg (fun h => h hM)
    have HFO : Hid (∀ w, Tb w → Calls Tryz.prog 61 #[.string (str l)] w fun e w' => e = .returned (.int .i64 (formS l)) ∧ w' = w) := fun w h => formOf_any l w h
    have HYS : Hid (∀ st, yS l now st = if formS l = 1 then nearS (g st 6) (yearOfM now) else g st 6) := (fun st => rfl : ∀ st, yS l now st = if formS l = 1 then nearS (g st 6) (yearOfM now) else g st 6)
    have HFM : Hid (∃ f, formS l = f) := ⟨_, rfl⟩
    clear HFM
    generalize hfm : formS l = fm at *
    have HFM : Hid (formS l = fm) := hfm
    clear hfm
    generalize yearOfM now = ny at *
    go_enter Tryz.func38, Tryz.ntmps38
    go_wp2_with fail
    refine Calls.mono HSP.out ?_
    rintro e w1 ⟨rfl, b1⟩
    have HB1 : Hid (Below w.heap.size w w1) := b1
    clear b1
    go_wp2_with fail
    have hb3 : Below w.heap.size w ((w1.alloc (.cells #[.int .i64 ny, .int .i64 n1, .int .i64 n2, .int .i64 n3, .int .i64 n4, .int .i64 n5, .int .i64 n6] 104)).alloc (.cells #[.int .i64 0, .int .i64 0, .int .i64 0, .int .i64 0, .int .i64 0, .int .i64 0, .int .i64 0, .int .i64 0, .int .i64 0, .int .i64 0, .int .i64 0, .int .i64 0, .int .i64 0, .int .i64 0] 110)) := bel_trans HB1.out (((But.refl [] w1).alloc _).alloc _).to_below
    have HP3 : Hid (Pcs ((w1.alloc (.cells #[.int .i64 ny, .int .i64 n1, .int .i64 n2, .int .i64 n3, .int .i64 n4, .int .i64 n5, .int .i64 n6] 104)).alloc (.cells #[.int .i64 0, .int .i64 0, .int .i64 0, .int .i64 0, .int .i64 0, .int .i64 0, .int .i64 0, .int .i64 0, .int .i64 0, .int .i64 0, .int .i64 0, .int .i64 0, .int .i64 0, .int .i64 0] 110)) (w1.heap.size + 1) z14) := ⟨rfl, by rw [show w1.heap.size + 1 = (w1.alloc (.cells #[.int .i64 ny, .int .i64 n1, .int .i64 n2, .int .i64 n3, .int .i64 n4, .int .i64 n5, .int .i64 n6] 104)).heap.size by simp, heap_alloc_new]; rfl⟩
    have cD : ((w1.alloc (.cells #[.int .i64 ny, .int .i64 n1, .int .i64 n2, .int .i64 n3, .int .i64 n4, .int .i64 n5, .int .i64 n6] 104)).alloc (.cells #[.int .i64 0, .int .i64 0, .int .i64 0, .int .i64 0, .int .i64 0, .int .i64 0, .int .i64 0, .int .i64 0, .int .i64 0, .int .i64 0, .int .i64 0, .int .i64 0, .int .i64 0, .int .i64 0] 110)).cell? ⟨w1.heap.size, 0, none⟩ = some (.int .i64 ny) := by simp
    generalize ((w1.alloc (.cells #[.int .i64 ny, .int .i64 n1, .int .i64 n2, .int .i64 n3, .int .i64 n4, .int .i64 n5, .int .i64 n6] 104)).alloc (.cells #[.int .i64 0, .int .i64 0, .int .i64 0, .int .i64 0, .int .i64 0, .int .i64 0, .int .i64 0, .int .i64 0, .int .i64 0, .int .i64 0, .int .i64 0, .int .i64 0, .int .i64 0, .int .i64 0] 110)) = W3 at *
    have HB3 : Hid (Below w.heap.size w W3) := hb3
    clear hb3
    have hDw : w.heap.size ≤ w1.heap.size := HB1.out.size
    have hDP : w1.heap.size ≠ w1.heap.size + 1 := by omega
    have hPw : w.heap.size ≤ w1.heap.size + 1 := by omega
    clear HB1
    generalize w1.heap.size + 1 = P at *
    generalize w1.heap.size = DD at *
    have HT3 : Hid (Tb W3) := HTB.out.bel HB3.out
    have HNT : Hid (NotTb P) := HTB.out.notTb hPw
    have HWK : Hid (Calls Tryz.prog 62 #[.string (str l), .int .i64 fm, pp P 0] W3 fun e w' => WTook l (takes l (tks fm) 0 z14) P e w' ∧ But [P] W3 w') := walk_any l fm P W3 hl z14 HP3.out HT3.out HNT.out (fun w h => CT.out fm P w hF h)
    refine (HFO.out W3 HT3.out).mono ?_
    rintro e w' ⟨rfl, hw'⟩
    subst hw'
    go_wp2_with fail
    unfold pp at HWK
    refine Calls.mono HWK.out ?_
    rintro e w4 ⟨htook, b4⟩
    have HB4 : Hid (Below w.heap.size w w4) := HB3.out.trans (b4.below HB3.out.size (fun x hx => by simp at hx; omega))
    have HT4 : Hid (Tb w4) := HT3.out.butP b4 HNT.out
    have cD4 := b4.cell cD (fun e => by simp at e; exact hDP e)
    clear b4 cD HWK
    have hfr : ∀ a st, takes l (tks fm) 0 z14 = .ok (a, st) → Fair0 st := fun a st e => takes_fair tks_okR z14_fair e
    have HFR : Hid (∀ a st, takes l (tks fm) 0 z14 = .ok (a, st) → Fair0 st) := hfr
    clear hfr
    cases htk : takes l (tks fm) 0 z14 with
    | error a =>
      rw [htk] at htook HPS
      have HRS : Hid (parseS l now = (0, 0, 44, (a : Int))) := HPS.out
      obtain ⟨rfl, _⟩ := htook
      go_wp2
      exact bodyPost_ret (v := .tuple #[.int .i64 (parseS l now).1, .int .i64 (parseS l now).2.1, .int .i64 (parseS l now).2.2.1, .int .i64 (parseS l now).2.2.2]) (by rw [HRS.out]; simp [results, Tryz.results38, go_sem]) rfl ⟨rfl, HB4.out⟩
    | ok r =>
      obtain ⟨a, st⟩ := r
      have fr := HFR.out a st htk
      rw [htk] at htook HPS
      obtain ⟨rfl, hp4⟩ := htook
      by_cases hal : a = l.length
      · rw [decide_eq_true hal]
        have HPS2 : Hid (parseS l now = if (momS (yS l now st) st).2.1 = 0 then ((momS (yS l now st) st).1, fm, 0, 0) else (0, 0, (momS (yS l now st) st).2.1, (momS (yS l now st) st).2.2)) := (by
          rw [HPS.out]
          unfold pars2
          dsimp only
          rw [if_neg (fun h => h hal), HFM.out] : _ = _)
        by_cases hf1 : fm = 1
        · have c6 := hp4.cell 6 (by omega)
          have f6 := hp4.free 6
          have hy := fr.y
          have HNY : Hid (∀ w, Calls Tryz.prog 63 #[.int .i64 (g st 6), .int .i64 ny] w fun e w' => e = .returned (.int .i64 (nearS (g st 6) ny)) ∧ w' = w) := fun w => nearYear_any _ _ (by omega) (by omega) (by omega) (by omega) w
          have hyy : yS l now st = nearS (g st 6) ny := by rw [HYS.out, if_pos hf1]
          have hnr : -100 ≤ nearS (g st 6) ny ∧ nearS (g st 6) ny ≤ 11000 := by unfold nearS; omega
          rw [hyy] at HPS2
          have HMO : Hid (Calls Tryz.prog 64 #[pp P 0] (w4.setCell ⟨P, 6, none⟩ (.int .i64 (nearS (g st 6) ny))) fun e w' => e = .returned (.tuple #[.int .i64 (momS (nearS (g st 6) ny) st).1, .int .i64 (momS (nearS (g st 6) ny) st).2.1, .int .i64 (momS (nearS (g st 6) ny) st).2.2]) ∧ But [] (w4.setCell ⟨P, 6, none⟩ (.int .i64 (nearS (g st 6) ny))) w') := (by
            have := moment_any P (st.set 6 (nearS (g st 6) ny)) (fr.fair6 _ hnr.1 hnr.2) (w4.setCell ⟨P, 6, none⟩ (.int .i64 (nearS (g st 6) ny))) (hp4.set 6 (by omega) _) (HT4.out.butP ((But.refl [P] w4).setCell (by simp) _) HNT.out)
            rw [momS_set fr.len] at this
            exact this : Calls Tryz.prog 64 #[pp P 0] (w4.setCell ⟨P, 6, none⟩ (.int .i64 (nearS (g st 6) ny))) fun e w' => e = .returned (.tuple #[.int .i64 (momS (nearS (g st 6) ny) st).1, .int .i64 (momS (nearS (g st 6) ny) st).2.1, .int .i64 (momS (nearS (g st 6) ny) st).2.2]) ∧ But [] (w4.setCell ⟨P, 6, none⟩ (.int .i64 (nearS (g st 6) ny))) w')
          have HB5 : Hid (Below w.heap.size w (w4.setCell ⟨P, 6, none⟩ (.int .i64 (nearS (g st 6) ny)))) := HB4.out.trans (((But.refl [P] w4).setCell (by simp) _).below HB4.out.size (fun x hx => by simp at hx; omega))
          clear hp4 hyy htk fr
          generalize nearS (g st 6) ny = NY at *
          generalize g st 6 = G6 at *
          unfold pp at *
          go_wp2_with fail
          refine (HNY.out _).mono ?_
          rintro e w' ⟨rfl, hw'⟩
          subst hw'
          go_wp2_with fail
          refine Calls.mono HMO.out ?_
          rintro e w6 ⟨rfl, b6⟩
          have HB6 : Hid (Below w.heap.size w w6) := HB5.out.trans (b6.to_below.mono HB5.out.size)
          clear b6
          by_cases hz : (momS NY st).2.1 = 0
          · have HRS : Hid (parseS l now = ((momS NY st).1, 1, 0, 0)) := (by rw [HPS2.out, if_pos hz, hf1] : parseS l now = ((momS NY st).1, 1, 0, 0))
            clear HPS2 HPS
            generalize (momS NY st).1 = M1 at *
            generalize (momS NY st).2.1 = M2 at *
            generalize (momS NY st).2.2 = M3 at *
            subst hz
            go_wp2
            exact bodyPost_ret (v := .tuple #[.int .i64 (parseS l now).1, .int .i64 (parseS l now).2.1, .int .i64 (parseS l now).2.2.1, .int .i64 (parseS l now).2.2.2]) (by rw [HRS.out]; simp [results, Tryz.results38, go_sem]) rfl ⟨rfl, HB6.out⟩
          · have HRS : Hid (parseS l now = (0, 0, (momS NY st).2.1, (momS NY st).2.2)) := (by rw [HPS2.out, if_neg hz] : parseS l now = (0, 0, (momS NY st).2.1, (momS NY st).2.2))
            clear HPS2 HPS
            generalize (momS NY st).1 = M1 at *
            generalize (momS NY st).2.1 = M2 at *
            generalize (momS NY st).2.2 = M3 at *
            have hzz : (M2 != 0) = true := by simp [hz]
            go_wp2
            exact bodyPost_ret (v := .tuple #[.int .i64 (parseS l now).1, .int .i64 (parseS l now).2.1, .int .i64 (parseS l now).2.2.1, .int .i64 (parseS l now).2.2.2]) (by rw [HRS.out]; simp [results, Tryz.results38, go_sem]) rfl ⟨rfl, HB6.out⟩
        · have hf1' : (fm == 1) = false := by simp [hf1]
          have hyy : yS l now st = g st 6 := by rw [HYS.out, if_neg hf1]
          rw [hyy] at HPS2
          have HMO : Hid (Calls Tryz.prog 64 #[pp P 0] w4 fun e w' => e = .returned (.tuple #[.int .i64 (momS (g st 6) st).1, .int .i64 (momS (g st 6) st).2.1, .int .i64 (momS (g st 6) st).2.2]) ∧ But [] w4 w') := moment_any P st fr.fair w4 hp4 HT4.out
          clear hp4 hyy htk fr
          generalize g st 6 = NY at *
          unfold pp at *
          go_wp2_with fail
          refine Calls.mono HMO.out ?_
          rintro e w6 ⟨rfl, b6⟩
          have HB6 : Hid (Below w.heap.size w w6) := HB4.out.trans (b6.to_below.mono HB4.out.size)
          clear b6
          by_cases hz : (momS NY st).2.1 = 0
          · have HRS : Hid (parseS l now = ((momS NY st).1, fm, 0, 0)) := (by rw [HPS2.out, if_pos hz] : parseS l now = ((momS NY st).1, fm, 0, 0))
            clear HPS2 HPS
            generalize (momS NY st).1 = M1 at *
            generalize (momS NY st).2.1 = M2 at *
            generalize (momS NY st).2.2 = M3 at *
            subst hz
            go_wp2
            exact bodyPost_ret (v := .tuple #[.int .i64 (parseS l now).1, .int .i64 (parseS l now).2.1, .int .i64 (parseS l now).2.2.1, .int .i64 (parseS l now).2.2.2]) (by rw [HRS.out]; simp [results, Tryz.results38, go_sem]) rfl ⟨rfl, HB6.out⟩
          · have HRS : Hid (parseS l now = (0, 0, (momS NY st).2.1, (momS NY st).2.2)) := (by rw [HPS2.out, if_neg hz] : parseS l now = (0, 0, (momS NY st).2.1, (momS NY st).2.2))
            clear HPS2 HPS
            generalize (momS NY st).1 = M1 at *
            generalize (momS NY st).2.1 = M2 at *
            generalize (momS NY st).2.2 = M3 at *
            have hzz : (M2 != 0) = true := by simp [hz]
            go_wp2
            exact bodyPost_ret (v := .tuple #[.int .i64 (parseS l now).1, .int .i64 (parseS l now).2.1, .int .i64 (parseS l now).2.2.1, .int .i64 (parseS l now).2.2.2]) (by rw [HRS.out]; simp [results, Tryz.results38, go_sem]) rfl ⟨rfl, HB6.out⟩
      · rw [decide_eq_false hal]
        have HRS : Hid (parseS l now = (0, 0, 44, (a : Int))) := (by
          rw [HPS.out]
          unfold pars2
          dsimp only
          rw [if_pos hal] : _ = _)
        clear hp4
        go_wp2
        exact bodyPost_ret (v := .tuple #[.int .i64 (parseS l now).1, .int .i64 (parseS l now).2.1, .int .i64 (parseS l now).2.2.1, .int .i64 (parseS l now).2.2.2]) (by rw [HRS.out]; simp [results, Tryz.results38, go_sem]) rfl ⟨rfl, HB4.out⟩
  · rw [show splitR now = (dv7 0 0 0 0 0 0 0, 40) from if_neg hM] at hsp
    have HSP : Hid (Calls Tryz.prog 60 #[.int .i64 now] w fun e w' => e = .returned (.tuple #[dv7 0 0 0 0 0 0 0, .int .i64 40]) ∧ Below w.heap.size w w') := hsp
    clear hsp
    unfold dv7 at HSP
    have HPS : Hid (parseS l now = (0, 0, 40, 0)) := if_pos hM
    go_enter Tryz.func38, Tryz.ntmps38
    go_wp2_with fail
    refine Calls.mono HSP.out ?_
    rintro e w1 ⟨rfl, b1⟩
    have HB1 : Hid (Below w.heap.size w w1) := b1
    clear b1
    go_wp2
    exact bodyPost_ret (v := .tuple #[.int .i64 (parseS l now).1, .int .i64 (parseS l now).2.1, .int .i64 (parseS l now).2.2.1, .int .i64 (parseS l now).2.2.2]) (by rw [HPS.out]; simp [results, Tryz.results38, go_sem]) rfl ⟨rfl, bel_trans HB1.out ((But.refl [] w1).alloc _).to_below⟩

end Bs
end Go.Proofs.YtjngpafokkjkdaaGreatDoor
