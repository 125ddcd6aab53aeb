/- Several texts as one. -/
import Derived.Test.YtjngpafokkjkdaaGreatDoorMgM
import Derived.Test.YtjngpafokkjkdaaGreatDoorMgO
/-
  What the pieces say.
-/
set_option linter.unusedVariables false
set_option linter.unusedSimpArgs false
namespace Go.Proofs.YtjngpafokkjkdaaGreatDoor
open Go.RowKit
namespace Bs

theorem Pcs.all {w : World} {P : Nat} {st : List Int} (h : Pcs w P st) : w.cell? ⟨P, 0, none⟩ = some (.int .i64 (g st 0)) ∧ w.cell? ⟨P, 2, none⟩ = some (.int .i64 (g st 2)) ∧ w.cell? ⟨P, 3, none⟩ = some (.int .i64 (g st 3)) ∧ w.cell? ⟨P, 4, none⟩ = some (.int .i64 (g st 4)) ∧ w.cell? ⟨P, 6, none⟩ = some (.int .i64 (g st 6)) ∧ w.cell? ⟨P, 7, none⟩ = some (.int .i64 (g st 7)) ∧ w.cell? ⟨P, 8, none⟩ = some (.int .i64 (g st 8)) ∧ w.cell? ⟨P, 9, none⟩ = some (.int .i64 (g st 9)) ∧ w.cell? ⟨P, 10, none⟩ = some (.int .i64 (g st 10)) ∧ w.cell? ⟨P, 11, none⟩ = some (.int .i64 (g st 11)) ∧ w.cell? ⟨P, 12, none⟩ = some (.int .i64 (g st 12)) ∧ w.cell? ⟨P, 13, none⟩ = some (.int .i64 (g st 13)) :=
  ⟨h.cell 0 (by omega), h.cell 2 (by omega), h.cell 3 (by omega), h.cell 4 (by omega), h.cell 6 (by omega), h.cell 7 (by omega), h.cell 8 (by omega), h.cell 9 (by omega), h.cell 10 (by omega), h.cell 11 (by omega), h.cell 12 (by omega), h.cell 13 (by omega)⟩

/-- The pieces' values are such as digits can say. -/
structure Fair (st : List Int) : Prop where
  d : 0 ≤ g st 2 ∧ g st 2 ≤ 99
  m : 0 ≤ g st 4 ∧ g st 4 ≤ 11
  y : -100 ≤ g st 6 ∧ g st 6 ≤ 11000
  h : 0 ≤ g st 8 ∧ g st 8 ≤ 99
  i : 0 ≤ g st 10 ∧ g st 10 ≤ 99
  s : 0 ≤ g st 12 ∧ g st 12 ≤ 99
  w : 0 ≤ g st 0 ∧ g st 0 ≤ 6

set_option maxRecDepth 100000 in
set_option maxHeartbeats 4000000 in
theorem moment_any (P : Nat) (st : List Int) (fair : Fair st) (w : World) (hp' : Pcs w P st) (tb : Tb w) :
    Calls Tryz.prog 64 #[pp P 0] w fun e w' => e = .returned (.tuple #[.int .i64 (momS (g st 6) st).1, .int .i64 (momS (g st 6) st).2.1, .int .i64 (momS (g st 6) st).2.2]) ∧ But [] w w' := by
  obtain ⟨c0, c2, c3, c4, c6, c7, c8, c9, c10, c11, c12, c13⟩ := hp'.all
  obtain ⟨⟨d0, d1⟩, ⟨m0, m1⟩, ⟨y0, y1⟩, ⟨h0, h1⟩, ⟨i0, i1⟩, ⟨s0, s1⟩, ⟨w0, w1⟩⟩ := fair
  have HP : Hid (Pcs w P st) := hp'
  have HD : Hid (∀ n, Calls Tryz.prog 92 #[.int .i64 (g st 6), .int .i64 (g st 4 + 1), .int .i64 (g st 2)] (w.drewN n) fun e w' => e = .returned (.tuple #[.int .i64 (daysS (g st 6) (g st 4 + 1) (g st 2)).1, .int .i64 (daysS (g st 6) (g st 4 + 1) (g st 2)).2]) ∧ w' = w.drewN n) := fun n => Days_any _ _ _ ⟨by omega, by omega⟩ ⟨by omega, by omega⟩ ⟨by omega, by omega⟩ _ (tb.bel ((But.refl [] w).drewN n).to_below)
  clear hp' tb
  unfold pp
  by_cases hy1 : g st 6 < 1
  · have HS : Hid (momS (g st 6) st = (0, 41, g st 7)) := (by unfold momS; rw [if_pos (Or.inl hy1)] : momS (g st 6) st = (0, 41, g st 7))
    go_enter Tryz.func64, Tryz.ntmps64
    go_wp2_with fail
    go_quiet (fail)
    go_wp2
    exact bodyPost_ret (v := .tuple #[.int .i64 (momS (g st 6) st).1, .int .i64 (momS (g st 6) st).2.1, .int .i64 (momS (g st 6) st).2.2]) (by rw [HS.out]; simp [results, Tryz.results64, go_sem]) rfl ⟨rfl, (But.refl [] w).drewN _⟩
  by_cases hy2 : 9999 < g st 6
  · have HS : Hid (momS (g st 6) st = (0, 41, g st 7)) := (by unfold momS; rw [if_pos (Or.inr hy2)] : momS (g st 6) st = (0, 41, g st 7))
    go_enter Tryz.func64, Tryz.ntmps64
    go_wp2_with fail
    go_quiet (fail)
    go_wp2
    exact bodyPost_ret (v := .tuple #[.int .i64 (momS (g st 6) st).1, .int .i64 (momS (g st 6) st).2.1, .int .i64 (momS (g st 6) st).2.2]) (by rw [HS.out]; simp [results, Tryz.results64, go_sem]) rfl ⟨rfl, (But.refl [] w).drewN _⟩
  have hyy : ¬ (g st 6 < 1 ∨ 9999 < g st 6) := by omega
  by_cases hI : IsD (g st 6) (g st 4 + 1) (g st 2)
  · have hdn := dn_range hI
    rw [daysS_ok hI] at HD
    have hI' : ¬ ¬ (1 ≤ g st 2 ∧ g st 2 ≤ md (g st 6) (g st 4 + 1)) := fun h => h ⟨hI.2.2.1, hI.2.2.2⟩
    have HS0 : Hid (momS (g st 6) st = if 23 < g st 8 then (0, 42, g st 9) else if 59 < g st 10 then (0, 42, g st 11) else if 60 < g st 12 then (0, 42, g st 13) else if g st 0 ≠ wday (dn (g st 6) (g st 4 + 1) (g st 2)) then (0, 43, 0) else if 253402300799 < dn (g st 6) (g st 4 + 1) (g st 2) * 86400 + g st 8 * 3600 + g st 10 * 60 + g st 12 then (0, 40, 0) else (dn (g st 6) (g st 4 + 1) (g st 2) * 86400 + g st 8 * 3600 + g st 10 * 60 + g st 12, 0, 0)) := (by
      unfold momS
      rw [if_neg hyy, if_neg hI'] : _ = _)
    clear hI hI'
    generalize hdd : dn (g st 6) (g st 4 + 1) (g st 2) = D at *
    go_enter Tryz.func64, Tryz.ntmps64
    go_wp2_with fail
    go_quiet ((go_at_call 92; exact Calls.quiet_of_same (HD.out _)))
    have HB1 : Hid (But [] w (w.drewN nq)) := (But.refl [] w).drewN nq
    have HP1 : Hid (Pcs (w.drewN nq) P st) := HP.out.but HB1.out (fun e => by cases e)
    generalize w.drewN nq = W1 at *
    clear c0 c2 c3 c4 c6 c7 c8 c9 c10 c11 c12 c13
    obtain ⟨c0, c2, c3, c4, c6, c7, c8, c9, c10, c11, c12, c13⟩ := HP1.out.all
    by_cases q1 : 23 < g st 8
    · have HS : Hid (momS (g st 6) st = (0, 42, g st 9)) := (by rw [HS0.out, if_pos q1] : momS (g st 6) st = (0, 42, g st 9))
      go_wp2_with fail
      go_quiet (fail)
      go_wp2
      exact bodyPost_ret (v := .tuple #[.int .i64 (momS (g st 6) st).1, .int .i64 (momS (g st 6) st).2.1, .int .i64 (momS (g st 6) st).2.2]) (by rw [HS.out]; simp [results, Tryz.results64, go_sem]) rfl ⟨rfl, HB1.out.drewN _⟩
    by_cases q2 : 59 < g st 10
    · have HS : Hid (momS (g st 6) st = (0, 42, g st 11)) := (by rw [HS0.out, if_neg (by omega : ¬ 23 < g st 8), if_pos q2] : momS (g st 6) st = (0, 42, g st 11))
      go_wp2_with fail
      go_quiet (fail)
      go_wp2
      exact bodyPost_ret (v := .tuple #[.int .i64 (momS (g st 6) st).1, .int .i64 (momS (g st 6) st).2.1, .int .i64 (momS (g st 6) st).2.2]) (by rw [HS.out]; simp [results, Tryz.results64, go_sem]) rfl ⟨rfl, HB1.out.drewN _⟩
    by_cases q3 : 60 < g st 12
    · have HS : Hid (momS (g st 6) st = (0, 42, g st 13)) := (by rw [HS0.out, if_neg (by omega : ¬ 23 < g st 8), if_neg (by omega : ¬ 59 < g st 10), if_pos q3] : momS (g st 6) st = (0, 42, g st 13))
      go_wp2_with fail
      go_quiet (fail)
      go_wp2
      exact bodyPost_ret (v := .tuple #[.int .i64 (momS (g st 6) st).1, .int .i64 (momS (g st 6) st).2.1, .int .i64 (momS (g st 6) st).2.2]) (by rw [HS.out]; simp [results, Tryz.results64, go_sem]) rfl ⟨rfl, HB1.out.drewN _⟩
    have HW : Hid (∀ w, Calls Tryz.prog 88 #[.int .i64 D] w fun e w' => e = .returned (.int .i64 (wday D)) ∧ w' = w) := fun w => weekday_any D (by omega) (by omega) w
    have HM : Hid (∀ w, Calls Tryz.prog 93 #[.int .i64 D, .int .i64 (g st 8), .int .i64 (g st 10), .int .i64 (g st 12)] w fun e w' => e = .returned (.int .i64 (D * 86400 + g st 8 * 3600 + g st 10 * 60 + g st 12)) ∧ w' = w) := fun w => momentOf_any D _ _ _ (by omega) (by omega) (by omega) (by omega) (by omega) (by omega) (by omega) (by omega) w
    generalize wday D = WD at *
    by_cases q4 : g st 0 = WD
    · have hne : (g st 0 != WD) = false := by simp [q4]
      go_wp2_with fail
      go_quiet ((go_at_call 88; exact Calls.quiet_of_same (HW.out _)))
      have HB2 : Hid (But [] w (W1.drewN nq)) := HB1.out.drewN nq
      have HP2 : Hid (Pcs (W1.drewN nq) P st) := HP1.out.but ((But.refl [] W1).drewN nq) (fun e => by cases e)
      generalize W1.drewN nq = W2 at *
      clear c0 c2 c3 c4 c6 c7 c8 c9 c10 c11 c12 c13
      obtain ⟨c0, c2, c3, c4, c6, c7, c8, c9, c10, c11, c12, c13⟩ := HP2.out.all
      go_wp2_with fail
      go_quiet ((go_at_call 93; exact Calls.quiet_of_same (HM.out _)))
      by_cases q5 : 253402300799 < D * 86400 + g st 8 * 3600 + g st 10 * 60 + g st 12
      · have HS : Hid (momS (g st 6) st = (0, 40, 0)) := (by rw [HS0.out, if_neg (by omega : ¬ 23 < g st 8), if_neg (by omega : ¬ 59 < g st 10), if_neg (by omega : ¬ 60 < g st 12), if_neg (fun h => h q4), if_pos q5] : momS (g st 6) st = (0, 40, 0))
        go_wp2
        exact bodyPost_ret (v := .tuple #[.int .i64 (momS (g st 6) st).1, .int .i64 (momS (g st 6) st).2.1, .int .i64 (momS (g st 6) st).2.2]) (by rw [HS.out]; simp [results, Tryz.results64, go_sem]) rfl ⟨rfl, HB2.out.drewN _⟩
      · have HS : Hid (momS (g st 6) st = (D * 86400 + g st 8 * 3600 + g st 10 * 60 + g st 12, 0, 0)) := (by rw [HS0.out, if_neg (by omega : ¬ 23 < g st 8), if_neg (by omega : ¬ 59 < g st 10), if_neg (by omega : ¬ 60 < g st 12), if_neg (fun h => h q4), if_neg (by omega : ¬ 253402300799 < D * 86400 + g st 8 * 3600 + g st 10 * 60 + g st 12)] : momS (g st 6) st = (D * 86400 + g st 8 * 3600 + g st 10 * 60 + g st 12, 0, 0))
        go_wp2
        exact bodyPost_ret (v := .tuple #[.int .i64 (momS (g st 6) st).1, .int .i64 (momS (g st 6) st).2.1, .int .i64 (momS (g st 6) st).2.2]) (by rw [HS.out]; simp [results, Tryz.results64, go_sem]) rfl ⟨rfl, HB2.out.drewN _⟩
    · have hne : (g st 0 != WD) = true := by simp [q4]
      have HS : Hid (momS (g st 6) st = (0, 43, 0)) := (by rw [HS0.out, if_neg (by omega : ¬ 23 < g st 8), if_neg (by omega : ¬ 59 < g st 10), if_neg (by omega : ¬ 60 < g st 12), if_pos q4] : momS (g st 6) st = (0, 43, 0))
      go_wp2_with fail
      go_quiet ((go_at_call 88; exact Calls.quiet_of_same (HW.out _)))
      go_wp2
      exact bodyPost_ret (v := .tuple #[.int .i64 (momS (g st 6) st).1, .int .i64 (momS (g st 6) st).2.1, .int .i64 (momS (g st 6) st).2.2]) (by rw [HS.out]; simp [results, Tryz.results64, go_sem]) rfl ⟨rfl, HB1.out.drewN _⟩
  · have HS : Hid (momS (g st 6) st = (0, 41, g st 3)) := (by
      unfold momS
      rw [if_neg hyy, if_pos (fun h => hI ⟨by omega, by omega, h.1, h.2⟩)] : momS (g st 6) st = (0, 41, g st 3))
    rw [daysS_no hI] at HD
    go_enter Tryz.func64, Tryz.ntmps64
    go_wp2_with fail
    go_quiet ((go_at_call 92; exact Calls.quiet_of_same (HD.out _)))
    have HB1 : Hid (But [] w (w.drewN nq)) := (But.refl [] w).drewN nq
    have HP1 : Hid (Pcs (w.drewN nq) P st) := HP.out.but HB1.out (fun e => by cases e)
    generalize w.drewN nq = W1 at *
    clear c0 c2 c3 c4 c6 c7 c8 c9 c10 c11 c12 c13
    obtain ⟨c0, c2, c3, c4, c6, c7, c8, c9, c10, c11, c12, c13⟩ := HP1.out.all
    go_wp2_with fail
    go_quiet (fail)
    go_wp2
    exact bodyPost_ret (v := .tuple #[.int .i64 (momS (g st 6) st).1, .int .i64 (momS (g st 6) st).2.1, .int .i64 (momS (g st 6) st).2.2]) (by rw [HS.out]; simp [results, Tryz.results64, go_sem]) rfl ⟨rfl, HB1.out.drewN _⟩

end Bs
end Go.Proofs.YtjngpafokkjkdaaGreatDoor

/-
  Parse.
-/
set_option linter.unusedVariables false
set_option linter.unusedSimpArgs false
namespace Go.Proofs.YtjngpafokkjkdaaGreatDoor
open Go.RowKit
namespace Bs

/- The pieces' values are such as digits and names can say. -/
structure Fair0 (st : List Int) : Prop where
  len : st.length = 14
  d : 0 ≤ g st 2 ∧ g st 2 ≤ 99
  m : 0 ≤ g st 4 ∧ g st 4 ≤ 11
  y : 0 ≤ g st 6 ∧ g st 6 ≤ 9999
  h : 0 ≤ g st 8 ∧ g st 8 ≤ 99
  i : 0 ≤ g st 10 ∧ g st 10 ≤ 99
  s : 0 ≤ g st 12 ∧ g st 12 ≤ 99
  w : 0 ≤ g st 0 ∧ g st 0 ≤ 6
def okV : Nat → Int → Prop
  | 0, v => 0 ≤ v ∧ v ≤ 6
  | 2, v => 0 ≤ v ∧ v ≤ 11
  | 3, v => 0 ≤ v ∧ v ≤ 9999
  | _, v => 0 ≤ v ∧ v ≤ 99
theorem g_put {st : List Int} {f : Nat} {v a : Int} (h : st.length = 14) (hf : f < 7) (i : Nat) (hi : i < 7) : g (put st f v a) (2 * i) = if i = f then v else g st (2 * i) := by
  unfold put g
  rw [List.getD_eq_getElem?_getD, List.getElem?_set_ne (by omega)]
  by_cases hif : i = f
  · subst hif
    rw [List.getElem?_set_self (by omega), if_pos rfl]
    rfl
  · rw [List.getElem?_set_ne (by omega), if_neg hif, ← List.getD_eq_getElem?_getD]
theorem Fair0.put {st : List Int} (h : Fair0 st) (f : Nat) (hf : f < 7) (v a : Int) (hv : okV f v) : Fair0 (put st f v a) := by
  have hl := h.len
  have gg := fun i hi => g_put (v := v) (a := a) hl hf i hi
  have e0 := gg 0 (by omega)
  have e1 := gg 1 (by omega)
  have e2 := gg 2 (by omega)
  have e3 := gg 3 (by omega)
  have e4 := gg 4 (by omega)
  have e5 := gg 5 (by omega)
  have e6 := gg 6 (by omega)
  refine ⟨by rw [put_len]; exact hl, ?_, ?_, ?_, ?_, ?_, ?_, ?_⟩
  · rw [show (2 : Nat) = 2 * 1 from rfl, e1]; split
    · subst_vars; exact hv
    · exact h.d
  · rw [show (4 : Nat) = 2 * 2 from rfl, e2]; split
    · subst_vars; exact hv
    · exact h.m
  · rw [show (6 : Nat) = 2 * 3 from rfl, e3]; split
    · subst_vars; exact hv
    · exact h.y
  · rw [show (8 : Nat) = 2 * 4 from rfl, e4]; split
    · subst_vars; exact hv
    · exact h.h
  · rw [show (10 : Nat) = 2 * 5 from rfl, e5]; split
    · subst_vars; exact hv
    · exact h.i
  · rw [show (12 : Nat) = 2 * 6 from rfl, e6]; split
    · subst_vars; exact hv
    · exact h.s
  · rw [show (0 : Nat) = 2 * 0 from rfl, e0]; split
    · subst_vars; exact hv
    · exact h.w
theorem dgs_bd (l : List UInt8) : ∀ (n a : Nat) (v0 : Int) (r : Nat × Int), 0 ≤ v0 → dgs l n a v0 = .ok r → 0 ≤ r.2 ∧ r.2 + 1 ≤ (v0 + 1) * 10 ^ n
  | 0, a, v0, r, h, e => by cases e; simp; omega
  | n + 1, a, v0, r, h, e => by
    unfold dgs at e
    split at e
    · rename_i c hc
      split at e
      · rename_i hd
        have hd' : 48 ≤ c.toNat ∧ c.toNat ≤ 57 := by simpa [dgt] using hd
        have hdv : 0 ≤ dv c ∧ dv c ≤ 9 := by unfold dv; omega
        obtain ⟨a1, a2⟩ := dgs_bd l n (a + 1) (v0 * 10 + dv c) r (by omega) e
        refine ⟨a1, Int.le_trans a2 ?_⟩
        rw [Int.pow_succ, Int.mul_comm (10 ^ n) 10, ← Int.mul_assoc]
        exact Int.mul_le_mul_of_nonneg_right (by omega) (by exact Int.le_of_lt (Int.pow_pos (by decide)))
      · cases e
    · cases e
def okR : TK → Prop
  | .ex _ => True
  | .dg n f => (n = 2 ∧ f < 7 ∧ f ≠ 0 ∧ f ≠ 2) ∨ (n = 4 ∧ f = 3)
  | .lo f => f = 1
  | .nm k f => (k < 2 ∧ f = 0) ∨ (k = 2 ∧ f = 2)
theorem dgR_fair {st st' : List Int} {f n a b : Nat} {a' : Int} {l : List UInt8} (h : Fair0 st) (hok : (n ≤ 2 ∧ f < 7 ∧ f ≠ 0 ∧ f ≠ 2) ∨ (n = 4 ∧ f = 3)) (e : dgR st f a' (dgs l n a 0) = .ok (b, st')) : Fair0 st' := by
  cases hg : dgs l n a 0 with
  | error x => rw [hg] at e; cases e
  | ok x =>
    rw [hg] at e
    cases e
    have hb := dgs_bd l n a 0 x (by omega) hg
    rcases hok with ⟨h1, h2, h3, h4⟩ | ⟨rfl, rfl⟩
    · have hx : 0 ≤ x.2 ∧ x.2 ≤ 99 := by
        rcases (by omega : n = 0 ∨ n = 1 ∨ n = 2) with rfl | rfl | rfl <;> simp at hb <;> omega
      refine h.put f h2 _ _ ?_
      rcases (by omega : f = 1 ∨ f = 3 ∨ f = 4 ∨ f = 5 ∨ f = 6) with rfl | rfl | rfl | rfl | rfl <;> simp [okV] <;> omega
    · refine h.put 3 (by omega) _ _ ?_
      simp [okV]
      simp at hb
      omega
theorem take1_fair {l : List UInt8} {a b : Nat} {st st' : List Int} {t : TK} (ok : okR t) (h : Fair0 st) (e : take1 l a st t = .ok (b, st')) : Fair0 st' := by
  cases t with
  | ex t =>
    unfold take1 at e
    dsimp only at e
    cases hx : exs l t a with
    | error x => rw [hx] at e; cases e
    | ok x => rw [hx] at e; cases e; exact h
  | dg n f =>
    rw [take1_dg] at e
    refine dgR_fair h ?_ e
    rcases ok with ⟨h1, h2⟩ | h1
    · exact .inl ⟨by omega, h2⟩
    · exact .inr h1
  | lo f =>
    cases (ok : f = 1)
    rw [take1_lo] at e
    unfold loR at e
    split at e
    · exact dgR_fair h (.inl ⟨by omega, by omega, by omega, by omega⟩) e
    · exact dgR_fair h (.inl ⟨by omega, by omega, by omega, by omega⟩) e
  | nm k f =>
    rw [take1_nm] at e
    cases hn : nam l a (nms k) with
    | none => rw [hn] at e; cases e
    | some i =>
      rw [hn] at e
      cases e
      have hi : i < (nms k).length := by
        unfold nam at hn
        exact (List.findIdx?_eq_some_iff_getElem.1 hn).1
      rcases ok with ⟨h1, rfl⟩ | ⟨rfl, rfl⟩
      · refine h.put 0 (by omega) _ _ ?_
        rcases (by omega : k = 0 ∨ k = 1) with rfl | rfl <;> simp [nms, shorts, longs] at hi <;> simp [okV] <;> omega
      · refine h.put 2 (by omega) _ _ ?_
        simp [nms, mons] at hi
        simp [okV]
        omega
theorem takes_fair {l : List UInt8} : ∀ {ts : List TK} {a b : Nat} {st st' : List Int}, (∀ t, t ∈ ts → okR t) → Fair0 st → takes l ts a st = .ok (b, st') → Fair0 st'
  | [], a, b, st, st', _, h, e => by cases e; exact h
  | t :: ts, a, b, st, st', ok, h, e => by
    unfold takes at e
    cases ht : take1 l a st t with
    | error x => rw [ht] at e; cases e
    | ok x =>
      rw [ht] at e
      exact takes_fair (fun t ht => ok t (List.mem_cons_of_mem _ ht)) (take1_fair (ok t (List.mem_cons_self ..)) h ht) e
theorem tks_okR {form : Int} : ∀ t, t ∈ tks form → okR t := by
  have h1 : ∀ t ∈ tkL, okR t := by simp [tkL, okR]
  have h2 : ∀ t ∈ tkP, okR t := by simp [tkP, okR]
  have h3 : ∀ t ∈ tkF, okR t := by simp [tkF, okR]
  unfold tks
  split
  · exact h1
  · split
    · exact h2
    · exact h3
theorem z14_fair : Fair0 z14 := by
  constructor <;> decide
theorem g_set6 {st : List Int} (h : st.length = 14) (x : Int) (i : Nat) : g (st.set 6 x) i = if i = 6 then x else g st i := by
  unfold g
  rw [List.getD_eq_getElem?_getD]
  by_cases hi : i = 6
  · subst hi
    rw [List.getElem?_set_self (by omega), if_pos rfl]
    rfl
  · rw [List.getElem?_set_ne (by omega), if_neg hi, ← List.getD_eq_getElem?_getD]
theorem momS_set {st : List Int} (h : st.length = 14) (x : Int) : momS (g (st.set 6 x) 6) (st.set 6 x) = momS x st := by
  unfold momS
  simp only [g_set6 h]
  simp
theorem Fair0.fair {st : List Int} (h : Fair0 st) : Fair st := ⟨h.d, h.m, ⟨by have := h.y.1; omega, by have := h.y.2; omega⟩, h.h, h.i, h.s, h.w⟩
theorem Fair0.fair6 {st : List Int} (h : Fair0 st) (x : Int) (h0 : -100 ≤ x) (h1 : x ≤ 11000) : Fair (st.set 6 x) := by
  have gs := g_set6 h.len x
  refine ⟨?_, ?_, ?_, ?_, ?_, ?_, ?_⟩ <;> rw [gs] <;> simp
  · exact h.d
  · exact h.m
  · exact ⟨h0, h1⟩
  · exact h.h
  · exact h.i
  · exact h.s
  · exact h.w
def TakersC : Prop := ∀ (form : Int) (P : Nat) (w : World), (form = 0 ∨ form = 1 ∨ form = 2) → P < w.heap.size → Calls Tryz.prog 90 #[.int .i64 form, pp P 0] w fun e w' => ∃ v, e = .returned v ∧ Tks w' P (tks form) v ∧ Below w.heap.size w w'

set_option maxRecDepth 100000 in
set_option maxHeartbeats 4000000 in
theorem Parse_any0 (CT : Hid TakersC) (l : List UInt8) (now : Int) (hl : l.length ≤ 140737488355328) (hn : I64 now) (w : World) (tb : Tb w) :
    Calls Tryz.prog 38 #[.string (str l), .int .i64 now] w fun e w' => e = .returned (.tuple #[.int .i64 (parseS l now).1, .int .i64 (parseS l now).2.1, .int .i64 (parseS l now).2.2.1, .int .i64 (parseS l now).2.2.2]) ∧ Below w.heap.size w w' := by
  have hsp := Split_any now hn w tb
  have HTB : Hid (Tb w) := tb
  clear tb
  by_cases hM : isM now
  · rw [show splitR now = (splitV now, 0) from if_pos hM] at hsp
    have HSP : Hid (Calls Tryz.prog 60 #[.int .i64 now] w fun e w' => e = .returned (.tuple #[splitV now, .int .i64 0]) ∧ Below w.heap.size w w') := hsp
    clear hsp
    unfold splitV dv7 at HSP
    have hM1 := hM.1
    have hM2 := hM.2
    have hyr := (ymd_is (D := now / 86400) (by omega) (by omega)).1
    have hy1 : 1 ≤ yearOfM now := hyr.1
    have hy2 : yearOfM now ≤ 9999 := hyr.2.1
    have HYM : Hid ((ymd (now / 86400)).1 = yearOfM now) := (rfl : (ymd (now / 86400)).1 = yearOfM now)
    rw [HYM.out] at HSP
    clear hyr
    generalize (ymd (now / 86400)).2.1 = n1 at *
    generalize (ymd (now / 86400)).2.2 = n2 at *
    generalize now % 86400 / 3600 = n3 at *
    generalize now % 86400 % 3600 / 60 = n4 at *
    generalize now % 86400 % 60 = n5 at *
    generalize wday (now / 86400) = n6 at *
    have hF := formS_r l
    have HPS : Hid (parseS l now = pars2 l now (takes l (tks (formS l)) 0 z14)) := if_neg (fun h => h hM)
    have HFO : Hid (∀ w, Tb w → Calls Tryz.prog 61 #[.string (str l)] w fun e w' => e = .returned (.int .i64 (formS l)) ∧ w' = w) := fun w h => formOf_any l w h
    have HYS : Hid (∀ st, yS l now st = if formS l = 1 then nearS (g st 6) (yearOfM now) else g st 6) := (fun st => rfl : ∀ st, yS l now st = if formS l = 1 then nearS (g st 6) (yearOfM now) else g st 6)
    have HFM : Hid (∃ f, formS l = f) := ⟨_, rfl⟩
    clear HFM
    generalize hfm : formS l = fm at *
    have HFM : Hid (formS l = fm) := hfm
    clear hfm
    generalize yearOfM now = ny at *
    go_enter Tryz.func38, Tryz.ntmps38
    go_wp2_with fail
    refine Calls.mono HSP.out ?_
    rintro e w1 ⟨rfl, b1⟩
    have HB1 : Hid (Below w.heap.size w w1) := b1
    clear b1
    go_wp2_with fail
    have hb3 : Below w.heap.size w ((w1.alloc (.cells #[.int .i64 ny, .int .i64 n1, .int .i64 n2, .int .i64 n3, .int .i64 n4, .int .i64 n5, .int .i64 n6] 104)).alloc (.cells #[.int .i64 0, .int .i64 0, .int .i64 0, .int .i64 0, .int .i64 0, .int .i64 0, .int .i64 0, .int .i64 0, .int .i64 0, .int .i64 0, .int .i64 0, .int .i64 0, .int .i64 0, .int .i64 0] 110)) := bel_trans HB1.out (((But.refl [] w1).alloc _).alloc _).to_below
    have HP3 : Hid (Pcs ((w1.alloc (.cells #[.int .i64 ny, .int .i64 n1, .int .i64 n2, .int .i64 n3, .int .i64 n4, .int .i64 n5, .int .i64 n6] 104)).alloc (.cells #[.int .i64 0, .int .i64 0, .int .i64 0, .int .i64 0, .int .i64 0, .int .i64 0, .int .i64 0, .int .i64 0, .int .i64 0, .int .i64 0, .int .i64 0, .int .i64 0, .int .i64 0, .int .i64 0] 110)) (w1.heap.size + 1) z14) := ⟨rfl, by rw [show w1.heap.size + 1 = (w1.alloc (.cells #[.int .i64 ny, .int .i64 n1, .int .i64 n2, .int .i64 n3, .int .i64 n4, .int .i64 n5, .int .i64 n6] 104)).heap.size by simp, heap_alloc_new]; rfl⟩
    have cD : ((w1.alloc (.cells #[.int .i64 ny, .int .i64 n1, .int .i64 n2, .int .i64 n3, .int .i64 n4, .int .i64 n5, .int .i64 n6] 104)).alloc (.cells #[.int .i64 0, .int .i64 0, .int .i64 0, .int .i64 0, .int .i64 0, .int .i64 0, .int .i64 0, .int .i64 0, .int .i64 0, .int .i64 0, .int .i64 0, .int .i64 0, .int .i64 0, .int .i64 0] 110)).cell? ⟨w1.heap.size, 0, none⟩ = some (.int .i64 ny) := by simp
    generalize ((w1.alloc (.cells #[.int .i64 ny, .int .i64 n1, .int .i64 n2, .int .i64 n3, .int .i64 n4, .int .i64 n5, .int .i64 n6] 104)).alloc (.cells #[.int .i64 0, .int .i64 0, .int .i64 0, .int .i64 0, .int .i64 0, .int .i64 0, .int .i64 0, .int .i64 0, .int .i64 0, .int .i64 0, .int .i64 0, .int .i64 0, .int .i64 0, .int .i64 0] 110)) = W3 at *
    have HB3 : Hid (Below w.heap.size w W3) := hb3
    clear hb3
    have hDw : w.heap.size ≤ w1.heap.size := HB1.out.size
    have hDP : w1.heap.size ≠ w1.heap.size + 1 := by omega
    have hPw : w.heap.size ≤ w1.heap.size + 1 := by omega
    clear HB1
    generalize w1.heap.size + 1 = P at *
    generalize w1.heap.size = DD at *
    have HT3 : Hid (Tb W3) := HTB.out.bel HB3.out
    have HNT : Hid (NotTb P) := HTB.out.notTb hPw
    have HWK : Hid (Calls Tryz.prog 62 #[.string (str l), .int .i64 fm, pp P 0] W3 fun e w' => WTook l (takes l (tks fm) 0 z14) P e w' ∧ But [P] W3 w') := walk_any l fm P W3 hl z14 HP3.out HT3.out HNT.out (fun w h => CT.out fm P w hF h)
    refine (HFO.out W3 HT3.out).mono ?_
    rintro e w' ⟨rfl, hw'⟩
    subst hw'
    go_wp2_with fail
    unfold pp at HWK
    refine Calls.mono HWK.out ?_
    rintro e w4 ⟨htook, b4⟩
    have HB4 : Hid (Below w.heap.size w w4) := HB3.out.trans (b4.below HB3.out.size (fun x hx => by simp at hx; omega))
    have HT4 : Hid (Tb w4) := HT3.out.butP b4 HNT.out
    have cD4 := b4.cell cD (fun e => by simp at e; exact hDP e)
    clear b4 cD HWK
    have hfr : ∀ a st, takes l (tks fm) 0 z14 = .ok (a, st) → Fair0 st := fun a st e => takes_fair tks_okR z14_fair e
    have HFR : Hid (∀ a st, takes l (tks fm) 0 z14 = .ok (a, st) → Fair0 st) := hfr
    clear hfr
    cases htk : takes l (tks fm) 0 z14 with
    | error a =>
      rw [htk] at htook HPS
      have HRS : Hid (parseS l now = (0, 0, 44, (a : Int))) := HPS.out
      obtain ⟨rfl, _⟩ := htook
      go_wp2
      exact bodyPost_ret (v := .tuple #[.int .i64 (parseS l now).1, .int .i64 (parseS l now).2.1, .int .i64 (parseS l now).2.2.1, .int .i64 (parseS l now).2.2.2]) (by rw [HRS.out]; simp [results, Tryz.results38, go_sem]) rfl ⟨rfl, HB4.out⟩
    | ok r =>
      obtain ⟨a, st⟩ := r
      have fr := HFR.out a st htk
      rw [htk] at htook HPS
      obtain ⟨rfl, hp4⟩ := htook
      by_cases hal : a = l.length
      · rw [decide_eq_true hal]
        have HPS2 : Hid (parseS l now = if (momS (yS l now st) st).2.1 = 0 then ((momS (yS l now st) st).1, fm, 0, 0) else (0, 0, (momS (yS l now st) st).2.1, (momS (yS l now st) st).2.2)) := (by
          rw [HPS.out]
          unfold pars2
          dsimp only
          rw [if_neg (fun h => h hal), HFM.out] : _ = _)
        by_cases hf1 : fm = 1
        · have c6 := hp4.cell 6 (by omega)
          have f6 := hp4.free 6
          have hy := fr.y
          have HNY : Hid (∀ w, Calls Tryz.prog 63 #[.int .i64 (g st 6), .int .i64 ny] w fun e w' => e = .returned (.int .i64 (nearS (g st 6) ny)) ∧ w' = w) := fun w => nearYear_any _ _ (by omega) (by omega) (by omega) (by omega) w
          have hyy : yS l now st = nearS (g st 6) ny := by rw [HYS.out, if_pos hf1]
          have hnr : -100 ≤ nearS (g st 6) ny ∧ nearS (g st 6) ny ≤ 11000 := by unfold nearS; omega
          rw [hyy] at HPS2
          have HMO : Hid (Calls Tryz.prog 64 #[pp P 0] (w4.setCell ⟨P, 6, none⟩ (.int .i64 (nearS (g st 6) ny))) fun e w' => e = .returned (.tuple #[.int .i64 (momS (nearS (g st 6) ny) st).1, .int .i64 (momS (nearS (g st 6) ny) st).2.1, .int .i64 (momS (nearS (g st 6) ny) st).2.2]) ∧ But [] (w4.setCell ⟨P, 6, none⟩ (.int .i64 (nearS (g st 6) ny))) w') := (by
            have := moment_any P (st.set 6 (nearS (g st 6) ny)) (fr.fair6 _ hnr.1 hnr.2) (w4.setCell ⟨P, 6, none⟩ (.int .i64 (nearS (g st 6) ny))) (hp4.set 6 (by omega) _) (HT4.out.butP ((But.refl [P] w4).setCell (by simp) _) HNT.out)
            rw [momS_set fr.len] at this
            exact this : Calls Tryz.prog 64 #[pp P 0] (w4.setCell ⟨P, 6, none⟩ (.int .i64 (nearS (g st 6) ny))) fun e w' => e = .returned (.tuple #[.int .i64 (momS (nearS (g st 6) ny) st).1, .int .i64 (momS (nearS (g st 6) ny) st).2.1, .int .i64 (momS (nearS (g st 6) ny) st).2.2]) ∧ But [] (w4.setCell ⟨P, 6, none⟩ (.int .i64 (nearS (g st 6) ny))) w')
          have HB5 : Hid (Below w.heap.size w (w4.setCell ⟨P, 6, none⟩ (.int .i64 (nearS (g st 6) ny)))) := HB4.out.trans (((But.refl [P] w4).setCell (by simp) _).below HB4.out.size (fun x hx => by simp at hx; omega))
          clear hp4 hyy htk fr
          generalize nearS (g st 6) ny = NY at *
          generalize g st 6 = G6 at *
          unfold pp at *
          go_wp2_with fail
          refine (HNY.out _).mono ?_
          rintro e w' ⟨rfl, hw'⟩
          subst hw'
          go_wp2_with fail
          refine Calls.mono HMO.out ?_
          rintro e w6 ⟨rfl, b6⟩
          have HB6 : Hid (Below w.heap.size w w6) := HB5.out.trans (b6.to_below.mono HB5.out.size)
          clear b6
          by_cases hz : (momS NY st).2.1 = 0
          · have HRS : Hid (parseS l now = ((momS NY st).1, 1, 0, 0)) := (by rw [HPS2.out, if_pos hz, hf1] : parseS l now = ((momS NY st).1, 1, 0, 0))
            clear HPS2 HPS
            generalize (momS NY st).1 = M1 at *
            generalize (momS NY st).2.1 = M2 at *
            generalize (momS NY st).2.2 = M3 at *
            subst hz
            go_wp2
            exact bodyPost_ret (v := .tuple #[.int .i64 (parseS l now).1, .int .i64 (parseS l now).2.1, .int .i64 (parseS l now).2.2.1, .int .i64 (parseS l now).2.2.2]) (by rw [HRS.out]; simp [results, Tryz.results38, go_sem]) rfl ⟨rfl, HB6.out⟩
          · have HRS : Hid (parseS l now = (0, 0, (momS NY st).2.1, (momS NY st).2.2)) := (by rw [HPS2.out, if_neg hz] : parseS l now = (0, 0, (momS NY st).2.1, (momS NY st).2.2))
            clear HPS2 HPS
            generalize (momS NY st).1 = M1 at *
            generalize (momS NY st).2.1 = M2 at *
            generalize (momS NY st).2.2 = M3 at *
            have hzz : (M2 != 0) = true := by simp [hz]
            go_wp2
            exact bodyPost_ret (v := .tuple #[.int .i64 (parseS l now).1, .int .i64 (parseS l now).2.1, .int .i64 (parseS l now).2.2.1, .int .i64 (parseS l now).2.2.2]) (by rw [HRS.out]; simp [results, Tryz.results38, go_sem]) rfl ⟨rfl, HB6.out⟩
        · have hf1' : (fm == 1) = false := by simp [hf1]
          have hyy : yS l now st = g st 6 := by rw [HYS.out, if_neg hf1]
          rw [hyy] at HPS2
          have HMO : Hid (Calls Tryz.prog 64 #[pp P 0] w4 fun e w' => e = .returned (.tuple #[.int .i64 (momS (g st 6) st).1, .int .i64 (momS (g st 6) st).2.1, .int .i64 (momS (g st 6) st).2.2]) ∧ But [] w4 w') := moment_any P st fr.fair w4 hp4 HT4.out
          clear hp4 hyy htk fr
          generalize g st 6 = NY at *
          unfold pp at *
          go_wp2_with fail
          refine Calls.mono HMO.out ?_
          rintro e w6 ⟨rfl, b6⟩
          have HB6 : Hid (Below w.heap.size w w6) := HB4.out.trans (b6.to_below.mono HB4.out.size)
          clear b6
          by_cases hz : (momS NY st).2.1 = 0
          · have HRS : Hid (parseS l now = ((momS NY st).1, fm, 0, 0)) := (by rw [HPS2.out, if_pos hz] : parseS l now = ((momS NY st).1, fm, 0, 0))
            clear HPS2 HPS
            generalize (momS NY st).1 = M1 at *
            generalize (momS NY st).2.1 = M2 at *
            generalize (momS NY st).2.2 = M3 at *
            subst hz
            go_wp2
            exact bodyPost_ret (v := .tuple #[.int .i64 (parseS l now).1, .int .i64 (parseS l now).2.1, .int .i64 (parseS l now).2.2.1, .int .i64 (parseS l now).2.2.2]) (by rw [HRS.out]; simp [results, Tryz.results38, go_sem]) rfl ⟨rfl, HB6.out⟩
          · have HRS : Hid (parseS l now = (0, 0, (momS NY st).2.1, (momS NY st).2.2)) := (by rw [HPS2.out, if_neg hz] : parseS l now = (0, 0, (momS NY st).2.1, (momS NY st).2.2))
            clear HPS2 HPS
            generalize (momS NY st).1 = M1 at *
            generalize (momS NY st).2.1 = M2 at *
            generalize (momS NY st).2.2 = M3 at *
            have hzz : (M2 != 0) = true := by simp [hz]
            go_wp2
            exact bodyPost_ret (v := .tuple #[.int .i64 (parseS l now).1, .int .i64 (parseS l now).2.1, .int .i64 (parseS l now).2.2.1, .int .i64 (parseS l now).2.2.2]) (by rw [HRS.out]; simp [results, Tryz.results38, go_sem]) rfl ⟨rfl, HB6.out⟩
      · rw [decide_eq_false hal]
        have HRS : Hid (parseS l now = (0, 0, 44, (a : Int))) := (by
          rw [HPS.out]
          unfold pars2
          dsimp only
          rw [if_pos hal] : _ = _)
        clear hp4
        go_wp2
        exact bodyPost_ret (v := .tuple #[.int .i64 (parseS l now).1, .int .i64 (parseS l now).2.1, .int .i64 (parseS l now).2.2.1, .int .i64 (parseS l now).2.2.2]) (by rw [HRS.out]; simp [results, Tryz.results38, go_sem]) rfl ⟨rfl, HB4.out⟩
  · rw [show splitR now = (dv7 0 0 0 0 0 0 0, 40) from if_neg hM] at hsp
    have HSP : Hid (Calls Tryz.prog 60 #[.int .i64 now] w fun e w' => e = .returned (.tuple #[dv7 0 0 0 0 0 0 0, .int .i64 40]) ∧ Below w.heap.size w w') := hsp
    clear hsp
    unfold dv7 at HSP
    have HPS : Hid (parseS l now = (0, 0, 40, 0)) := if_pos hM
    go_enter Tryz.func38, Tryz.ntmps38
    go_wp2_with fail
    refine Calls.mono HSP.out ?_
    rintro e w1 ⟨rfl, b1⟩
    have HB1 : Hid (Below w.heap.size w w1) := b1
    clear b1
    go_wp2
    exact bodyPost_ret (v := .tuple #[.int .i64 (parseS l now).1, .int .i64 (parseS l now).2.1, .int .i64 (parseS l now).2.2.1, .int .i64 (parseS l now).2.2.2]) (by rw [HPS.out]; simp [results, Tryz.results38, go_sem]) rfl ⟨rfl, bel_trans HB1.out ((But.refl [] w1).alloc _).to_below⟩

end Bs
end Go.Proofs.YtjngpafokkjkdaaGreatDoor

/-
  The functions that take a form's pieces, in their order: form 0.
-/
set_option linter.unusedVariables false
set_option linter.unusedSimpArgs false
namespace Go.Proofs.YtjngpafokkjkdaaGreatDoor
open Go.RowKit
namespace Bs

set_option maxRecDepth 100000 in
set_option maxHeartbeats 8000000 in
theorem takers_0 (P : Nat) (w : World) (hP : P < w.heap.size) :
    Calls Tryz.prog 90 #[.int .i64 0, pp P 0] w fun e w' => ∃ v, e = .returned v ∧ Tks w' P (tks 0) v ∧ Below w.heap.size w w' := by
  have HX : Hid (∀ (t : List UInt8) w, P < w.heap.size → Calls Tryz.prog 111 #[.string (str t)] w fun e w' => ∃ v, e = .returned v ∧ Tk w' P (.ex t) v ∧ Below w.heap.size w w') := fun t w h => exactly_any t P w h
  have HD : Hid (∀ (n f : Nat) w, P < w.heap.size → Calls Tryz.prog 110 #[.int .i64 (n : Int), pp P (2 * f)] w fun e w' => ∃ v, e = .returned v ∧ Tk w' P (.dg n f) v ∧ Below w.heap.size w w') := fun n f w h => digits_any n f P w h
  have HN : Hid (∀ (k f : Nat) w, P < w.heap.size → Calls Tryz.prog 106 #[.int .i64 ((nms k).length : Int), .func (.func (fnm k)) #[] #[], pp P (2 * f)] w fun e w' => ∃ v, e = .returned v ∧ Tk w' P (.nm k f) v ∧ Below w.heap.size w w') := fun k f w h => name_any k f P w h
  unfold pp at *
  go_enter Tryz.func90, Tryz.ntmps90
  have hz0 : P < w.heap.size := hP
  go_wp2_with fail
  (refine (HN.out 0 0 w hz0).mono ?_; rintro e w1 ⟨v1, rfl, t1, b1⟩; obtain ⟨c1, rfl⟩ := t1.fn; have hz1 : P < w1.heap.size := Nat.lt_of_lt_of_le hz0 b1.size; have T1 : Hid (Tk w1 P (.nm 0 0) (.func (.func 119) #[] c1)) := t1; have B1 : Hid (Below w.heap.size w w1) := b1; clear t1 b1)
  go_wp2_with fail
  (refine (HN.out 1 0 w1 hz1).mono ?_; rintro e w2 ⟨v2, rfl, t2, b2⟩; obtain ⟨c2, rfl⟩ := t2.fn; have hz2 : P < w2.heap.size := Nat.lt_of_lt_of_le hz1 b2.size; have T2 : Hid (Tk w2 P (.nm 1 0) (.func (.func 119) #[] c2)) := t2; have B2 : Hid (Below w1.heap.size w1 w2) := b2; clear t2 b2)
  go_wp2_with fail
  (refine (HN.out 2 2 w2 hz2).mono ?_; rintro e w3 ⟨v3, rfl, t3, b3⟩; obtain ⟨c3, rfl⟩ := t3.fn; have hz3 : P < w3.heap.size := Nat.lt_of_lt_of_le hz2 b3.size; have T3 : Hid (Tk w3 P (.nm 2 2) (.func (.func 119) #[] c3)) := t3; have B3 : Hid (Below w2.heap.size w2 w3) := b3; clear t3 b3)
  have hz3d : P < w3.drew.heap.size := hz3
  go_wp2_with fail
  go_region_with (first | (go_at_call 110; refine (HD.out 2 1 w3.drew hz3d).mono ?_; rintro e w4 ⟨v4, rfl, t4, b4⟩; obtain ⟨c4, rfl⟩ := t4.fn; have hz4 : P < w4.heap.size := Nat.lt_of_lt_of_le hz3d b4.size; have T4 : Hid (Tk w4 P (.dg 2 1) (.func (.func 120) #[] c4)) := t4; have B4 : Hid (Below w3.heap.size w3 w4) := bel_trans (But.refl [] w3).drew.to_below b4; clear t4 b4) | (go_at_call 110; refine (HD.out 4 3 w4 hz4).mono ?_; rintro e w5 ⟨v5, rfl, t5, b5⟩; obtain ⟨c5, rfl⟩ := t5.fn; have hz5 : P < w5.heap.size := Nat.lt_of_lt_of_le hz4 b5.size; have T5 : Hid (Tk w5 P (.dg 4 3) (.func (.func 120) #[] c5)) := t5; have B5 : Hid (Below w4.heap.size w4 w5) := b5; clear t5 b5))
  have hz5d : P < w5.drew.heap.size := hz5
  go_wp2_with fail
  go_region_with (first | (go_at_call 110; refine (HD.out 2 4 w5.drew hz5d).mono ?_; rintro e w6 ⟨v6, rfl, t6, b6⟩; obtain ⟨c6, rfl⟩ := t6.fn; have hz6 : P < w6.heap.size := Nat.lt_of_lt_of_le hz5d b6.size; have T6 : Hid (Tk w6 P (.dg 2 4) (.func (.func 120) #[] c6)) := t6; have B6 : Hid (Below w5.heap.size w5 w6) := bel_trans (But.refl [] w5).drew.to_below b6; clear t6 b6) | (go_at_call 110; refine (HD.out 2 5 w6 hz6).mono ?_; rintro e w7 ⟨v7, rfl, t7, b7⟩; obtain ⟨c7, rfl⟩ := t7.fn; have hz7 : P < w7.heap.size := Nat.lt_of_lt_of_le hz6 b7.size; have T7 : Hid (Tk w7 P (.dg 2 5) (.func (.func 120) #[] c7)) := t7; have B7 : Hid (Below w6.heap.size w6 w7) := b7; clear t7 b7) | (go_at_call 110; refine (HD.out 2 6 w7 hz7).mono ?_; rintro e w8 ⟨v8, rfl, t8, b8⟩; obtain ⟨c8, rfl⟩ := t8.fn; have hz8 : P < w8.heap.size := Nat.lt_of_lt_of_le hz7 b8.size; have T8 : Hid (Tk w8 P (.dg 2 6) (.func (.func 120) #[] c8)) := t8; have B8 : Hid (Below w7.heap.size w7 w8) := b8; clear t8 b8))
  go_wp2_with fail
  (refine (HX.out [32] w8 hz8).mono ?_; rintro e w9 ⟨v9, rfl, t9, b9⟩; obtain ⟨c9, rfl⟩ := t9.fn; have hz9 : P < w9.heap.size := Nat.lt_of_lt_of_le hz8 b9.size; have T9 : Hid (Tk w9 P (.ex [32]) (.func (.func 121) #[] c9)) := t9; have B9 : Hid (Below w8.heap.size w8 w9) := b9; clear t9 b9)
  go_wp2_with fail
  (refine (HX.out [58] w9 hz9).mono ?_; rintro e w10 ⟨v10, rfl, t10, b10⟩; obtain ⟨c10, rfl⟩ := t10.fn; have hz10 : P < w10.heap.size := Nat.lt_of_lt_of_le hz9 b10.size; have T10 : Hid (Tk w10 P (.ex [58]) (.func (.func 121) #[] c10)) := t10; have B10 : Hid (Below w9.heap.size w9 w10) := b10; clear t10 b10)
  go_wp2_with fail
  (refine (HX.out [44, 32] w10 hz10).mono ?_; rintro e w11 ⟨v11, rfl, t11, b11⟩; obtain ⟨c11, rfl⟩ := t11.fn; have hz11 : P < w11.heap.size := Nat.lt_of_lt_of_le hz10 b11.size; have T11 : Hid (Tk w11 P (.ex [44, 32]) (.func (.func 121) #[] c11)) := t11; have B11 : Hid (Below w10.heap.size w10 w11) := b11; clear t11 b11)
  go_wp2_with fail
  (refine (HX.out [32, 71, 77, 84] w11 hz11).mono ?_; rintro e w12 ⟨v12, rfl, t12, b12⟩; obtain ⟨c12, rfl⟩ := t12.fn; have hz12 : P < w12.heap.size := Nat.lt_of_lt_of_le hz11 b12.size; have T12 : Hid (Tk w12 P (.ex [32, 71, 77, 84]) (.func (.func 121) #[] c12)) := t12; have B12 : Hid (Below w11.heap.size w11 w12) := b12; clear t12 b12)
  go_wp2
  go_ret
  have BA : Below w12.heap.size w12 (w12.alloc (.cells #[.func (.func 119) #[] c1, .func (.func 121) #[] c11, .func (.func 120) #[] c4, .func (.func 121) #[] c9, .func (.func 119) #[] c3, .func (.func 121) #[] c9, .func (.func 120) #[] c5, .func (.func 121) #[] c9, .func (.func 120) #[] c6, .func (.func 121) #[] c10, .func (.func 120) #[] c7, .func (.func 121) #[] c10, .func (.func 120) #[] c8, .func (.func 121) #[] c12] 138)) := ((But.refl [] w12).alloc _).to_below
  refine ⟨_, rfl, ⟨w12.heap.size, rfl, by omega, fun i t hi => ?_⟩, bel_trans (bel_trans (bel_trans (bel_trans (bel_trans (bel_trans (bel_trans (bel_trans (bel_trans (bel_trans (bel_trans (bel_trans B1.out B2.out) B3.out) B4.out) B5.out) B6.out) B7.out) B8.out) B9.out) B10.out) B11.out) B12.out) BA⟩
  have hc : ∀ (j : Nat) (u : Value), ([.func (.func 119) #[] c1, .func (.func 121) #[] c11, .func (.func 120) #[] c4, .func (.func 121) #[] c9, .func (.func 119) #[] c3, .func (.func 121) #[] c9, .func (.func 120) #[] c5, .func (.func 121) #[] c9, .func (.func 120) #[] c6, .func (.func 121) #[] c10, .func (.func 120) #[] c7, .func (.func 121) #[] c10, .func (.func 120) #[] c8, .func (.func 121) #[] c12] : List Value)[j]? = some u → (w12.alloc (.cells #[.func (.func 119) #[] c1, .func (.func 121) #[] c11, .func (.func 120) #[] c4, .func (.func 121) #[] c9, .func (.func 119) #[] c3, .func (.func 121) #[] c9, .func (.func 120) #[] c5, .func (.func 121) #[] c9, .func (.func 120) #[] c6, .func (.func 121) #[] c10, .func (.func 120) #[] c7, .func (.func 121) #[] c10, .func (.func 120) #[] c8, .func (.func 121) #[] c12] 138)).cell? ⟨w12.heap.size, j, none⟩ = some u := fun j u hu => by simpa using hu
  match i, hi with
  | 0, hi => cases hi; exact ⟨_, hc 0 (.func (.func 119) #[] c1) rfl, ((((((((((((T1.out.below B2.out).below B3.out).below B4.out).below B5.out).below B6.out).below B7.out).below B8.out).below B9.out).below B10.out).below B11.out).below B12.out).below BA)⟩
  | 1, hi => cases hi; exact ⟨_, hc 1 (.func (.func 121) #[] c11) rfl, ((T11.out.below B12.out).below BA)⟩
  | 2, hi => cases hi; exact ⟨_, hc 2 (.func (.func 120) #[] c4) rfl, (((((((((T4.out.below B5.out).below B6.out).below B7.out).below B8.out).below B9.out).below B10.out).below B11.out).below B12.out).below BA)⟩
  | 3, hi => cases hi; exact ⟨_, hc 3 (.func (.func 121) #[] c9) rfl, ((((T9.out.below B10.out).below B11.out).below B12.out).below BA)⟩
  | 4, hi => cases hi; exact ⟨_, hc 4 (.func (.func 119) #[] c3) rfl, ((((((((((T3.out.below B4.out).below B5.out).below B6.out).below B7.out).below B8.out).below B9.out).below B10.out).below B11.out).below B12.out).below BA)⟩
  | 5, hi => cases hi; exact ⟨_, hc 5 (.func (.func 121) #[] c9) rfl, ((((T9.out.below B10.out).below B11.out).below B12.out).below BA)⟩
  | 6, hi => cases hi; exact ⟨_, hc 6 (.func (.func 120) #[] c5) rfl, ((((((((T5.out.below B6.out).below B7.out).below B8.out).below B9.out).below B10.out).below B11.out).below B12.out).below BA)⟩
  | 7, hi => cases hi; exact ⟨_, hc 7 (.func (.func 121) #[] c9) rfl, ((((T9.out.below B10.out).below B11.out).below B12.out).below BA)⟩
  | 8, hi => cases hi; exact ⟨_, hc 8 (.func (.func 120) #[] c6) rfl, (((((((T6.out.below B7.out).below B8.out).below B9.out).below B10.out).below B11.out).below B12.out).below BA)⟩
  | 9, hi => cases hi; exact ⟨_, hc 9 (.func (.func 121) #[] c10) rfl, (((T10.out.below B11.out).below B12.out).below BA)⟩
  | 10, hi => cases hi; exact ⟨_, hc 10 (.func (.func 120) #[] c7) rfl, ((((((T7.out.below B8.out).below B9.out).below B10.out).below B11.out).below B12.out).below BA)⟩
  | 11, hi => cases hi; exact ⟨_, hc 11 (.func (.func 121) #[] c10) rfl, (((T10.out.below B11.out).below B12.out).below BA)⟩
  | 12, hi => cases hi; exact ⟨_, hc 12 (.func (.func 120) #[] c8) rfl, (((((T8.out.below B9.out).below B10.out).below B11.out).below B12.out).below BA)⟩
  | 13, hi => cases hi; exact ⟨_, hc 13 (.func (.func 121) #[] c12) rfl, (T12.out.below BA)⟩
  | i + 14, hi => exfalso; simp [tks, tkF, tkL, tkP] at hi

end Bs
end Go.Proofs.YtjngpafokkjkdaaGreatDoor

/-
  The functions that take a form's pieces, in their order: form 1.
-/
set_option linter.unusedVariables false
set_option linter.unusedSimpArgs false
namespace Go.Proofs.YtjngpafokkjkdaaGreatDoor
open Go.RowKit
namespace Bs

set_option maxRecDepth 100000 in
set_option maxHeartbeats 8000000 in
theorem takers_1 (P : Nat) (w : World) (hP : P < w.heap.size) :
    Calls Tryz.prog 90 #[.int .i64 1, pp P 0] w fun e w' => ∃ v, e = .returned v ∧ Tks w' P (tks 1) v ∧ Below w.heap.size w w' := by
  have HX : Hid (∀ (t : List UInt8) w, P < w.heap.size → Calls Tryz.prog 111 #[.string (str t)] w fun e w' => ∃ v, e = .returned v ∧ Tk w' P (.ex t) v ∧ Below w.heap.size w w') := fun t w h => exactly_any t P w h
  have HD : Hid (∀ (n f : Nat) w, P < w.heap.size → Calls Tryz.prog 110 #[.int .i64 (n : Int), pp P (2 * f)] w fun e w' => ∃ v, e = .returned v ∧ Tk w' P (.dg n f) v ∧ Below w.heap.size w w') := fun n f w h => digits_any n f P w h
  have HN : Hid (∀ (k f : Nat) w, P < w.heap.size → Calls Tryz.prog 106 #[.int .i64 ((nms k).length : Int), .func (.func (fnm k)) #[] #[], pp P (2 * f)] w fun e w' => ∃ v, e = .returned v ∧ Tk w' P (.nm k f) v ∧ Below w.heap.size w w') := fun k f w h => name_any k f P w h
  unfold pp at *
  go_enter Tryz.func90, Tryz.ntmps90
  have hz0 : P < w.heap.size := hP
  go_wp2_with fail
  (refine (HN.out 0 0 w hz0).mono ?_; rintro e w1 ⟨v1, rfl, t1, b1⟩; obtain ⟨c1, rfl⟩ := t1.fn; have hz1 : P < w1.heap.size := Nat.lt_of_lt_of_le hz0 b1.size; have T1 : Hid (Tk w1 P (.nm 0 0) (.func (.func 119) #[] c1)) := t1; have B1 : Hid (Below w.heap.size w w1) := b1; clear t1 b1)
  go_wp2_with fail
  (refine (HN.out 1 0 w1 hz1).mono ?_; rintro e w2 ⟨v2, rfl, t2, b2⟩; obtain ⟨c2, rfl⟩ := t2.fn; have hz2 : P < w2.heap.size := Nat.lt_of_lt_of_le hz1 b2.size; have T2 : Hid (Tk w2 P (.nm 1 0) (.func (.func 119) #[] c2)) := t2; have B2 : Hid (Below w1.heap.size w1 w2) := b2; clear t2 b2)
  go_wp2_with fail
  (refine (HN.out 2 2 w2 hz2).mono ?_; rintro e w3 ⟨v3, rfl, t3, b3⟩; obtain ⟨c3, rfl⟩ := t3.fn; have hz3 : P < w3.heap.size := Nat.lt_of_lt_of_le hz2 b3.size; have T3 : Hid (Tk w3 P (.nm 2 2) (.func (.func 119) #[] c3)) := t3; have B3 : Hid (Below w2.heap.size w2 w3) := b3; clear t3 b3)
  have hz3d : P < w3.drew.heap.size := hz3
  go_wp2_with fail
  go_region_with (first | (go_at_call 110; refine (HD.out 2 1 w3.drew hz3d).mono ?_; rintro e w4 ⟨v4, rfl, t4, b4⟩; obtain ⟨c4, rfl⟩ := t4.fn; have hz4 : P < w4.heap.size := Nat.lt_of_lt_of_le hz3d b4.size; have T4 : Hid (Tk w4 P (.dg 2 1) (.func (.func 120) #[] c4)) := t4; have B4 : Hid (Below w3.heap.size w3 w4) := bel_trans (But.refl [] w3).drew.to_below b4; clear t4 b4) | (go_at_call 110; refine (HD.out 4 3 w4 hz4).mono ?_; rintro e w5 ⟨v5, rfl, t5, b5⟩; obtain ⟨c5, rfl⟩ := t5.fn; have hz5 : P < w5.heap.size := Nat.lt_of_lt_of_le hz4 b5.size; have T5 : Hid (Tk w5 P (.dg 4 3) (.func (.func 120) #[] c5)) := t5; have B5 : Hid (Below w4.heap.size w4 w5) := b5; clear t5 b5))
  have hz5d : P < w5.drew.heap.size := hz5
  go_wp2_with fail
  go_region_with (first | (go_at_call 110; refine (HD.out 2 4 w5.drew hz5d).mono ?_; rintro e w6 ⟨v6, rfl, t6, b6⟩; obtain ⟨c6, rfl⟩ := t6.fn; have hz6 : P < w6.heap.size := Nat.lt_of_lt_of_le hz5d b6.size; have T6 : Hid (Tk w6 P (.dg 2 4) (.func (.func 120) #[] c6)) := t6; have B6 : Hid (Below w5.heap.size w5 w6) := bel_trans (But.refl [] w5).drew.to_below b6; clear t6 b6) | (go_at_call 110; refine (HD.out 2 5 w6 hz6).mono ?_; rintro e w7 ⟨v7, rfl, t7, b7⟩; obtain ⟨c7, rfl⟩ := t7.fn; have hz7 : P < w7.heap.size := Nat.lt_of_lt_of_le hz6 b7.size; have T7 : Hid (Tk w7 P (.dg 2 5) (.func (.func 120) #[] c7)) := t7; have B7 : Hid (Below w6.heap.size w6 w7) := b7; clear t7 b7) | (go_at_call 110; refine (HD.out 2 6 w7 hz7).mono ?_; rintro e w8 ⟨v8, rfl, t8, b8⟩; obtain ⟨c8, rfl⟩ := t8.fn; have hz8 : P < w8.heap.size := Nat.lt_of_lt_of_le hz7 b8.size; have T8 : Hid (Tk w8 P (.dg 2 6) (.func (.func 120) #[] c8)) := t8; have B8 : Hid (Below w7.heap.size w7 w8) := b8; clear t8 b8))
  go_wp2_with fail
  (refine (HX.out [32] w8 hz8).mono ?_; rintro e w9 ⟨v9, rfl, t9, b9⟩; obtain ⟨c9, rfl⟩ := t9.fn; have hz9 : P < w9.heap.size := Nat.lt_of_lt_of_le hz8 b9.size; have T9 : Hid (Tk w9 P (.ex [32]) (.func (.func 121) #[] c9)) := t9; have B9 : Hid (Below w8.heap.size w8 w9) := b9; clear t9 b9)
  go_wp2_with fail
  (refine (HX.out [58] w9 hz9).mono ?_; rintro e w10 ⟨v10, rfl, t10, b10⟩; obtain ⟨c10, rfl⟩ := t10.fn; have hz10 : P < w10.heap.size := Nat.lt_of_lt_of_le hz9 b10.size; have T10 : Hid (Tk w10 P (.ex [58]) (.func (.func 121) #[] c10)) := t10; have B10 : Hid (Below w9.heap.size w9 w10) := b10; clear t10 b10)
  have hz10d : P < w10.drew.heap.size := hz10
  go_wp2_with fail
  go_region_with (first | (go_at_call 111; refine (HX.out [44, 32] w10.drew hz10d).mono ?_; rintro e w11 ⟨v11, rfl, t11, b11⟩; obtain ⟨c11, rfl⟩ := t11.fn; have hz11 : P < w11.heap.size := Nat.lt_of_lt_of_le hz10d b11.size; have T11 : Hid (Tk w11 P (.ex [44, 32]) (.func (.func 121) #[] c11)) := t11; have B11 : Hid (Below w10.heap.size w10 w11) := bel_trans (But.refl [] w10).drew.to_below b11; clear t11 b11) | (go_at_call 111; refine (HX.out [45] w11 hz11).mono ?_; rintro e w12 ⟨v12, rfl, t12, b12⟩; obtain ⟨c12, rfl⟩ := t12.fn; have hz12 : P < w12.heap.size := Nat.lt_of_lt_of_le hz11 b12.size; have T12 : Hid (Tk w12 P (.ex [45]) (.func (.func 121) #[] c12)) := t12; have B12 : Hid (Below w11.heap.size w11 w12) := b12; clear t12 b12) | (go_at_call 111; refine (HX.out [45] w12 hz12).mono ?_; rintro e w13 ⟨v13, rfl, t13, b13⟩; obtain ⟨c13, rfl⟩ := t13.fn; have hz13 : P < w13.heap.size := Nat.lt_of_lt_of_le hz12 b13.size; have T13 : Hid (Tk w13 P (.ex [45]) (.func (.func 121) #[] c13)) := t13; have B13 : Hid (Below w12.heap.size w12 w13) := b13; clear t13 b13) | (go_at_call 110; refine (HD.out 2 3 w13 hz13).mono ?_; rintro e w14 ⟨v14, rfl, t14, b14⟩; obtain ⟨c14, rfl⟩ := t14.fn; have hz14 : P < w14.heap.size := Nat.lt_of_lt_of_le hz13 b14.size; have T14 : Hid (Tk w14 P (.dg 2 3) (.func (.func 120) #[] c14)) := t14; have B14 : Hid (Below w13.heap.size w13 w14) := b14; clear t14 b14) | (go_at_call 111; refine (HX.out [32, 71, 77, 84] w14 hz14).mono ?_; rintro e w15 ⟨v15, rfl, t15, b15⟩; obtain ⟨c15, rfl⟩ := t15.fn; have hz15 : P < w15.heap.size := Nat.lt_of_lt_of_le hz14 b15.size; have T15 : Hid (Tk w15 P (.ex [32, 71, 77, 84]) (.func (.func 121) #[] c15)) := t15; have B15 : Hid (Below w14.heap.size w14 w15) := b15; clear t15 b15))
  go_wp2
  go_ret
  have BA : Below w15.heap.size w15 (w15.alloc (.cells #[.func (.func 119) #[] c2, .func (.func 121) #[] c11, .func (.func 120) #[] c4, .func (.func 121) #[] c12, .func (.func 119) #[] c3, .func (.func 121) #[] c13, .func (.func 120) #[] c14, .func (.func 121) #[] c9, .func (.func 120) #[] c6, .func (.func 121) #[] c10, .func (.func 120) #[] c7, .func (.func 121) #[] c10, .func (.func 120) #[] c8, .func (.func 121) #[] c15] 138)) := ((But.refl [] w15).alloc _).to_below
  refine ⟨_, rfl, ⟨w15.heap.size, rfl, by omega, fun i t hi => ?_⟩, bel_trans (bel_trans (bel_trans (bel_trans (bel_trans (bel_trans (bel_trans (bel_trans (bel_trans (bel_trans (bel_trans (bel_trans (bel_trans (bel_trans (bel_trans B1.out B2.out) B3.out) B4.out) B5.out) B6.out) B7.out) B8.out) B9.out) B10.out) B11.out) B12.out) B13.out) B14.out) B15.out) BA⟩
  have hc : ∀ (j : Nat) (u : Value), ([.func (.func 119) #[] c2, .func (.func 121) #[] c11, .func (.func 120) #[] c4, .func (.func 121) #[] c12, .func (.func 119) #[] c3, .func (.func 121) #[] c13, .func (.func 120) #[] c14, .func (.func 121) #[] c9, .func (.func 120) #[] c6, .func (.func 121) #[] c10, .func (.func 120) #[] c7, .func (.func 121) #[] c10, .func (.func 120) #[] c8, .func (.func 121) #[] c15] : List Value)[j]? = some u → (w15.alloc (.cells #[.func (.func 119) #[] c2, .func (.func 121) #[] c11, .func (.func 120) #[] c4, .func (.func 121) #[] c12, .func (.func 119) #[] c3, .func (.func 121) #[] c13, .func (.func 120) #[] c14, .func (.func 121) #[] c9, .func (.func 120) #[] c6, .func (.func 121) #[] c10, .func (.func 120) #[] c7, .func (.func 121) #[] c10, .func (.func 120) #[] c8, .func (.func 121) #[] c15] 138)).cell? ⟨w15.heap.size, j, none⟩ = some u := fun j u hu => by simpa using hu
  match i, hi with
  | 0, hi => cases hi; exact ⟨_, hc 0 (.func (.func 119) #[] c2) rfl, ((((((((((((((T2.out.below B3.out).below B4.out).below B5.out).below B6.out).below B7.out).below B8.out).below B9.out).below B10.out).below B11.out).below B12.out).below B13.out).below B14.out).below B15.out).below BA)⟩
  | 1, hi => cases hi; exact ⟨_, hc 1 (.func (.func 121) #[] c11) rfl, (((((T11.out.below B12.out).below B13.out).below B14.out).below B15.out).below BA)⟩
  | 2, hi => cases hi; exact ⟨_, hc 2 (.func (.func 120) #[] c4) rfl, ((((((((((((T4.out.below B5.out).below B6.out).below B7.out).below B8.out).below B9.out).below B10.out).below B11.out).below B12.out).below B13.out).below B14.out).below B15.out).below BA)⟩
  | 3, hi => cases hi; exact ⟨_, hc 3 (.func (.func 121) #[] c12) rfl, ((((T12.out.below B13.out).below B14.out).below B15.out).below BA)⟩
  | 4, hi => cases hi; exact ⟨_, hc 4 (.func (.func 119) #[] c3) rfl, (((((((((((((T3.out.below B4.out).below B5.out).below B6.out).below B7.out).below B8.out).below B9.out).below B10.out).below B11.out).below B12.out).below B13.out).below B14.out).below B15.out).below BA)⟩
  | 5, hi => cases hi; exact ⟨_, hc 5 (.func (.func 121) #[] c13) rfl, (((T13.out.below B14.out).below B15.out).below BA)⟩
  | 6, hi => cases hi; exact ⟨_, hc 6 (.func (.func 120) #[] c14) rfl, ((T14.out.below B15.out).below BA)⟩
  | 7, hi => cases hi; exact ⟨_, hc 7 (.func (.func 121) #[] c9) rfl, (((((((T9.out.below B10.out).below B11.out).below B12.out).below B13.out).below B14.out).below B15.out).below BA)⟩
  | 8, hi => cases hi; exact ⟨_, hc 8 (.func (.func 120) #[] c6) rfl, ((((((((((T6.out.below B7.out).below B8.out).below B9.out).below B10.out).below B11.out).below B12.out).below B13.out).below B14.out).below B15.out).below BA)⟩
  | 9, hi => cases hi; exact ⟨_, hc 9 (.func (.func 121) #[] c10) rfl, ((((((T10.out.below B11.out).below B12.out).below B13.out).below B14.out).below B15.out).below BA)⟩
  | 10, hi => cases hi; exact ⟨_, hc 10 (.func (.func 120) #[] c7) rfl, (((((((((T7.out.below B8.out).below B9.out).below B10.out).below B11.out).below B12.out).below B13.out).below B14.out).below B15.out).below BA)⟩
  | 11, hi => cases hi; exact ⟨_, hc 11 (.func (.func 121) #[] c10) rfl, ((((((T10.out.below B11.out).below B12.out).below B13.out).below B14.out).below B15.out).below BA)⟩
  | 12, hi => cases hi; exact ⟨_, hc 12 (.func (.func 120) #[] c8) rfl, ((((((((T8.out.below B9.out).below B10.out).below B11.out).below B12.out).below B13.out).below B14.out).below B15.out).below BA)⟩
  | 13, hi => cases hi; exact ⟨_, hc 13 (.func (.func 121) #[] c15) rfl, (T15.out.below BA)⟩
  | i + 14, hi => exfalso; simp [tks, tkF, tkL, tkP] at hi

end Bs
end Go.Proofs.YtjngpafokkjkdaaGreatDoor
