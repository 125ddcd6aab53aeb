/-
  The walk of StampOrder.
-/
import Derived.Test.YtpfkajalkakbgabDoorWAwk
import Derived.Deep.RegionHeld3
set_option linter.unusedVariables false
set_option linter.unusedSimpArgs false
namespace Go.Proofs.YtpfkajalkakbgabDoor
open Go.RowKit
namespace Bs

def latI : List Int → List Int → Bool
  | x :: xs, y :: ys => if x = y then latI xs ys else decide (y < x)
  | _, _ => false
theorem latI_lt (a1 a2 a3 a4 a5 a6 b1 b2 b3 b4 b5 b6 : Int) : latI [a1, a2, a3, a4, a5, a6] [b1, b2, b3, b4, b5, b6] = true ↔ Lt6 b1 b2 b3 b4 b5 b6 a1 a2 a3 a4 a5 a6 := by
  unfold Lt6
  simp only [latI]
  by_cases h1 : a1 = b1
  · rw [if_pos h1]
    by_cases h2 : a2 = b2
    · rw [if_pos h2]
      by_cases h3 : a3 = b3
      · rw [if_pos h3]
        by_cases h4 : a4 = b4
        · rw [if_pos h4]
          by_cases h5 : a5 = b5
          · rw [if_pos h5]
            by_cases h6 : a6 = b6
            · rw [if_pos h6]
              simp
              omega
            · rw [if_neg h6]
              simp
              omega
          · rw [if_neg h5]
            simp
            omega
        · rw [if_neg h4]
          simp
          omega
      · rw [if_neg h3]
        simp
        omega
    · rw [if_neg h2]
      simp
      omega
  · rw [if_neg h1]
    simp
    omega
theorem latI_step {xs ys : List Int} {k : Nat} (hx : k < xs.length) (hy : k < ys.length) : latI (xs.drop k) (ys.drop k) = if xs.getD k 0 = ys.getD k 0 then latI (xs.drop (k + 1)) (ys.drop (k + 1)) else decide (ys.getD k 0 < xs.getD k 0) := by
  rw [List.drop_eq_getElem_cons hx, List.drop_eq_getElem_cons hy, List.getD_eq_getElem?_getD, List.getD_eq_getElem?_getD, List.getElem?_eq_getElem hx, List.getElem?_eq_getElem hy]
  rfl

theorem cell_new (v : World) (cs : Array Value) (T : TypeId) (k : Nat) (x : Value) (h : cs[k]? = some x) : (v.alloc (.cells cs T)).cell? ⟨v.heap.size, k, none⟩ = some x := by
  rw [← h]
  exact World.cell?_alloc_mark v cs T (0, 0) k

set_option maxRecDepth 100000 in
set_option maxHeartbeats 2000000 in
theorem later_any (a1 a2 a3 a4 a5 a6 a7 b1 b2 b3 b4 b5 b6 b7 : Int) (w : World) :
    Calls Tryd.prog 13 #[dv7 a1 a2 a3 a4 a5 a6 a7, dv7 b1 b2 b3 b4 b5 b6 b7] w fun e w' => e = .returned (.bool (latI [a1, a2, a3, a4, a5, a6] [b1, b2, b3, b4, b5, b6])) ∧ Below w.heap.size w w' := by
  unfold dv7
  obtain ⟨XS, hXS⟩ : ∃ XS, XS = [a1, a2, a3, a4, a5, a6] := ⟨_, rfl⟩
  obtain ⟨YS, hYS⟩ : ∃ YS, YS = [b1, b2, b3, b4, b5, b6] := ⟨_, rfl⟩
  rw [← hXS, ← hYS]
  have HXS : Hid (_ = _) := hXS
  have HYS : Hid (_ = _) := hYS
  clear hXS hYS
  go_enter Tryd.func13, Tryd.ntmps13
  go_wp2
  obtain ⟨W0, hW0⟩ : ∃ W0, W0 = ((((w.alloc (.cells #[.int .i64 a1, .int .i64 a2, .int .i64 a3, .int .i64 a4, .int .i64 a5, .int .i64 a6, .int .i64 a7] 28)).alloc (.cells #[.int .i64 b1, .int .i64 b2, .int .i64 b3, .int .i64 b4, .int .i64 b5, .int .i64 b6, .int .i64 b7] 28)).alloc (.cells #[.int .i64 a1, .int .i64 a2, .int .i64 a3, .int .i64 a4, .int .i64 a5, .int .i64 a6] 48)).alloc (.cells #[.int .i64 b1, .int .i64 b2, .int .i64 b3, .int .i64 b4, .int .i64 b5, .int .i64 b6] 48)) := ⟨_, rfl⟩
  have HB0 : Hid (Below w.heap.size w W0) := hW0 ▸ (((((But.refl [] w).alloc _).alloc _).alloc _).alloc _).to_below
  have HX : Hid (∀ k : Nat, k < 6 → W0.cell? ⟨w.heap.size + 2, k, none⟩ = some (.int .i64 (XS.getD k 0))) := fun k hk => by
    rw [hW0, HXS.out]
    refine ((But.refl [] _).alloc _).cell ?_ (fun e => by cases e)
    rw [show w.heap.size + 2 = ((w.alloc (.cells #[.int .i64 a1, .int .i64 a2, .int .i64 a3, .int .i64 a4, .int .i64 a5, .int .i64 a6, .int .i64 a7] 28)).alloc (.cells #[.int .i64 b1, .int .i64 b2, .int .i64 b3, .int .i64 b4, .int .i64 b5, .int .i64 b6, .int .i64 b7] 28)).heap.size by simp]
    rcases (by omega : k = 0 ∨ k = 1 ∨ k = 2 ∨ k = 3 ∨ k = 4 ∨ k = 5) with rfl | rfl | rfl | rfl | rfl | rfl <;> exact cell_new _ _ _ _ _ rfl
  have HY : Hid (∀ k : Nat, k < 6 → W0.cell? ⟨w.heap.size + 3, k, none⟩ = some (.int .i64 (YS.getD k 0))) := fun k hk => by
    rw [hW0, HYS.out]
    rw [show w.heap.size + 3 = (((w.alloc (.cells #[.int .i64 a1, .int .i64 a2, .int .i64 a3, .int .i64 a4, .int .i64 a5, .int .i64 a6, .int .i64 a7] 28)).alloc (.cells #[.int .i64 b1, .int .i64 b2, .int .i64 b3, .int .i64 b4, .int .i64 b5, .int .i64 b6, .int .i64 b7] 28)).alloc (.cells #[.int .i64 a1, .int .i64 a2, .int .i64 a3, .int .i64 a4, .int .i64 a5, .int .i64 a6] 48)).heap.size by simp]
    rcases (by omega : k = 0 ∨ k = 1 ∨ k = 2 ∨ k = 3 ∨ k = 4 ∨ k = 5) with rfl | rfl | rfl | rfl | rfl | rfl <;> exact cell_new _ _ _ _ _ rfl
  rw [← hW0]
  clear hW0
  have HXl : Hid (XS.length = 6) := (by rw [HXS.out]; rfl : XS.length = 6)
  have HYl : Hid (YS.length = 6) := (by rw [HYS.out]; rfl : YS.length = 6)
  generalize w.heap.size + 3 = P3 at *
  generalize w.heap.size + 2 = P2 at *
  go_loopw [34] (fun i wr => ∃ k : Nat, k ≤ 6 ∧ i = .int .i64 (k : Int) ∧ Hid (latI (XS.drop k) (YS.drop k) = latI XS YS) ∧ Hid (But [] W0 wr)) (fun i _ => 6 - (intOf i).toNat)
  case atStart => exact ⟨0, by omega, rfl, (rfl : latI (XS.drop 0) (YS.drop 0) = latI XS YS), But.refl _ _⟩
  case round =>
    obtain ⟨k, hk, rfl, HL, HBt⟩ := hrel
    by_cases hk6 : k < 6
    · have nn : ∀ x : Nat, x ∉ ([] : List Nat) := fun _ e => by cases e
      have cx := HBt.out.cell (HX.out k hk6) (nn _)
      have cy := HBt.out.cell (HY.out k hk6) (nn _)
      have hst := latI_step (xs := XS) (ys := YS) (k := k) (by have := HXl.out; omega) (by have := HYl.out; omega)
      rw [HL.out] at hst
      have HST : Hid (_ = _) := hst
      clear hst HL
      generalize XS.getD k 0 = xk at *
      generalize YS.getD k 0 = yk at *
      by_cases he : xk = yk
      · rw [if_pos he] at HST
        subst he
        go_wp2_with fail
        go_region
        all_goals go_wp2
        all_goals go_roundw
        case rel => exact ⟨k + 1, by omega, by go_num, HST.out.symm, HBt.out.drewN _⟩
        case measure => simp only [intOf]; omega
      · rw [if_neg he] at HST
        have hne : (xk != yk) = true := by simpa using he
        go_wp2_with fail
        go_region
        all_goals go_wp2_with fail
        all_goals go_region
        all_goals go_wp2
        all_goals go_ret
        all_goals exact ⟨ret_bool HST.out.symm, bel_trans HB0.out (HBt.out.drewN 2).to_below⟩
    · obtain rfl : k = 6 := by omega
      have hE : latI XS YS = false := by
        have := HL.out
        rw [List.drop_eq_nil_of_le (by have := HXl.out; omega)] at this
        rw [← this]
        rfl
      have HE : Hid (latI XS YS = false) := hE
      clear hE
      go_wp2
      go_ret
      exact ⟨ret_bool HE.out.symm, bel_trans HB0.out HBt.out.to_below⟩

set_option maxRecDepth 100000 in
set_option maxHeartbeats 4000000 in
theorem walk_StampOrder (a b : Int) (w : World) (tb : Tb w) (ha : I64 a) (hb : I64 b) :
    Calls Tryd.prog 5 #[.int .i64 a, .int .i64 b] w fun e w' => e = .returned (.bool true) ∧ Below w.heap.size w w' := by
  have HA : Hid (Calls Tryd.prog 7 #[] w fun e w' => e = .returned (.bool true) ∧ Below w.heap.size w w') := awake_any w tb
  have HT : Hid (Tb w) := tb
  clear tb
  by_cases hM : isM a
  · by_cases hN : isM b
    · have H1 : Hid (∀ w, Tb w → Calls Tryd.prog 12 #[.int .i64 a] w fun e w' => e = .returned (.tuple #[.string (str (writeR a 0).1), .int .i64 0]) ∧ Below w.heap.size w w') := fun w tb => by
        have := Print_any a ha w tb
        rw [(fix_len hM).2] at this
        exact this
      have H2 : Hid (∀ w, Tb w → Calls Tryd.prog 12 #[.int .i64 b] w fun e w' => e = .returned (.tuple #[.string (str (writeR b 0).1), .int .i64 0]) ∧ Below w.heap.size w w') := fun w tb => by
        have := Print_any b hb w tb
        rw [(fix_len hN).2] at this
        exact this
      have H3 : Hid (∀ w, Tb w → Calls Tryd.prog 10 #[.int .i64 a] w fun e w' => e = .returned (.tuple #[splitV a, .int .i64 0]) ∧ Below w.heap.size w w') := fun w tb => by
        have := Split_any a ha w tb
        rw [show splitR a = (splitV a, 0) from if_pos hM] at this
        exact this
      have H4 : Hid (∀ w, Tb w → Calls Tryd.prog 10 #[.int .i64 b] w fun e w' => e = .returned (.tuple #[splitV b, .int .i64 0]) ∧ Below w.heap.size w w') := fun w tb => by
        have := Split_any b hb w tb
        rw [show splitR b = (splitV b, 0) from if_pos hN] at this
        exact this
      have H5 : Hid (∀ w, Calls Tryd.prog 13 #[splitV a, splitV b] w fun e w' => e = .returned (.bool (decide (b < a))) ∧ Below w.heap.size w w') := fun w => by
        have := later_any (ymd (a / 86400)).1 (ymd (a / 86400)).2.1 (ymd (a / 86400)).2.2 (a % 86400 / 3600) (a % 86400 % 3600 / 60) (a % 86400 % 60) (wday (a / 86400)) (ymd (b / 86400)).1 (ymd (b / 86400)).2.1 (ymd (b / 86400)).2.2 (b % 86400 / 3600) (b % 86400 % 3600 / 60) (b % 86400 % 60) (wday (b / 86400)) w
        rw [Bool.eq_iff_iff.2 ((latI_lt _ _ _ _ _ _ _ _ _ _ _ _).trans ((moments_lt_iff hN hM).trans decide_eq_true_iff.symm))] at this
        exact this
      have H6 : Hid (∀ w, Calls Tryd.prog 13 #[splitV b, splitV a] w fun e w' => e = .returned (.bool (decide (a < b))) ∧ Below w.heap.size w w') := fun w => by
        have := later_any (ymd (b / 86400)).1 (ymd (b / 86400)).2.1 (ymd (b / 86400)).2.2 (b % 86400 / 3600) (b % 86400 % 3600 / 60) (b % 86400 % 60) (wday (b / 86400)) (ymd (a / 86400)).1 (ymd (a / 86400)).2.1 (ymd (a / 86400)).2.2 (a % 86400 / 3600) (a % 86400 % 3600 / 60) (a % 86400 % 60) (wday (a / 86400)) w
        rw [Bool.eq_iff_iff.2 ((latI_lt _ _ _ _ _ _ _ _ _ _ _ _).trans ((moments_lt_iff hM hN).trans decide_eq_true_iff.symm))] at this
        exact this
      have z1 : (str (writeR a 0).1).size = 29 := by rw [str_size]; exact (fix_len hM).1
      have z2 : (str (writeR b 0).1).size = 29 := by rw [str_size]; exact (fix_len hN).1
      have hse : ((str (writeR a 0).1).toList == (str (writeR b 0).1).toList) = (a == b) := by
        rw [eq_toList, Bool.eq_iff_iff, decide_eq_true_iff, beq_iff_eq]
        exact ⟨fun e => fix_inj hM hN (str_inj e), fun e => by rw [e]⟩
      have hq : ((a == b) != (a == b)) = false := by simp
      have hM1 := hM.1
      have hM2 := hM.2
      have hN1 := hN.1
      have hN2 := hN.2
      clear hM hN
      unfold splitV dv7 at *
      generalize (ymd (a / 86400)).1 = a0 at *
      generalize (ymd (a / 86400)).2.1 = a1 at *
      generalize (ymd (a / 86400)).2.2 = a2 at *
      generalize a % 86400 / 3600 = a3 at *
      generalize a % 86400 % 3600 / 60 = a4 at *
      generalize a % 86400 % 60 = a5 at *
      generalize wday (a / 86400) = a6 at *
      generalize (ymd (b / 86400)).1 = b0 at *
      generalize (ymd (b / 86400)).2.1 = b1 at *
      generalize (ymd (b / 86400)).2.2 = b2 at *
      generalize b % 86400 / 3600 = b3 at *
      generalize b % 86400 % 3600 / 60 = b4 at *
      generalize b % 86400 % 60 = b5 at *
      generalize wday (b / 86400) = b6 at *
      generalize str (writeR a 0).1 = SA at *
      generalize str (writeR b 0).1 = SB at *
      go_enter Tryd.func5, Tryd.ntmps5
      go_wp2_with fail
      refine Calls.mono HA.out ?_
      rintro e w1 ⟨rfl, c1⟩
      have HB1 : Hid (Below w.heap.size w w1) := c1
      have HT1 : Hid (Tb w1) := HT.out.bel c1
      clear c1
      go_wp2_with fail
      refine (H1.out _ HT1.out).mono ?_
      rintro e w2 ⟨rfl, c1⟩
      have HB2 : Hid (Below w.heap.size w w2) := bel_trans HB1.out c1
      have HT2 : Hid (Tb w2) := HT1.out.bel c1
      clear c1
      go_wp2_with fail
      refine (H2.out _ HT2.out).mono ?_
      rintro e w3 ⟨rfl, c1⟩
      have HB3 : Hid (Below w.heap.size w w3) := bel_trans HB2.out c1
      have HT3 : Hid (Tb w3) := HT2.out.bel c1
      clear c1
      go_wp2_with fail
      refine (H3.out _ HT3.out).mono ?_
      rintro e w4 ⟨rfl, c1⟩
      have HB4 : Hid (Below w.heap.size w (w4.alloc (.cells #[.int .i64 a0, .int .i64 a1, .int .i64 a2, .int .i64 a3, .int .i64 a4, .int .i64 a5, .int .i64 a6] 28))) := bel_trans (bel_trans HB3.out c1) ((But.refl [] w4).alloc _).to_below
      have HT4 : Hid (Tb (w4.alloc (.cells #[.int .i64 a0, .int .i64 a1, .int .i64 a2, .int .i64 a3, .int .i64 a4, .int .i64 a5, .int .i64 a6] 28))) := (HT3.out.bel c1).alloc _
      clear c1
      go_wp2_with fail
      refine (H4.out _ HT4.out).mono ?_
      rintro e w5 ⟨rfl, c1⟩
      have HB5 : Hid (Below w.heap.size w (w5.alloc (.cells #[.int .i64 b0, .int .i64 b1, .int .i64 b2, .int .i64 b3, .int .i64 b4, .int .i64 b5, .int .i64 b6] 28))) := bel_trans (bel_trans HB4.out c1) ((But.refl [] w5).alloc _).to_below
      have nn : ∀ x : Nat, x ∉ ([] : List Nat) := fun _ e => by cases e
      have hbt : But [] (w4.alloc (.cells #[.int .i64 a0, .int .i64 a1, .int .i64 a2, .int .i64 a3, .int .i64 a4, .int .i64 a5, .int .i64 a6] 28)) (w5.alloc (.cells #[.int .i64 b0, .int .i64 b1, .int .i64 b2, .int .i64 b3, .int .i64 b4, .int .i64 b5, .int .i64 b6] 28)) := (But.of_below c1).alloc _
      have p0 := hbt.cell (cell_new w4 #[.int .i64 a0, .int .i64 a1, .int .i64 a2, .int .i64 a3, .int .i64 a4, .int .i64 a5, .int .i64 a6] 28 0 (.int .i64 a0) rfl) (nn _)
      have p1 := hbt.cell (cell_new w4 #[.int .i64 a0, .int .i64 a1, .int .i64 a2, .int .i64 a3, .int .i64 a4, .int .i64 a5, .int .i64 a6] 28 1 (.int .i64 a1) rfl) (nn _)
      have p2 := hbt.cell (cell_new w4 #[.int .i64 a0, .int .i64 a1, .int .i64 a2, .int .i64 a3, .int .i64 a4, .int .i64 a5, .int .i64 a6] 28 2 (.int .i64 a2) rfl) (nn _)
      have p3 := hbt.cell (cell_new w4 #[.int .i64 a0, .int .i64 a1, .int .i64 a2, .int .i64 a3, .int .i64 a4, .int .i64 a5, .int .i64 a6] 28 3 (.int .i64 a3) rfl) (nn _)
      have p4 := hbt.cell (cell_new w4 #[.int .i64 a0, .int .i64 a1, .int .i64 a2, .int .i64 a3, .int .i64 a4, .int .i64 a5, .int .i64 a6] 28 4 (.int .i64 a4) rfl) (nn _)
      have p5 := hbt.cell (cell_new w4 #[.int .i64 a0, .int .i64 a1, .int .i64 a2, .int .i64 a3, .int .i64 a4, .int .i64 a5, .int .i64 a6] 28 5 (.int .i64 a5) rfl) (nn _)
      have p6 := hbt.cell (cell_new w4 #[.int .i64 a0, .int .i64 a1, .int .i64 a2, .int .i64 a3, .int .i64 a4, .int .i64 a5, .int .i64 a6] 28 6 (.int .i64 a6) rfl) (nn _)
      have q0 := cell_new w5 #[.int .i64 b0, .int .i64 b1, .int .i64 b2, .int .i64 b3, .int .i64 b4, .int .i64 b5, .int .i64 b6] 28 0 (.int .i64 b0) rfl
      have q1 := cell_new w5 #[.int .i64 b0, .int .i64 b1, .int .i64 b2, .int .i64 b3, .int .i64 b4, .int .i64 b5, .int .i64 b6] 28 1 (.int .i64 b1) rfl
      have q2 := cell_new w5 #[.int .i64 b0, .int .i64 b1, .int .i64 b2, .int .i64 b3, .int .i64 b4, .int .i64 b5, .int .i64 b6] 28 2 (.int .i64 b2) rfl
      have q3 := cell_new w5 #[.int .i64 b0, .int .i64 b1, .int .i64 b2, .int .i64 b3, .int .i64 b4, .int .i64 b5, .int .i64 b6] 28 3 (.int .i64 b3) rfl
      have q4 := cell_new w5 #[.int .i64 b0, .int .i64 b1, .int .i64 b2, .int .i64 b3, .int .i64 b4, .int .i64 b5, .int .i64 b6] 28 4 (.int .i64 b4) rfl
      have q5 := cell_new w5 #[.int .i64 b0, .int .i64 b1, .int .i64 b2, .int .i64 b3, .int .i64 b4, .int .i64 b5, .int .i64 b6] 28 5 (.int .i64 b5) rfl
      have q6 := cell_new w5 #[.int .i64 b0, .int .i64 b1, .int .i64 b2, .int .i64 b3, .int .i64 b4, .int .i64 b5, .int .i64 b6] 28 6 (.int .i64 b6) rfl
      clear c1 hbt
      go_wp2_with fail
      generalize (w5.alloc (.cells #[.int .i64 b0, .int .i64 b1, .int .i64 b2, .int .i64 b3, .int .i64 b4, .int .i64 b5, .int .i64 b6] 28)) = W6 at *
      generalize w4.heap.size = P4 at *
      generalize w5.heap.size = P5 at *
      refine (H5.out _).mono ?_
      rintro e w7 ⟨rfl, c1⟩
      have HB7 : Hid (Below w.heap.size w w7) := bel_trans HB5.out c1
      replace p0 := (But.of_below c1).cell p0 (nn _)
      replace q0 := (But.of_below c1).cell q0 (nn _)
      replace p1 := (But.of_below c1).cell p1 (nn _)
      replace q1 := (But.of_below c1).cell q1 (nn _)
      replace p2 := (But.of_below c1).cell p2 (nn _)
      replace q2 := (But.of_below c1).cell q2 (nn _)
      replace p3 := (But.of_below c1).cell p3 (nn _)
      replace q3 := (But.of_below c1).cell q3 (nn _)
      replace p4 := (But.of_below c1).cell p4 (nn _)
      replace q4 := (But.of_below c1).cell q4 (nn _)
      replace p5 := (But.of_below c1).cell p5 (nn _)
      replace q5 := (But.of_below c1).cell q5 (nn _)
      replace p6 := (But.of_below c1).cell p6 (nn _)
      replace q6 := (But.of_below c1).cell q6 (nn _)
      clear c1
      go_wp2_with fail
      refine (H6.out _).mono ?_
      rintro e w8 ⟨rfl, c1⟩
      have HB8 : Hid (Below w.heap.size w w8) := bel_trans HB7.out c1
      clear c1
      go_wp2
      go_ret
      exact ⟨ret_bool (by simp), HB8.out⟩
    · rcases (by unfold isM at hN; omega : b < -62135596800 ∨ (¬ b < -62135596800 ∧ 253402300799 < b)) with h1 | ⟨h1, h2⟩
      all_goals
        have hM1 := hM.1
        have hM2 := hM.2
        go_enter Tryd.func5, Tryd.ntmps5
        go_wp2_with fail
        refine Calls.mono HA.out ?_
        rintro e w1 ⟨rfl, b1⟩
        have HB1 : Hid (Below w.heap.size w w1) := b1
        clear b1
        go_wp2
        go_ret
        exact ⟨rfl, HB1.out⟩
  · rcases (by unfold isM at hM; omega : a < -62135596800 ∨ (¬ a < -62135596800 ∧ 253402300799 < a)) with h1 | ⟨h1, h2⟩
    all_goals
      go_enter Tryd.func5, Tryd.ntmps5
      go_wp2_with fail
      refine Calls.mono HA.out ?_
      rintro e w1 ⟨rfl, b1⟩
      have HB1 : Hid (Below w.heap.size w w1) := b1
      clear b1
      go_wp2
      go_ret
      exact ⟨rfl, HB1.out⟩

end Bs
end Go.Proofs.YtpfkajalkakbgabDoor
