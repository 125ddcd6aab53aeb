/-
  A date's moment; the law's own 'plain'.
-/
import Derived.Test.YtpfkajalkakbgaaDoorRSpl
set_option linter.unusedVariables false
set_option linter.unusedSimpArgs false
namespace Go.Proofs.YtpfkajalkakbgaaDoor
open Go.RowKit
namespace Bs

instance (y m d : Int) : Decidable (IsD y m d) := inferInstanceAs (Decidable (_ ∧ _ ∧ _ ∧ _))
def joinS (y m d h i s k : Int) : Int × Int :=
  if ¬ IsD y m d then (0, 41)
  else if ¬ (0 ≤ h ∧ h < 24) ∨ ¬ (0 ≤ i ∧ i < 60) ∨ ¬ (0 ≤ s ∧ s < 60) then (0, 42)
  else if k ≠ wday (dn y m d) then (0, 43)
  else (dn y m d * 86400 + h * 3600 + i * 60 + s, 0)

set_option maxRecDepth 100000 in
set_option maxHeartbeats 2000000 in
theorem Join_any (y m d h i s k : Int) (hy : I64 y) (hm : I64 m) (hd : I64 d) (hh : I64 h) (hi : I64 i) (hs : I64 s) (hk : I64 k) (w : World) (tb : Tb w) :
    Calls Tryd.prog 19 #[dv7 y m d h i s k] w fun e w' => e = .returned (.tuple #[.int .i64 (joinS y m d h i s k).1, .int .i64 (joinS y m d h i s k).2]) ∧ Below w.heap.size w w' := by
  have HDy : Hid (∀ w, Tb w → Calls Tryd.prog 10 #[.int .i64 y, .int .i64 m, .int .i64 d] w fun e w' => e = .returned (.tuple #[.int .i64 (daysS y m d).1, .int .i64 (daysS y m d).2]) ∧ w' = w) := fun w t => Days_any y m d hy hm hd w t
  have HB24 : Hid (∀ w, Calls Tryd.prog 30 #[.int .i64 h, .int .i64 24] w fun e w' => e = .returned (.bool (decide (0 ≤ h ∧ h < 24))) ∧ w' = w) := fun w => below_any h 24 hh ⟨by omega, by omega⟩ w
  have HBi : Hid (∀ w, Calls Tryd.prog 30 #[.int .i64 i, .int .i64 60] w fun e w' => e = .returned (.bool (decide (0 ≤ i ∧ i < 60))) ∧ w' = w) := fun w => below_any i 60 hi ⟨by omega, by omega⟩ w
  have HBs : Hid (∀ w, Calls Tryd.prog 30 #[.int .i64 s, .int .i64 60] w fun e w' => e = .returned (.bool (decide (0 ≤ s ∧ s < 60))) ∧ w' = w) := fun w => below_any s 60 hs ⟨by omega, by omega⟩ w
  have HT : Hid (Tb (w.alloc (.cells #[.int .i64 y, .int .i64 m, .int .i64 d, .int .i64 h, .int .i64 i, .int .i64 s, .int .i64 k] 32))) := tb.alloc _
  clear tb
  unfold dv7
  by_cases hI : IsD y m d
  · have dr := dn_range hI
    rw [daysS_ok hI] at HDy
    have HWd : Hid (∀ w, Calls Tryd.prog 28 #[.int .i64 (dn y m d)] w fun e w' => e = .returned (.int .i64 (wday (dn y m d))) ∧ w' = w) := fun w => weekday_any _ (by omega) (by omega) w
    by_cases h1 : 0 ≤ h ∧ h < 24
    · by_cases h2 : 0 ≤ i ∧ i < 60
      · by_cases h3 : 0 ≤ s ∧ s < 60
        · have HMo : Hid (∀ w, Calls Tryd.prog 31 #[.int .i64 (dn y m d), .int .i64 h, .int .i64 i, .int .i64 s] w fun e w' => e = .returned (.int .i64 (dn y m d * 86400 + h * 3600 + i * 60 + s)) ∧ w' = w) := fun w => momentOf_any _ h i s (by omega) (by omega) (by omega) (by omega) (by omega) (by omega) (by omega) (by omega) w
          have HJ : Hid (joinS y m d h i s k = if k ≠ wday (dn y m d) then (0, 43) else (dn y m d * 86400 + h * 3600 + i * 60 + s, 0)) := (by unfold joinS; rw [if_neg (fun c => c hI), if_neg (by omega)] : joinS y m d h i s k = _)
          rw [decide_eq_true h1] at HB24
          rw [decide_eq_true h2] at HBi
          rw [decide_eq_true h3] at HBs
          clear hI
          generalize dn y m d = D at *
          generalize wday D = K at *
          go_enter Tryd.func19, Tryd.ntmps19
          go_wp2_with fail
          refine (HDy.out _ HT.out).mono ?_
          rintro e w' ⟨rfl, rfl⟩
          go_wp2_with fail
          refine (HB24.out _).mono ?_
          rintro e w' ⟨rfl, rfl⟩
          go_wp2_with fail
          refine (HBi.out _).mono ?_
          rintro e w' ⟨rfl, rfl⟩
          go_wp2_with fail
          refine (HBs.out _).mono ?_
          rintro e w' ⟨rfl, rfl⟩
          go_wp2_with fail
          go_quiet ((go_at_call 28; exact Calls.quiet_of_same (HWd.out _)))
          by_cases hkk : k = K
          · rw [if_neg (fun c => c hkk)] at HJ
            have hne : (k != K) = false := by simp [hkk]
            go_wp2_with fail
            refine (HMo.out _).mono ?_
            rintro e w' ⟨rfl, rfl⟩
            go_wp2
            go_ret2
            exact ⟨ret_two HJ.out, ((But.refl [] w).alloc _).drewN _ |>.to_below⟩
          · rw [if_pos hkk] at HJ
            have hne : (k != K) = true := by simp [hkk]
            go_wp2
            go_ret2
            exact ⟨ret_two HJ.out, ((But.refl [] w).alloc _).drewN _ |>.to_below⟩
        · have HJ : Hid (joinS y m d h i s k = (0, 42)) := (by unfold joinS; rw [if_neg (fun c => c hI), if_pos (by omega)] : joinS y m d h i s k = (0, 42))
          rw [decide_eq_true h1] at HB24
          rw [decide_eq_true h2] at HBi
          rw [decide_eq_false h3] at HBs
          go_enter Tryd.func19, Tryd.ntmps19
          go_wp2_with fail
          refine (HDy.out _ HT.out).mono ?_
          rintro e w' ⟨rfl, rfl⟩
          go_wp2_with fail
          refine (HB24.out _).mono ?_
          rintro e w' ⟨rfl, rfl⟩
          go_wp2_with fail
          refine (HBi.out _).mono ?_
          rintro e w' ⟨rfl, rfl⟩
          go_wp2_with fail
          refine (HBs.out _).mono ?_
          rintro e w' ⟨rfl, rfl⟩
          go_wp2
          go_ret2
          exact ⟨ret_two HJ.out, ((But.refl [] w).alloc _).to_below⟩
      · have HJ : Hid (joinS y m d h i s k = (0, 42)) := (by unfold joinS; rw [if_neg (fun c => c hI), if_pos (by omega)] : joinS y m d h i s k = (0, 42))
        rw [decide_eq_true h1] at HB24
        rw [decide_eq_false h2] at HBi
        go_enter Tryd.func19, Tryd.ntmps19
        go_wp2_with fail
        refine (HDy.out _ HT.out).mono ?_
        rintro e w' ⟨rfl, rfl⟩
        go_wp2_with fail
        refine (HB24.out _).mono ?_
        rintro e w' ⟨rfl, rfl⟩
        go_wp2_with fail
        refine (HBi.out _).mono ?_
        rintro e w' ⟨rfl, rfl⟩
        go_wp2
        go_ret2
        exact ⟨ret_two HJ.out, ((But.refl [] w).alloc _).to_below⟩
    · have HJ : Hid (joinS y m d h i s k = (0, 42)) := (by unfold joinS; rw [if_neg (fun c => c hI), if_pos (by omega)] : joinS y m d h i s k = (0, 42))
      rw [decide_eq_false h1] at HB24
      go_enter Tryd.func19, Tryd.ntmps19
      go_wp2_with fail
      refine (HDy.out _ HT.out).mono ?_
      rintro e w' ⟨rfl, rfl⟩
      go_wp2_with fail
      refine (HB24.out _).mono ?_
      rintro e w' ⟨rfl, rfl⟩
      go_wp2
      go_ret2
      exact ⟨ret_two HJ.out, ((But.refl [] w).alloc _).to_below⟩
  · have HJ : Hid (joinS y m d h i s k = (0, 41)) := (by unfold joinS; rw [if_pos hI] : joinS y m d h i s k = (0, 41))
    rw [daysS_no hI] at HDy
    go_enter Tryd.func19, Tryd.ntmps19
    go_wp2_with fail
    refine (HDy.out _ HT.out).mono ?_
    rintro e w' ⟨rfl, rfl⟩
    go_wp2
    go_ret2
    exact ⟨ret_two HJ.out, ((But.refl [] w).alloc _).to_below⟩

set_option maxRecDepth 100000 in
set_option maxHeartbeats 2000000 in
theorem rJoin_any (y m d h i s k : Int) (hy : I64 y) (hm : I64 m) (hd : I64 d) (hh : I64 h) (hi : I64 i) (hs : I64 s) (hk : I64 k) (w : World) :
    Calls Tryd.prog 20 #[dv7 y m d h i s k] w fun e w' => e = .returned (.tuple #[.int .i64 (joinS y m d h i s k).1, .int .i64 (joinS y m d h i s k).2]) ∧ Below w.heap.size w w' := by
  have HDy : Hid (∀ w, Calls Tryd.prog 11 #[.int .i64 y, .int .i64 m, .int .i64 d] w fun e w' => e = .returned (.tuple #[.int .i64 (daysS y m d).1, .int .i64 (daysS y m d).2]) ∧ Below w.heap.size w w') := fun w => rDays_any y m d hy hm hd w
  have HDc := Dcs.new w [y, m, d, h, i, s, k] rfl
  have HB0 : Below w.heap.size w (w.alloc (.cells (iv7 [y, m, d, h, i, s, k]).toArray 35)) := ((But.refl [] w).alloc _).to_below
  unfold dv7
  by_cases hI : IsD y m d
  · have dr := dn_range hI
    rw [daysS_ok hI] at HDy
    have HWd : Hid (∀ w, Calls Tryd.prog 29 #[.int .i64 (dn y m d)] w fun e w' => e = .returned (.int .i64 (wday (dn y m d))) ∧ w' = w) := fun w => rWeekday_any _ (by omega) (by omega) w
    have HJ0 : Hid (joinS y m d h i s k = if ¬ (0 ≤ h ∧ h < 24) ∨ ¬ (0 ≤ i ∧ i < 60) ∨ ¬ (0 ≤ s ∧ s < 60) then (0, 42) else if k ≠ wday (dn y m d) then (0, 43) else (dn y m d * 86400 + h * 3600 + i * 60 + s, 0)) := (by unfold joinS; rw [if_neg (fun c => c hI)] : joinS y m d h i s k = _)
    clear hI
    generalize dn y m d = D at *
    generalize wday D = K at *
    go_enter Tryd.func20, Tryd.ntmps20
    go_wp2_with fail
    refine (HDy.out _).mono ?_
    rintro e w1 ⟨rfl, b1⟩
    have hdc : Dcs w1 w.heap.size [y, m, d, h, i, s, k] := HDc.bel b1
    have HB1 : Hid (Below w.heap.size w w1) := bel_trans HB0 b1
    clear b1 HDc HB0
    have c3 := hdc.cell 3 (by omega)
    have c4 := hdc.cell 4 (by omega)
    have c5 := hdc.cell 5 (by omega)
    have c6 := hdc.cell 6 (by omega)
    simp only [g, List.getD_cons_zero, List.getD_cons_succ] at c3 c4 c5 c6
    clear hdc
    by_cases h1 : h < 0
    · go_wp2
      go_ret2
      exact ⟨ret_two (HJ0.out.trans (if_pos (by omega))), HB1.out⟩
    by_cases h2 : 23 < h
    · go_wp2
      go_ret2
      exact ⟨ret_two (HJ0.out.trans (if_pos (by omega))), HB1.out⟩
    by_cases h3 : i < 0
    · go_wp2
      go_ret2
      exact ⟨ret_two (HJ0.out.trans (if_pos (by omega))), HB1.out⟩
    by_cases h4 : 59 < i
    · go_wp2
      go_ret2
      exact ⟨ret_two (HJ0.out.trans (if_pos (by omega))), HB1.out⟩
    by_cases h5 : s < 0
    · go_wp2
      go_ret2
      exact ⟨ret_two (HJ0.out.trans (if_pos (by omega))), HB1.out⟩
    by_cases h6 : 59 < s
    · go_wp2
      go_ret2
      exact ⟨ret_two (HJ0.out.trans (if_pos (by omega))), HB1.out⟩
    have HJ : Hid (_ = _) := HJ0.out.trans (if_neg (by omega))
    clear HJ0
    go_wp2_with fail
    go_quiet ((go_at_call 29; exact Calls.quiet_of_same (HWd.out _)))
    by_cases hkk : k = K
    · rw [if_neg (fun c => c hkk)] at HJ
      have hne : (k != K) = false := by simp [hkk]
      go_wp2
      go_ret2
      exact ⟨ret_two HJ.out, bel_drewN HB1.out _⟩
    · rw [if_pos hkk] at HJ
      have hne : (k != K) = true := by simp [hkk]
      go_wp2
      go_ret2
      exact ⟨ret_two HJ.out, bel_drewN HB1.out _⟩
  · have HJ : Hid (joinS y m d h i s k = (0, 41)) := (by unfold joinS; rw [if_pos hI] : joinS y m d h i s k = (0, 41))
    rw [daysS_no hI] at HDy
    go_enter Tryd.func20, Tryd.ntmps20
    go_wp2_with fail
    refine (HDy.out _).mono ?_
    rintro e w1 ⟨rfl, b1⟩
    have HB1 : Hid (Below w.heap.size w w1) := bel_trans HB0 b1
    clear b1 HDc HB0
    go_wp2
    go_ret2
    exact ⟨ret_two HJ.out, HB1.out⟩

set_option maxHeartbeats 1000000 in
theorem plain_any (y m d h i s k : Int) (w : World) :
    Calls Tryd.prog 18 #[dv7 y m d h i s k] w fun e w' => e = .returned (dv7 y m d h i s k) ∧ Below w.heap.size w w' := by
  unfold dv7
  go_enter Tryd.func18, Tryd.ntmps18
  go_wp2
  exact bodyPost_ret (v := dv7 y m d h i s k) (by simp [results, Tryd.results18, go_sem, dv7]) rfl ⟨rfl, (((But.refl [] w).alloc _).alloc _).to_below⟩

end Bs
end Go.Proofs.YtpfkajalkakbgaaDoor
