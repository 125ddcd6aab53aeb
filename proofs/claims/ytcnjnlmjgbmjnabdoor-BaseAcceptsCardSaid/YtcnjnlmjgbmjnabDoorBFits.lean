/-
  base.fits: whether a byte may stand where it stands.
-/
import Derived.Test.YtcnjnlmjgbmjnabDoorBEnc2
set_option linter.unusedVariables false
set_option linter.unusedSimpArgs false
namespace Go.Proofs.YtcnjnlmjgbmjnabDoor
open Go.RowKit
namespace Bs

theorem and15 (c : UInt8) : bits .and .i64 (num c) 15 = num c % 16 := by
  revert c
  apply all_bytes
  decide +kernel
theorem and3 (c : UInt8) : bits .and .i64 (num c) 3 = num c % 4 := by
  revert c
  apply all_bytes
  decide +kernel
theorem ne61 {c : UInt8} (h : c ≠ 61) : ((c.toNat : Int) == 61) = false := by
  simp only [beq_eq_false_iff_ne, ne_eq]
  intro e
  exact h (u8_eq (by show _ = 61; omega))
theorem nne61 {c : UInt8} (h : c ≠ 61) : ((c.toNat : Int) != 61) = true := by rw [bne, ne61 h]; rfl

set_option maxRecDepth 100000 in
set_option maxHeartbeats 1000000 in
theorem fits_any (l : List UInt8) (i : Nat) (hi : i < l.length) (hl : l.length ≤ 140737488355328) (w : World) :
    Calls Tryd.prog 16 #[.string (str l), .int .i64 (i : Int)] w fun e w' => e = .returned (.bool (fitB l i)) ∧ w' = w := by
  have hs : (str l).size = l.length := str_size l
  have hbi : ∀ (h : i < (str l).size), ((str l)[i]'h) = l.getD i 0 := fun h => by rw [← at_lt _ i h, str_list]
  have hbp : ∀ (h : i - 1 < (str l).size), ((str l)[i - 1]'h) = l.getD (i - 1) 0 := fun h => by rw [← at_lt _ (i - 1) h, str_list]
  have HF : Hid (fitB l i = (if 0 < i ∧ l.getD (i - 1) 0 = 61 then decide (l.getD i 0 = 61) && decide (i % 4 = 3)
  else if l.getD i 0 ≠ 61 then decide (0 ≤ num (l.getD i 0))
  else if i % 4 = 2 then decide (num (l.getD (i - 1) 0) % 16 = 0)
  else if i % 4 = 3 then decide (num (l.getD (i - 1) 0) % 4 = 0)
  else false)) := rfl
  generalize l.getD i 0 = c at *
  generalize l.getD (i - 1) 0 = p at *
  have hm : ((i : Nat) : Int) % 4 = ((i % 4 : Nat) : Int) := by omega
  have hm4 : i % 4 < 4 := by omega
  by_cases h1 : 0 < i ∧ p = 61
  · obtain ⟨h1, rfl⟩ := h1
    by_cases hc : c = 61
    · subst hc
      have HV : Hid (fitB l i = decide (i % 4 = 3)) := (by rw [HF.out, if_pos ⟨h1, rfl⟩]; simp : fitB l i = decide (i % 4 = 3))
      clear HF
      generalize i % 4 = m at *
      by_cases hm3 : m = 3
      · subst hm3
        go_enter Tryd.func16, Tryd.ntmps16
        go_wp2
        go_ret
        exact ⟨by rw [HV.out]; rfl, rfl⟩
      · have hm3' : ((m : Int) == 3) = false := by simp; omega
        go_enter Tryd.func16, Tryd.ntmps16
        go_wp2
        go_ret
        exact ⟨by rw [HV.out]; simp [hm3], rfl⟩
    · have HV : Hid (fitB l i = false) := (by rw [HF.out, if_pos ⟨h1, rfl⟩]; simp [hc] : fitB l i = false)
      clear HF
      have hce := ne61 hc
      generalize i % 4 = m at *
      go_enter Tryd.func16, Tryd.ntmps16
      go_wp2
      go_ret
      exact ⟨ret_bool HV.out.symm, rfl⟩
  · have HV1 := HF.out
    rw [if_neg h1] at HV1
    clear HF
    have hg : i = 0 ∨ (0 < i ∧ ((p.toNat : Int) == 61) = false) := by
      rcases Nat.eq_zero_or_pos i with h | h
      · exact .inl h
      · exact .inr ⟨h, ne61 (fun e => h1 ⟨h, e⟩)⟩
    by_cases hc : c = 61
    · rw [if_neg (by simp [hc])] at HV1
      subst hc
      have HV : Hid _ := HV1
      clear HV1
      have e15 := and15 p
      have e3 := and3 p
      have bd := num_bd p
      rcases (show i % 4 = 2 ∨ i % 4 = 3 ∨ i % 4 = 0 ∨ i % 4 = 1 by omega) with h | h | h | h
      · have HV' : Hid (fitB l i = decide (num p % 16 = 0)) := (by rw [HV.out, if_pos h] : fitB l i = decide (num p % 16 = 0))
        rcases hg with hg | ⟨hg, hp⟩
        · omega
        rw [h] at hm
        have dv : (num p % 16 == 0) = decide (num p % 16 = 0) := by rw [Bool.beq_eq_decide_eq]
        generalize num p % 16 = q at *
        go_enter Tryd.func16, Tryd.ntmps16
        go_wp2_with fail
        refine (number_any p w).mono ?_
        rintro e w2 ⟨rfl, rfl⟩
        go_wp2
        go_ret
        exact ⟨by rw [HV'.out]; simp [dv], rfl⟩
      · have HV' : Hid (fitB l i = decide (num p % 4 = 0)) := (by rw [HV.out, if_neg (by omega), if_pos h] : fitB l i = decide (num p % 4 = 0))
        rcases hg with hg | ⟨hg, hp⟩
        · omega
        rw [h] at hm
        have dv : (num p % 4 == 0) = decide (num p % 4 = 0) := by rw [Bool.beq_eq_decide_eq]
        generalize num p % 4 = q at *
        go_enter Tryd.func16, Tryd.ntmps16
        go_wp2_with fail
        refine (number_any p w).mono ?_
        rintro e w2 ⟨rfl, rfl⟩
        go_wp2
        go_ret
        exact ⟨by rw [HV'.out]; simp [dv], rfl⟩
      · have HV' : Hid (fitB l i = false) := (by rw [HV.out, if_neg (by omega), if_neg (by omega)] : fitB l i = false)
        rw [h] at hm
        rcases hg with hg | ⟨hg, hp⟩
        · subst hg
          clear hbp
          go_enter Tryd.func16, Tryd.ntmps16
          go_wp2
          go_ret
          exact ⟨ret_bool HV'.out.symm, rfl⟩
        · go_enter Tryd.func16, Tryd.ntmps16
          go_wp2
          go_ret
          exact ⟨ret_bool HV'.out.symm, rfl⟩
      · have HV' : Hid (fitB l i = false) := (by rw [HV.out, if_neg (by omega), if_neg (by omega)] : fitB l i = false)
        rw [h] at hm
        rcases hg with hg | ⟨hg, hp⟩
        · omega
        · go_enter Tryd.func16, Tryd.ntmps16
          go_wp2
          go_ret
          exact ⟨ret_bool HV'.out.symm, rfl⟩
    · have HV : Hid (fitB l i = decide (0 ≤ num c)) := (by rw [HV1, if_pos hc] : fitB l i = decide (0 ≤ num c))
      clear HV1
      have hce := ne61 hc
      have hcn := nne61 hc
      generalize i % 4 = m at *
      rcases hg with hg | ⟨hg, hp⟩
      · subst hg
        clear hbp
        go_enter Tryd.func16, Tryd.ntmps16
        go_wp2_with fail
        refine (number_any c w).mono ?_
        rintro e w2 ⟨rfl, rfl⟩
        generalize num c = q at *
        go_wp2
        go_ret
        exact ⟨ret_bool HV.out.symm, rfl⟩
      · go_enter Tryd.func16, Tryd.ntmps16
        go_wp2_with fail
        refine (number_any c w).mono ?_
        rintro e w2 ⟨rfl, rfl⟩
        generalize num c = q at *
        go_wp2
        go_ret
        exact ⟨ret_bool HV.out.symm, rfl⟩

end Bs
end Go.Proofs.YtcnjnlmjgbmjnabDoor
