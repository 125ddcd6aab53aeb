/-
  The document's Of, begins.
-/
import Derived.Test.YtcnjnlmjgbmjnabDoorBDec2
set_option linter.unusedVariables false
set_option linter.unusedSimpArgs false
namespace Go.Proofs.YtcnjnlmjgbmjnabDoor
open Go.RowKit
namespace Bs

set_option maxRecDepth 100000 in
set_option maxHeartbeats 400000 in
theorem Sign_any (n : Nat) (h : n < 64) (w : World) : Calls Tryd.prog 23 #[.int .i64 (n : Int)] w fun e w' => e = .returned (.int .u8 ((sgn n).toNat : Int)) ∧ w' = w := by
  have hsg := sg_at n
  have h' : ((n : Nat) : Int) < 64 := by omega
  go_enter Tryd.func23, Tryd.ntmps23
  go_wp2
  go_ret
  exact ⟨rfl, rfl⟩

set_option maxRecDepth 100000 in
set_option maxHeartbeats 400000 in
theorem Of_any (c : UInt8) (w : World) : Calls Tryd.prog 22 #[.int .u8 (c.toNat : Int)] w fun e w' => e = .returned (.int .i64 (num c)) ∧ w' = w := by
  go_enter Tryd.func22, Tryd.ntmps22
  go_wp2
  go_loop [3] (fun i => ∃ k : Nat, k ≤ 64 ∧ i = .int .i64 k ∧ Hid (∀ j, j < k → sgn j ≠ c)) (fun i => 64 - (intOf i).toNat)
  case atStart => exact ⟨0, by omega, rfl, fun j hj => by omega⟩
  case round =>
    obtain ⟨k, hk, rfl, HK⟩ := hrel
    by_cases hlt : k < 64
    · have hki : ((k : Nat) : Int) < 64 := by omega
      by_cases he : sgn k = c
      · have HN : Hid (num c = (k : Int)) := (by rw [← he, num_sgn k hlt] : num c = (k : Int))
        go_wp2_with fail
        refine (Sign_any k hlt w).mono ?_
        rintro e w2 ⟨rfl, hw2⟩
        rw [hw2, he]
        clear hw2 w2
        go_wp2
        go_ret
        exact ⟨ret_int HN.out.symm, rfl⟩
      · have hne : (((sgn k).toNat : Int) == (c.toNat : Int)) = false := by
          simp only [beq_eq_false_iff_ne, ne_eq]
          intro e
          exact he (u8_eq (by omega))
        have HK2 : Hid (∀ j, j < k + 1 → sgn j ≠ c) := fun j hj => by
          by_cases e : j = k
          · subst e; exact he
          · exact HK.out j (by omega)
        go_wp2_with fail
        refine (Sign_any k hlt w).mono ?_
        rintro e w2 ⟨rfl, hw2⟩
        rw [hw2]
        clear hw2 w2
        generalize sgn k = s at *
        go_wp2
        go_round
        case rel => exact ⟨k + 1, by omega, by go_num, HK2.out⟩
        case measure => simp [intOf]; omega
    · obtain rfl : k = 64 := by omega
      have HN : Hid (num c = -1) := by
        show num c = -1
        have bd := num_bd c
        by_cases hn : 0 ≤ num c
        · exact absurd (sgn_num c hn) (HK.out _ (by omega))
        · omega
      go_wp2
      go_ret
      exact ⟨ret_int HN.out.symm, rfl⟩

/-- All bytes fit. -/
def allF (l : List UInt8) : Bool := (List.range l.length).all (fitB l)
theorem allF_t {l : List UInt8} (h : ∀ j, j < l.length → fitB l j = true) : allF l = true := by
  unfold allF
  rw [List.all_eq_true]
  exact fun j hj => h j (List.mem_range.1 hj)
theorem allF_f {l : List UInt8} {j : Nat} (hj : j < l.length) (h : fitB l j = false) : allF l = false := by
  unfold allF
  rw [List.all_eq_false]
  exact ⟨j, List.mem_range.2 hj, by simp [h]⟩
theorem allF_iff {l : List UInt8} : allF l = true → ∀ j, j < l.length → fitB l j = true := fun h j hj => List.all_eq_true.1 h j (List.mem_range.2 hj)

theorem fit_num {l : List UInt8} {i : Nat} (hi : i < 4) (h : 0 ≤ num (l.getD i 0)) : fitB l i = !decide (0 < i ∧ l.getD (i - 1) 0 = 61) := by
  unfold fitB
  have := num_ne h
  generalize l.getD i 0 = c at *
  generalize l.getD (i - 1) 0 = p at *
  by_cases hp : 0 < i ∧ p = 61
  · rw [if_pos hp, decide_eq_true hp]; simp [this]
  · rw [if_neg hp, if_pos this, decide_eq_false hp]; simp [h]
theorem fit_no {l : List UInt8} {i : Nat} (hi : i < 4) (h : num (l.getD i 0) < 0) (h2 : l.getD i 0 ≠ 61 ∨ i < 2) : fitB l i = false := by
  unfold fitB
  generalize l.getD i 0 = c at *
  generalize l.getD (i - 1) 0 = p at *
  by_cases hp : 0 < i ∧ p = 61
  · rw [if_pos hp]
    rcases h2 with h2 | h2
    · simp [h2]
    · have : decide (i % 4 = 3) = false := by rw [decide_eq_false_iff_not]; omega
      rw [this, Bool.and_false]
  · rw [if_neg hp]
    by_cases hc : c = 61
    · rcases h2 with h2 | h2
      · exact absurd hc h2
      · rw [if_neg (by simp [hc]), if_neg (by omega), if_neg (by omega)]
    · rw [if_pos hc]
      rw [decide_eq_false_iff_not]
      omega
theorem fit_two {l : List UInt8} (h : l.getD 2 0 = 61) : fitB l 2 = decide (num (l.getD 1 0) % 16 = 0) := by
  unfold fitB
  rw [show 2 - 1 = 1 by rfl, h]
  generalize l.getD 1 0 = p at *
  by_cases hp : p = 61
  · rw [if_pos ⟨by omega, hp⟩, hp]
    rw [num61]
    decide
  · rw [if_neg (by simp [hp]), if_neg (by simp), if_pos (by decide)]
theorem fit_three {l : List UInt8} (h : l.getD 3 0 = 61) : fitB l 3 = decide (l.getD 2 0 = 61 ∨ num (l.getD 2 0) % 4 = 0) := by
  unfold fitB
  rw [show 3 - 1 = 2 by rfl, h]
  generalize l.getD 2 0 = p at *
  by_cases hp : p = 61
  · rw [if_pos ⟨by omega, hp⟩, hp]
    decide
  · rw [if_neg (by simp [hp]), if_neg (by simp), if_neg (by decide), if_pos (by decide)]
    simp [hp]

set_option maxRecDepth 100000 in
set_option maxHeartbeats 1000000 in
theorem begins_any (l : List UInt8) (h4 : l.length ≤ 4) (w : World) : Calls Tryd.prog 21 #[.string (str l)] w fun e w' => e = .returned (.bool (allF l)) ∧ w' = w := by
  have hs : (str l).size = l.length := str_size l
  go_enter Tryd.func21, Tryd.ntmps21
  go_wp2
  go_loop [3] (fun i => ∃ k : Nat, k ≤ l.length ∧ i = .int .i64 k ∧ Hid (∀ j, j < k → fitB l j = true)) (fun i => l.length - (intOf i).toNat)
  case atStart => exact ⟨0, by omega, rfl, fun j hj => by omega⟩
  case round =>
    obtain ⟨k, hk, rfl, HK⟩ := hrel
    by_cases hlt : k < l.length
    · have next : fitB l k = true → Hid (∀ j, j < k + 1 → fitB l j = true) := fun h j hj => by
        by_cases e : j = k
        · subst e; exact h
        · exact HK.out j (by omega)
      have hbk : ∀ (h : k < (str l).size), ((str l)[k]'h) = l.getD k 0 := fun h => by rw [← at_lt _ k h, str_list]
      have hbp : ∀ (h : k - 1 < (str l).size), ((str l)[k - 1]'h) = l.getD (k - 1) 0 := fun h => by rw [← at_lt _ (k - 1) h, str_list]
      by_cases hn : 0 ≤ num (l.getD k 0)
      · have hf := fit_num (l := l) (i := k) (by omega) hn
        by_cases hp : 0 < k ∧ l.getD (k - 1) 0 = 61
        · have HF : Hid (allF l = false) := allF_f hlt (by rw [hf, decide_eq_true hp]; rfl)
          clear hf next
          obtain ⟨hp1, hp2⟩ := hp
          rw [hp2] at hbp
          generalize l.getD k 0 = c at *
          go_wp2_with fail
          refine (Of_any c w).mono ?_
          rintro e w2 ⟨rfl, hw2⟩
          rw [hw2]
          clear hw2 w2
          generalize num c = q at *
          go_wp2
          go_ret
          exact ⟨ret_bool HF.out.symm, rfl⟩
        · have HN := next (by rw [hf, decide_eq_false hp]; rfl)
          clear hf next
          generalize l.getD k 0 = c at *
          rcases Nat.eq_zero_or_pos k with h0 | h0
          · subst h0
            clear hbp hp
            go_wp2_with fail
            refine (Of_any c w).mono ?_
            rintro e w2 ⟨rfl, hw2⟩
            rw [hw2]
            clear hw2 w2
            generalize num c = q at *
            go_wp2
            go_round
            case rel => exact ⟨0 + 1, by omega, by go_num, HN.out⟩
            case measure => simp [intOf]; omega
          · have hpe : ((((l.getD (k - 1) 0)).toNat : Int) == 61) = false := ne61 (fun e => hp ⟨h0, e⟩)
            clear hp
            generalize l.getD (k - 1) 0 = p at *
            go_wp2_with fail
            refine (Of_any c w).mono ?_
            rintro e w2 ⟨rfl, hw2⟩
            rw [hw2]
            clear hw2 w2
            generalize num c = q at *
            go_wp2
            go_round
            case rel => exact ⟨k + 1, by omega, by go_num, HN.out⟩
            case measure => simp [intOf]; omega
      · clear hbp
        by_cases h2 : l.getD k 0 ≠ 61 ∨ k < 2
        · have HF : Hid (allF l = false) := allF_f hlt (fit_no (by omega) (by omega) h2)
          clear next
          rcases h2 with h2 | h2
          · have hne := nne61 h2
            generalize l.getD k 0 = c at *
            go_wp2_with fail
            refine (Of_any c w).mono ?_
            rintro e w2 ⟨rfl, hw2⟩
            rw [hw2]
            clear hw2 w2
            generalize num c = q at *
            go_wp2
            go_ret
            exact ⟨ret_bool HF.out.symm, rfl⟩
          · have h2i : ((k : Nat) : Int) < 2 := by omega
            generalize l.getD k 0 = c at *
            go_wp2_with fail
            refine (Of_any c w).mono ?_
            rintro e w2 ⟨rfl, hw2⟩
            rw [hw2]
            clear hw2 w2
            generalize num c = q at *
            by_cases hc : c = 61
            · subst hc
              go_wp2
              go_ret
              exact ⟨ret_bool HF.out.symm, rfl⟩
            · have hne := nne61 hc
              go_wp2
              go_ret
              exact ⟨ret_bool HF.out.symm, rfl⟩
        · have h61 : l.getD k 0 = 61 := Decidable.byContradiction fun e => h2 (.inl e)
          have h61' : num 61 = -1 := num61
          rcases (show k = 2 ∨ k = 3 by omega) with rfl | rfl
          · have hf := fit_two h61
            have hb1 : ∀ (h : 1 < (str l).size), ((str l)[1]'h) = l.getD 1 0 := fun h => by rw [← at_lt _ 1 h, str_list]
            have n1 : 0 ≤ num (l.getD 1 0) := by
              have := HK.out 1 (by omega)
              by_cases h : 0 ≤ num (l.getD 1 0)
              · exact h
              · rw [fit_no (by omega) (by omega) (.inr (by omega))] at this
                cases this
            rw [h61] at hbk
            clear h61 h2 hn
            by_cases hm : num (l.getD 1 0) % 16 = 0
            · have HN := next (by rw [hf, decide_eq_true hm])
              clear hf next
              generalize l.getD 1 0 = b at *
              go_wp2_with fail
              refine (Of_any 61 w).mono ?_
              rintro e w2 ⟨rfl, hw2⟩
              rw [hw2, h61']
              clear hw2 w2
              go_wp2_with fail
              refine (Of_any b w).mono ?_
              rintro e w2 ⟨rfl, hw2⟩
              rw [hw2]
              clear hw2 w2
              generalize num b = q at *
              go_wp2
              go_round
              case rel => exact ⟨2 + 1, by omega, by go_num, HN.out⟩
              case measure => simp [intOf]; omega
            · have HF : Hid (allF l = false) := allF_f hlt (by rw [hf, decide_eq_false hm])
              have hmn : (num (l.getD 1 0) % 16 != 0) = true := by simpa using hm
              clear hf next
              generalize l.getD 1 0 = b at *
              go_wp2_with fail
              refine (Of_any 61 w).mono ?_
              rintro e w2 ⟨rfl, hw2⟩
              rw [hw2, h61']
              clear hw2 w2
              go_wp2_with fail
              refine (Of_any b w).mono ?_
              rintro e w2 ⟨rfl, hw2⟩
              rw [hw2]
              clear hw2 w2
              generalize num b = q at *
              go_wp2
              go_ret
              exact ⟨ret_bool HF.out.symm, rfl⟩
          · have hf := fit_three h61
            have hb1 : ∀ (h : 2 < (str l).size), ((str l)[2]'h) = l.getD 2 0 := fun h => by rw [← at_lt _ 2 h, str_list]
            rw [h61] at hbk
            clear h61 h2 hn
            by_cases hc : l.getD 2 0 = 61
            · have HN := next (by rw [hf, decide_eq_true (.inl hc)])
              clear hf next
              rw [hc] at hb1
              clear hc
              go_wp2_with fail
              refine (Of_any 61 w).mono ?_
              rintro e w2 ⟨rfl, hw2⟩
              rw [hw2, h61']
              clear hw2 w2
              go_wp2
              go_round
              case rel => exact ⟨3 + 1, by omega, by go_num, HN.out⟩
              case measure => simp [intOf]; omega
            · have n2 : 0 ≤ num (l.getD 2 0) := by
                have := HK.out 2 (by omega)
                by_cases h : 0 ≤ num (l.getD 2 0)
                · exact h
                · rw [fit_no (by omega) (by omega) (.inl hc)] at this
                  cases this
              have hce := ne61 hc
              have hcn := nne61 hc
              by_cases hm : num (l.getD 2 0) % 4 = 0
              · have HN := next (by rw [hf, decide_eq_true (.inr hm)])
                clear hf next hc
                generalize l.getD 2 0 = b at *
                go_wp2_with fail
                refine (Of_any 61 w).mono ?_
                rintro e w2 ⟨rfl, hw2⟩
                rw [hw2, h61']
                clear hw2 w2
                go_wp2_with fail
                refine (Of_any b w).mono ?_
                rintro e w2 ⟨rfl, hw2⟩
                rw [hw2]
                clear hw2 w2
                generalize num b = q at *
                go_wp2
                go_round
                case rel => exact ⟨3 + 1, by omega, by go_num, HN.out⟩
                case measure => simp [intOf]; omega
              · have HF : Hid (allF l = false) := allF_f hlt (by rw [hf, decide_eq_false (fun e => e.elim hc hm)])
                have hmn : (num (l.getD 2 0) % 4 != 0) = true := by simpa using hm
                clear hf next hc
                generalize l.getD 2 0 = b at *
                go_wp2_with fail
                refine (Of_any 61 w).mono ?_
                rintro e w2 ⟨rfl, hw2⟩
                rw [hw2, h61']
                clear hw2 w2
                go_wp2_with fail
                refine (Of_any b w).mono ?_
                rintro e w2 ⟨rfl, hw2⟩
                rw [hw2]
                clear hw2 w2
                generalize num b = q at *
                go_wp2
                go_ret
                exact ⟨ret_bool HF.out.symm, rfl⟩
    · obtain rfl : k = l.length := by omega
      have HF : Hid (allF l = true) := allF_t HK.out
      go_wp2
      go_ret
      exact ⟨ret_bool HF.out.symm, rfl⟩

end Bs
end Go.Proofs.YtcnjnlmjgbmjnabDoor
