/-
  AcceptThousandths.
-/
import Derived.Test.YthaokkdcebmcpaaDoorAQw
set_option linter.unusedVariables false
set_option linter.unusedSimpArgs false
namespace Go.Proofs.YthaokkdcebmcpaaDoor
open Go.RowKit Go.Shelf
namespace Ac
open Oc Tg

/-- The table of tens lies too. -/
def Env3 (w : World) : Prop := Env w ∧ Pow w
theorem Env3.below {w w' : World} (h : Env3 w) (hb : Below w.heap.size w w') : Env3 w' := ⟨h.1.below hb, h.2.below hb (Nat.le_refl _)⟩

set_option maxRecDepth 100000 in
set_option maxHeartbeats 1000000 in
theorem walk_AcceptThousandths (q : Int) (hi : (Lit.int .i64 q).wf = true) (w : World) (hw : Env3 w) :
    Calls Tryd.prog 6 #[.int .i64 q] w fun e w' => e = .returned (.bool true) ∧ Below w.heap.size w w' := by
  have HE : Hid (Env3 w) := hw
  clear hw
  by_cases hr : q < 0 ∨ 1000 < q
  · have A : Hid (∀ w, _) := fun w => PrintQuality_bad q hr w
    have B : Hid (∀ w, _) := fun w => rPrintQuality_bad q hr w
    have hp : decide (q < 0) = true ∨ (decide (q < 0) = false ∧ decide ((1000 : Int) < q) = true) := by
      by_cases h : q < 0
      · left; exact decide_eq_true h
      · right; exact ⟨decide_eq_false h, decide_eq_true (by omega)⟩
    rcases hp with d | ⟨d, d2⟩
    all_goals
      go_enter Tryd.func6, Tryd.ntmps6
      go_wp2_with fail
      refine (A.out _).mono ?_
      rintro e w2 ⟨rfl, rfl⟩
      go_wp2_with fail
      refine (B.out _).mono ?_
      rintro e w3 ⟨rfl, rfl⟩
      go_wp2_with fail
      refine (awake_any _ HE.out.1).mono ?_
      rintro e w4 ⟨rfl, hb4⟩
      go_wp2
      go_ret
      exact ⟨rfl, hb4⟩
  · obtain ⟨n, rfl⟩ : ∃ n : Nat, q = (n : Int) := ⟨q.toNat, by omega⟩
    have hn : n ≤ 1000 := by omega
    obtain ⟨f1, f2, f3, _, _, f5⟩ := pq_facts n hn
    have A : Hid (∀ w, Pow w → Calls Tryd.prog 18 #[.int .i64 (n : Int)] w fun e w' => e = .returned (.tuple #[.string (str (pq n)), .int .i64 0]) ∧ Below w.heap.size w w') := fun w h => PrintQuality_any n hn w h
    have B : Hid (∀ w, Calls Tryd.prog 19 #[.int .i64 (n : Int)] w fun e w' => e = .returned (.tuple #[.string (str (pq n)), .int .i64 0]) ∧ Below w.heap.size w w') := fun w => rPrintQuality_any n hn w
    have Q1 : Hid (∀ w, ML w → Calls Tryd.prog 16 #[.string (str (pq n))] w fun e w' => e = .returned (.tuple #[.int .i64 (n : Int), .int .i64 0]) ∧ Below w.heap.size w w') := fun w h => by
      have := Quality_any (str (pq n)) (by rw [str_size]; omega) w h
      rw [str_list, f1] at this
      exact this
    have hx : (str (pq n)).extract 0 ((pq n).length - 1) = str ((pq n).take ((pq n).length - 1)) := by
      apply eq_list
      rw [str_list]
      simp [str, List.dropLast_eq_take]
    have Q2 : Hid (∀ w, ML w → Calls Tryd.prog 16 #[.string ((str (pq n)).extract 0 ((pq n).length - 1))] w fun e w' => e = .returned (.tuple #[.int .i64 (qual ((pq n).take ((pq n).length - 1))).1, .int .i64 (qual ((pq n).take ((pq n).length - 1))).2]) ∧ Below w.heap.size w w') := fun w h => by
      have := Quality_any (str ((pq n).take ((pq n).length - 1))) (by rw [str_size, List.length_take]; omega) w h
      rw [str_list] at this
      rw [hx]
      exact this
    have hq : ((qual ((pq n).take ((pq n).length - 1))).2 != 0) = true ∨ (((qual ((pq n).take ((pq n).length - 1))).2 != 0) = false ∧ ((qual ((pq n).take ((pq n).length - 1))).1 != (n : Int)) = true) := by
      by_cases h2 : (qual ((pq n).take ((pq n).length - 1))).2 = 0
      · right
        refine ⟨by simp [h2], ?_⟩
        rw [bne_iff_ne]
        intro h1
        exact f3 (Prod.ext h1 h2)
      · left; simp [h2]
    have hz : (str (pq n)).size = (pq n).length := str_size _
    have hp0 : 0 < (pq n).length := List.length_pos_iff.2 f2
    have he : (str (pq n)).toList.isEmpty = false := by rw [str_empty]; simp [f2]
    have hnn : ((n : Int) != (n : Int)) = false := by simp
    have hss : ((str (pq n)).toList != (str (pq n)).toList) = false := by simp
    clear f1 f2 f3 hx
    generalize (qual ((pq n).take ((pq n).length - 1))).1 = r1 at *
    generalize (qual ((pq n).take ((pq n).length - 1))).2 = r2 at *
    generalize (pq n).length = L at *
    generalize str (pq n) = S at *
    have hsub : (S.size : Int) - 1 = ((L - 1 : Nat) : Int) := by omega
    rcases hq with d | ⟨d, d2⟩
    all_goals
      go_enter Tryd.func6, Tryd.ntmps6
      go_wp2_with fail
      refine (A.out _ HE.out.2).mono ?_
      rintro e w2 ⟨rfl, hb2⟩
      have HE2 : Hid (Env3 w2) := HE.out.below hb2
      have HB2 : Hid (Below w.heap.size w w2) := hb2
      clear hb2
      go_wp2_with fail
      refine (B.out _).mono ?_
      rintro e w3 ⟨rfl, hb3⟩
      have HE3 : Hid (Env3 w3) := HE2.out.below hb3
      have HB3 : Hid (Below w.heap.size w w3) := bel_trans HB2.out hb3
      clear hb3
      go_wp2_with fail
      refine (awake_any _ HE3.out.1).mono ?_
      rintro e w4 ⟨rfl, hb4⟩
      have HE4 : Hid (Env3 w4) := HE3.out.below hb4
      have HB4 : Hid (Below w.heap.size w w4) := bel_trans HB3.out hb4
      clear hb4
      go_wp2_with fail
      refine (Q1.out _ HE4.out.1.2).mono ?_
      rintro e w5 ⟨rfl, hb5⟩
      have HE5 : Hid (Env3 w5) := HE4.out.below hb5
      have HB5 : Hid (Below w.heap.size w w5) := bel_trans HB4.out hb5
      clear hb5
      go_wp2_with fail
      refine (Q2.out _ HE5.out.1.2).mono ?_
      rintro e w6 ⟨rfl, hb6⟩
      have HB6 : Hid (Below w.heap.size w w6) := bel_trans HB5.out hb6
      clear hb6
      go_wp2
      go_ret
      exact ⟨rfl, HB6.out⟩

end Ac
end Go.Proofs.YthaokkdcebmcpaaDoor
