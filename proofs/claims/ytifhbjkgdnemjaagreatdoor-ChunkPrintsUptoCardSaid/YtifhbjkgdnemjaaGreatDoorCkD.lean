/-
  chunk.isHeadsAlone, MayTrail.
-/
import Derived.Test.YtifhbjkgdnemjaaGreatDoorCkB
import Derived.Test.YtifhbjkgdnemjaaGreatDoorFLn
import Derived.Test.YtifhbjkgdnemjaaGreatDoorFW
set_option linter.unusedVariables false
set_option linter.unusedSimpArgs false
set_option maxRecDepth 100000
namespace Go.Proofs.YtifhbjkgdnemjaaGreatDoor
open Go.RowKit Go.Shelf Go.Lib
namespace Ck
open Oc Tg _root_.Go.Proofs.YtifhbjkgdnemjaaGreatDoor.Fd

theorem eq_lit (l k : List UInt8) : ((str l).toList == k) = decide (l = k) := by
  rw [Lib.toList_data, str_list, Bool.eq_iff_iff, beq_iff_eq, decide_eq_true_iff]
theorem ne_lit {l k : List UInt8} (h : l ≠ k) : ((str l).toList == k) = false := by rw [eq_lit, decide_eq_false h]

set_option maxHeartbeats 2000000 in
theorem isHeadsAlone_any (l : List UInt8) (w : World) :
    Calls Tryz.prog 64 #[.string (str l)] w fun e w' => e = .returned (.bool (heads.contains l)) ∧ w' = w := by
  by_cases h : l ∈ heads
  · have hc : heads.contains l = true := by simpa using h
    rw [hc]
    unfold heads at h
    simp only [List.mem_cons, List.not_mem_nil, or_false] at h
    clear hc
    rcases h with rfl | rfl | rfl | rfl | rfl | rfl | rfl | rfl | rfl | rfl | rfl | rfl
    all_goals
      unfold str
      go_enter Tryz.func64, Tryz.ntmps64
      go_wp2
      go_ret
      exact ⟨rfl, rfl⟩
  · have hc : heads.contains l = false := by simpa using h
    rw [hc]
    unfold heads at h
    simp only [List.mem_cons, List.not_mem_nil, or_false, not_or] at h
    obtain ⟨h1, h2, h3, h4, h5, h6, h7, h8, h9, h10, h11, h12⟩ := h
    replace h1 := ne_lit h1
    replace h2 := ne_lit h2
    replace h3 := ne_lit h3
    replace h4 := ne_lit h4
    replace h5 := ne_lit h5
    replace h6 := ne_lit h6
    replace h7 := ne_lit h7
    replace h8 := ne_lit h8
    replace h9 := ne_lit h9
    replace h10 := ne_lit h10
    replace h11 := ne_lit h11
    replace h12 := ne_lit h12
    clear hc
    generalize str l = X at *
    go_enter Tryz.func64, Tryz.ntmps64
    go_wp2
    go_ret
    exact ⟨rfl, rfl⟩

set_option maxHeartbeats 1000000 in
theorem MayTrail_any (l : List UInt8) (hl : l.length ≤ maxLen) (w : World) (t : Tab w) :
    Calls Tryz.prog 47 #[.string (str l)] w fun e w' => e = .returned (.bool (trails l)) ∧ Below w.heap.size w w' := by
  have HN : Hid (Calls Tryz.prog 63 #[.string (str l)] w fun e w' => e = .returned (.bool (isName l)) ∧ Below w.heap.size w w') := by
    have h := IsName_any (str l) (by rw [str_size]; exact hl) w t
    rw [str_list] at h
    exact h
  have HL : Hid (∀ w, Calls Tryz.prog 65 #[.string (str l)] w fun e w' => e = .returned (.string (str (lower l))) ∧ Below w.heap.size w w') := fun w => by
    have h := Lower_any (str l) (by rw [str_size]; exact hl) w
    unfold lowS at h
    rw [str_list] at h
    exact h
  have HH : Hid (∀ w, Calls Tryz.prog 64 #[.string (str (lower l))] w fun e w' => e = .returned (.bool (heads.contains (lower l))) ∧ w' = w) := fun w => isHeadsAlone_any _ w
  unfold trails
  generalize isName l = b at *
  generalize heads.contains (lower l) = c at *
  generalize str (lower l) = M at *
  generalize str l = X at *
  clear hl t
  cases b with
  | false =>
    go_enter Tryz.func47, Tryz.ntmps47
    go_wp2_with fail
    refine HN.out.mono ?_
    rintro e w1 ⟨rfl, hb1⟩
    go_wp2
    go_ret
    exact ⟨ret_bool (by simp), hb1⟩
  | true =>
    go_enter Tryz.func47, Tryz.ntmps47
    go_wp2_with fail
    refine HN.out.mono ?_
    rintro e w1 ⟨rfl, hb1⟩
    have HB1 : Hid (Below w.heap.size w w1) := hb1
    clear hb1
    go_wp2_with fail
    refine (HL.out _).mono ?_
    rintro e w2 ⟨rfl, hb2⟩
    have HB2 : Hid (Below w.heap.size w w2) := bel_trans HB1.out hb2
    clear hb2
    go_wp2_with fail
    refine (HH.out _).mono ?_
    rintro e w3 ⟨rfl, hw⟩
    rw [hw]
    go_wp2
    go_ret
    exact ⟨ret_bool (by simp), HB2.out⟩

end Ck
end Go.Proofs.YtifhbjkgdnemjaaGreatDoor
