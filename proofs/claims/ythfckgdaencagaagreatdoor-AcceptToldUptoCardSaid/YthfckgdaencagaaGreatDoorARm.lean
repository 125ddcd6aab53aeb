/-
  The document's parts, valued, Parse.
-/
import Derived.Test.YthfckgdaencagaaGreatDoorAMe
import Derived.Test.YthfckgdaencagaaGreatDoorMgP
import Derived.Test.YthfckgdaencagaaGreatDoorMgB1
set_option linter.unusedVariables false
set_option linter.unusedSimpArgs false
namespace Go.Proofs.YthfckgdaencagaaGreatDoor
open Go.RowKit Go.Shelf
namespace Ac
open Oc Tg

set_option maxRecDepth 100000 in
set_option maxHeartbeats 1000000 in
theorem valued_any (v : Value) (t : List Prm) (w : World) (h : RdP v t w) (hl : t.length ≤ 4294967296) :
    Calls Tryz.prog 16 #[v] w fun e w' => e = .returned (.bool (!t.any noVal)) ∧ w' = w := by
  obtain ⟨a1, c1, rfl, h1⟩ := h
  go_enter Tryz.func16, Tryz.ntmps16
  go_wp2
  go_loop [3] (fun i => ∃ k : Nat, k ≤ t.length ∧ i = .int .i64 k ∧ Hid (∀ j, j < k → noVal (nth t j) = false)) (fun i => t.length - (intOf i).toNat)
  case atStart => exact ⟨0, Nat.zero_le _, rfl, (fun j hj => by omega : ∀ j, j < 0 → _)⟩
  case round =>
    obtain ⟨k, hk, rfl, hall⟩ := hrel
    by_cases hlt : k < t.length
    · rcases h1 with h | ⟨g1, o1, rfl, hc1, hcell1⟩
      · rw [h] at hlt; simp at hlt
      obtain ⟨_, _, p2⟩ := hcell1 k hlt
      clear hcell1
      have HT : (nth t k).2.2 = false → Hid ((!t.any noVal) = false) := fun h => (by
        have : t.any noVal = true := by
          rw [← idxB_any, idxB_at hlt (by unfold noVal; rw [h]; rfl) hall.out]
          exact decide_eq_true (by omega)
        rw [this]; rfl : (!t.any noVal) = false)
      have HF : (nth t k).2.2 = true → Hid (∀ j, j < k + 1 → noVal (nth t j) = false) := fun h j hj => by
        by_cases hjk : j = k
        · subst hjk; unfold noVal; rw [h]; rfl
        · exact hall.out j (by omega)
      generalize (nth t k).2.2 = z at *
      cases z with
      | true =>
        have HF2 := HF rfl
        go_wp2
        go_round
        case rel => exact ⟨k + 1, by omega, by go_num, HF2⟩
        case measure => simp [intOf]; omega
      | false =>
        have HT2 := HT rfl
        go_wp2
        go_ret
        exact ⟨ret_bool HT2.out.symm, rfl⟩
    · have HE : Hid ((!t.any noVal) = true) := by
        show _ = _
        have : t.any noVal = false := by
          rw [← idxB_any, idxB_none (fun j hj => hall.out j (by omega))]
          rfl
        rw [this]; rfl
      go_wp2
      go_ret
      exact ⟨ret_bool HE.out.symm, rfl⟩

end Ac
end Go.Proofs.YthfckgdaencagaaGreatDoor
