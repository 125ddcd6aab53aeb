/-
  The law's own awake.
-/
import Derived.Test.YtcnjnlmjgbmjnabDoorBEnc2
set_option linter.unusedVariables false
set_option linter.unusedSimpArgs false
namespace Go.Proofs.YtcnjnlmjgbmjnabDoor
open Go.RowKit
namespace Bs

theorem bel_trans' {a b c : World} (h : Below a.heap.size a b) (k : Below b.heap.size b c) : Below a.heap.size a c := h.trans (k.mono h.size)

set_option maxRecDepth 100000 in
set_option maxHeartbeats 1000000 in
theorem awake_any (w : World) : Calls Tryd.prog 7 #[] w fun e w' => e = .returned (.bool true) ∧ Below w.heap.size w w' := by
  go_enter Tryd.func7, Tryd.ntmps7
  go_wp2_with fail
  refine (Encode_any [102] (by simp) w).mono ?_
  rintro e w2 ⟨rfl, hb⟩
  have e1 : str (enc [102]) = ⟨#[90, 103, 61, 61]⟩ := rfl
  rw [e1]
  go_wp2_with fail
  refine (Hex_any [0, 254] (by simp) w2).mono ?_
  rintro e w3 ⟨rfl, hb3⟩
  have e2 : str (hexL [0, 254]) = ⟨#[48, 48, 102, 101]⟩ := rfl
  rw [e2]
  go_wp2
  go_ret
  exact ⟨rfl, bel_trans' hb hb3⟩

end Bs
end Go.Proofs.YtcnjnlmjgbmjnabDoor
