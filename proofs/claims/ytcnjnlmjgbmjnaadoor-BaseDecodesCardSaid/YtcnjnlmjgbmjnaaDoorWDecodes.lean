/-
  The walk of BaseDecodes.
-/
import Derived.Test.YtcnjnlmjgbmjnaaDoorRDec2
import Derived.Test.YtcnjnlmjgbmjnaaDoorBAwake
set_option linter.unusedVariables false
set_option linter.unusedSimpArgs false
namespace Go.Proofs.YtcnjnlmjgbmjnaaDoor
open Go.RowKit
namespace Bs

theorem decR_form (l : List UInt8) : ∃ (x : List UInt8) (i e : Int), decR l = (x, i, e) := ⟨_, _, _, rfl⟩

set_option maxRecDepth 100000 in
set_option maxHeartbeats 1000000 in
theorem walk_BaseDecodes (l : List UInt8) (w : World) (hl : l.length ≤ 140737488351232) :
    Calls Tryd.prog 3 #[.string (str l)] w fun e w' => e = .returned (.bool true) ∧ Below w.heap.size w w' := by
  obtain ⟨x, i, e, hd⟩ := decR_form l
  have HD : Hid (decR l = (x, i, e)) := hd
  clear hd
  go_enter Tryd.func3, Tryd.ntmps3
  go_wp2_with fail
  refine (Decode_any l (by omega) w).mono ?_
  rintro e w2 ⟨rfl, hb2⟩
  have HB2 : Hid (Below w.heap.size w w2) := hb2
  clear hb2
  rw [HD.out]
  go_wp2_with fail
  refine (rDecode_any l (by omega) w2).mono ?_
  rintro e w3 ⟨rfl, hb3⟩
  have HB3 : Hid (Below w.heap.size w w3) := bel_trans' HB2.out hb3
  clear hb3
  rw [HD.out]
  go_wp2_with fail
  refine (awake_any w3).mono ?_
  rintro e w6 ⟨rfl, hb6⟩
  have HB6 : Hid (Below w.heap.size w w6) := bel_trans' HB3.out hb6
  clear hb6
  go_wp2
  go_ret
  exact ⟨rfl, HB6.out⟩

end Bs
end Go.Proofs.YtcnjnlmjgbmjnaaDoor
