/-
  The walk of BaseEncodes.
-/
import Derived.Test.YtcnjnlmjgbmjnaaREnc
import Derived.Test.YtcnjnlmjgbmjnaaBAwake
set_option linter.unusedVariables false
set_option linter.unusedSimpArgs false
namespace Go.Proofs.Ytcnjnlmjgbmjnaa
open Go.RowKit
namespace Bs

set_option maxRecDepth 100000 in
set_option maxHeartbeats 1000000 in
theorem walk_BaseEncodes (l : List UInt8) (w : World) (hl : l.length ≤ 1048576) :
    Calls Try.prog 3 #[.string (str l)] w fun e w' => e = .returned (.bool true) ∧ Below w.heap.size w w' := by
  have C1 : Hid (∀ w, Calls Try.prog 6 #[.string (str l)] w fun e w' => e = .returned (.string (str (enc l))) ∧ Below w.heap.size w w') := fun w => Encode_any l (by omega) w
  have C2 : Hid (∀ w, Calls Try.prog 7 #[.string (str l)] w fun e w' => e = .returned (.string (str (enc l))) ∧ Below w.heap.size w w') := fun w => rEncode_any l (by omega) w
  have C3 : Hid (∀ w, Calls Try.prog 8 #[.string (str l)] w fun e w' => e = .returned (.string (str (hexL l))) ∧ Below w.heap.size w w') := fun w => Hex_any l (by omega) w
  have C4 : Hid (∀ w, Calls Try.prog 9 #[.string (str l)] w fun e w' => e = .returned (.string (str (hexL l))) ∧ Below w.heap.size w w') := fun w => rHex_any l (by omega) w
  generalize enc l = x at *
  generalize hexL l = y at *
  go_enter Try.func3, Try.ntmps3
  go_wp2_with fail
  refine (awake_any w).mono ?_
  rintro e w2 ⟨rfl, hb2⟩
  have HB2 : Hid (Below w.heap.size w w2) := hb2
  clear hb2
  go_wp2_with fail
  refine (C1.out w2).mono ?_
  rintro e w3 ⟨rfl, hb3⟩
  have HB3 : Hid (Below w.heap.size w w3) := bel_trans' HB2.out hb3
  clear hb3
  go_wp2_with fail
  refine (C2.out w3).mono ?_
  rintro e w4 ⟨rfl, hb4⟩
  have HB4 : Hid (Below w.heap.size w w4) := bel_trans' HB3.out hb4
  clear hb4
  go_wp2_with fail
  refine (C3.out w4).mono ?_
  rintro e w5 ⟨rfl, hb5⟩
  have HB5 : Hid (Below w.heap.size w w5) := bel_trans' HB4.out hb5
  clear hb5
  go_wp2_with fail
  refine (C4.out w5).mono ?_
  rintro e w6 ⟨rfl, hb6⟩
  go_wp2
  go_ret
  exact ⟨rfl, bel_trans' HB5.out hb6⟩

end Bs
end Go.Proofs.Ytcnjnlmjgbmjnaa
