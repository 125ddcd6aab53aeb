/-
  The walk of BaseBack.
-/
import Derived.Test.YtcnjnlmjgbmjnaaDoorBDec2
import Derived.Test.YtcnjnlmjgbmjnaaDoorBUnhex
import Derived.Test.YtcnjnlmjgbmjnaaDoorBAwake
set_option linter.unusedVariables false
set_option linter.unusedSimpArgs false
namespace Go.Proofs.YtcnjnlmjgbmjnaaDoor
open Go.RowKit
namespace Bs

set_option maxRecDepth 100000 in
set_option maxHeartbeats 1000000 in
theorem walk_BaseBack (l : List UInt8) (w : World) (hl : l.length ≤ 1048576) :
    Calls Tryd.prog 4 #[.string (str l)] w fun e w' => e = .returned (.bool true) ∧ Below w.heap.size w w' := by
  have HE : Hid (decR (enc l) = (l, 0, 0)) := decR_ok (dec_enc l)
  have HU : Hid (unhexR (hexL l) = (l, 0, 0)) := unhexR_back l
  have HEl : Hid ((enc l).length ≤ 140737488355328) := (by rw [enc_len]; omega : (enc l).length ≤ 140737488355328)
  have HHl : Hid ((hexL l).length ≤ 140737488355328) := (by rw [hexL_length]; omega : (hexL l).length ≤ 140737488355328)
  go_enter Tryd.func4, Tryd.ntmps4
  go_wp2_with fail
  refine (Encode_any l (by omega) w).mono ?_
  rintro e w2 ⟨rfl, hb2⟩
  have HB2 : Hid (Below w.heap.size w w2) := hb2
  clear hb2
  generalize enc l = x at *
  go_wp2_with fail
  refine (Decode_any x HEl.out w2).mono ?_
  rintro e w3 ⟨rfl, hb3⟩
  have HB3 : Hid (Below w.heap.size w w3) := bel_trans' HB2.out hb3
  clear hb3
  rw [HE.out]
  go_wp2_with fail
  refine (Hex_any l (by omega) w3).mono ?_
  rintro e w4 ⟨rfl, hb4⟩
  have HB4 : Hid (Below w.heap.size w w4) := bel_trans' HB3.out hb4
  clear hb4
  generalize hexL l = y at *
  go_wp2_with fail
  refine (Unhex_any y HHl.out w4).mono ?_
  rintro e w5 ⟨rfl, hb5⟩
  have HB5 : Hid (Below w.heap.size w w5) := bel_trans' HB4.out hb5
  clear hb5
  rw [HU.out]
  go_wp2_with fail
  refine (awake_any w5).mono ?_
  rintro e w6 ⟨rfl, hb6⟩
  have HB6 : Hid (Below w.heap.size w w6) := bel_trans' HB5.out hb6
  clear hb6
  go_wp2
  go_ret
  exact ⟨rfl, HB6.out⟩

end Bs
end Go.Proofs.YtcnjnlmjgbmjnaaDoor
