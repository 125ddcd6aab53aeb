/-
  The walk of BaseUnhex.
-/
import Derived.Test.YtcnjnlmjgbmjnaaRHex
import Derived.Test.YtcnjnlmjgbmjnaaBAwake
set_option linter.unusedVariables false
set_option linter.unusedSimpArgs false
namespace Go.Proofs.Ytcnjnlmjgbmjnaa
open Go.RowKit
namespace Bs

theorem unhexR_form (l : List UInt8) : ∃ (x : List UInt8) (i e : Int), unhexR l = (x, i, e) := ⟨_, _, _, rfl⟩

set_option maxRecDepth 100000 in
set_option maxHeartbeats 1000000 in
theorem walk_BaseUnhex (l : List UInt8) (w : World) (hl : l.length ≤ 140737488351232) :
    Calls Try.prog 4 #[.string (str l)] w fun e w' => e = .returned (.bool true) ∧ Below w.heap.size w w' := by
  obtain ⟨x, i, e, hd⟩ := unhexR_form l
  have HD : Hid (unhexR l = (x, i, e)) := hd
  clear hd
  go_enter Try.func4, Try.ntmps4
  go_wp2_with fail
  refine (Unhex_any l (by omega) w).mono ?_
  rintro e w2 ⟨rfl, hb2⟩
  have HB2 : Hid (Below w.heap.size w w2) := hb2
  clear hb2
  rw [HD.out]
  go_wp2_with fail
  refine (rUnhex_any l (by omega) w2).mono ?_
  rintro e w3 ⟨rfl, hb3⟩
  have HB3 : Hid (Below w.heap.size w w3) := bel_trans' HB2.out hb3
  clear hb3
  rw [HD.out]
  go_wp2_with fail
  refine (awake_any w3).mono ?_
  rintro e w6 ⟨rfl, hb6⟩
  have HB6 : Hid (Below w.heap.size w w6) := bel_trans' HB3.out hb6
  clear hb6
  go_wp2
  go_ret
  exact ⟨rfl, HB6.out⟩

end Bs
end Go.Proofs.Ytcnjnlmjgbmjnaa
