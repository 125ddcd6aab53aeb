/-
  The walk of BaseSums, from the contract of the reference's Sha1.
-/
import Derived.Test.YtcnjnlmjgbmjnabRSha0
import Derived.Test.YtcnjnlmjgbmjnabBFnv
set_option linter.unusedVariables false
set_option linter.unusedSimpArgs false
namespace Go.Proofs.Ytcnjnlmjgbmjnab
open Go.RowKit
namespace Bs

set_option maxRecDepth 100000 in
set_option maxHeartbeats 1000000 in
theorem walk_BaseSums' (CS : Hid (∀ (l : List UInt8) (hl : l.length ≤ 140737488355000) (w : World), Calls Try.prog 10 #[.string (str l)] w fun e w' => e = .returned (.string (str (shaR l))) ∧ Below w.heap.size w w')) (l : List UInt8) (w : World) (hl : l.length ≤ 140737488351232) :
    Calls Try.prog 3 #[.string (str l)] w fun e w' => e = .returned (.bool true) ∧ Below w.heap.size w w' := by
  go_enter Try.func3, Try.ntmps3
  go_wp2_with fail
  refine (awake_any w).mono ?_
  rintro e w2 ⟨rfl, hb2⟩
  have HB2 : Hid (Below w.heap.size w w2) := hb2
  clear hb2
  go_wp2_with fail
  refine (Fnv_any l (by omega) w2).mono ?_
  rintro e w3 ⟨rfl, rfl⟩
  go_wp2_with fail
  refine (rFnv_any l (by omega) w3).mono ?_
  rintro e w4 ⟨rfl, rfl⟩
  go_wp2_with fail
  refine (Sha1_any l (by omega) w4).mono ?_
  rintro e w5 ⟨rfl, hb5⟩
  have HB5 : Hid (Below w.heap.size w w5) := bel_trans' HB2.out hb5
  clear hb5
  go_wp2_with fail
  refine (CS.out l (by omega) w5).mono ?_
  rintro e w6 ⟨rfl, hb6⟩
  have HB6 : Hid (Below w.heap.size w w6) := bel_trans' HB5.out hb6
  clear hb6
  go_wp2
  go_ret
  exact ⟨rfl, HB6.out⟩

end Bs
end Go.Proofs.Ytcnjnlmjgbmjnab
