/-
  AcceptQualities.
-/
import Derived.Test.YthaokkdcebmcpaaDoorAAw
import Derived.Test.YthaokkdcebmcpaaDoorARq
set_option linter.unusedVariables false
set_option linter.unusedSimpArgs false
namespace Go.Proofs.YthaokkdcebmcpaaDoor
open Go.RowKit Go.Shelf
namespace Ac
open Oc Tg

set_option maxRecDepth 100000 in
set_option maxHeartbeats 1000000 in
theorem walk_AcceptQualities (s : ByteArray) (hs : s.size ≤ 1048576) (w : World) (hw : Env w) :
    Calls Tryd.prog 5 #[.string s] w fun e w' => e = .returned (.bool true) ∧ Below w.heap.size w w' := by
  have HQ : Hid (∀ w, ML w → Calls Tryd.prog 16 #[.string s] w fun e w' => e = .returned (.tuple #[.int .i64 (qual s.data.toList).1, .int .i64 (qual s.data.toList).2]) ∧ Below w.heap.size w w') := fun w h => Quality_any s (by omega) w h
  have HR : Hid (∀ w, Calls Tryd.prog 17 #[.string s] w fun e w' => e = .returned (.tuple #[.int .i64 (qual s.data.toList).1, .int .i64 (qual s.data.toList).2]) ∧ w' = w) := fun w => rQuality_any s (by unfold maxLen; omega) w
  have HE : Hid (Env w) := hw
  clear hw
  generalize (qual s.data.toList).1 = q1 at *
  generalize (qual s.data.toList).2 = q2 at *
  have e1 : (q1 == q1) = true := by simp
  have e2 : (q2 == q2) = true := by simp
  go_enter Tryd.func5, Tryd.ntmps5
  go_wp2_with fail
  refine (HQ.out _ HE.out.2).mono ?_
  rintro e w2 ⟨rfl, hb2⟩
  have HB2 : Hid (Below w.heap.size w w2) := hb2
  clear hb2
  go_wp2_with fail
  refine (HR.out _).mono ?_
  rintro e w3 ⟨rfl, rfl⟩
  go_wp2_with fail
  refine (awake_any _ (HE.out.below HB2.out)).mono ?_
  rintro e w4 ⟨rfl, hb4⟩
  have HB4 : Hid (Below w.heap.size w w4) := bel_trans HB2.out hb4
  clear hb4
  go_wp2
  go_ret
  exact ⟨rfl, HB4.out⟩

end Ac
end Go.Proofs.YthaokkdcebmcpaaDoor
