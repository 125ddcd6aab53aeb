/-
  FieldWords.
-/
import Derived.Test.YtojahhmdfbfnfaaDoorFFd
import Derived.Test.YtojahhmdfbfnfaaDoorFCan
set_option linter.unusedVariables false
set_option linter.unusedSimpArgs false
namespace Go.Proofs.YtojahhmdfbfnfaaDoor
open Go.RowKit Go.Shelf
namespace Fd
open Oc Tg

set_option maxRecDepth 100000 in
set_option maxHeartbeats 2000000 in
theorem walk_FieldWords (s : ByteArray) (hs : s.size ≤ maxLen) (w : World) (hw : Env w) :
    Calls Tryd.prog 3 #[.string s] w fun e w' => e = .returned (.bool true) ∧ Below w.heap.size w w' := by
  have HA : Hid (Calls _ _ _ _ _) := awake_any w hw
  have H1 : Hid (∀ w, Tab w → Calls Tryd.prog 10 #[.string s] w fun e w' => e = .returned (.bool (isName s.data.toList)) ∧ Below w.heap.size w w') := fun w t => IsName_any s hs w t
  have H2 : Hid (∀ w, Calls Tryd.prog 11 #[.string s] w fun e w' => e = .returned (.bool (isName s.data.toList)) ∧ w' = w) := fun w => rIsName_any s hs w
  have H3 : Hid (∀ w, Calls Tryd.prog 12 #[.string s] w fun e w' => e = .returned (.bool (isValue s.data.toList)) ∧ Below w.heap.size w w') := fun w => IsValue_any s hs w
  have H4 : Hid (∀ w, Calls Tryd.prog 13 #[.string s] w fun e w' => e = .returned (.bool (isValue s.data.toList)) ∧ w' = w) := fun w => rIsValue_any s hs w
  have H5 : Hid (∀ w, Calls Tryd.prog 14 #[.string s] w fun e w' => e = .returned (.string (canonS s)) ∧ Below w.heap.size w w') := fun w => Canon_any s hs w
  have H6 : Hid (∀ w, Calls Tryd.prog 15 #[.string s] w fun e w' => e = .returned (.string (canonS s)) ∧ Below w.heap.size w w') := fun w => rCanon_any s hs w
  have HE : Hid (Env w) := hw
  clear hw hs
  generalize isName s.data.toList = b1 at *
  generalize isValue s.data.toList = b2 at *
  generalize canonS s = c at *
  have e1 : (b1 == b1) = true := by simp
  have e2 : (b2 == b2) = true := by simp
  have e3 : (c.toList == c.toList) = true := by simp
  go_enter Tryd.func3, Tryd.ntmps3
  go_wp2_with fail
  refine HA.out.mono ?_
  rintro e w1 ⟨rfl, hb⟩
  have HB1 : Hid (Below w.heap.size w w1) := hb
  clear hb
  go_wp2_with fail
  refine (H1.out _ (HE.out.below HB1.out).1).mono ?_
  rintro e w2 ⟨rfl, hb⟩
  have HB2 : Hid (Below w.heap.size w w2) := bel_trans HB1.out hb
  clear hb
  go_wp2_with fail
  refine (H2.out _).mono ?_
  rintro e w3 ⟨rfl, rfl⟩
  go_wp2_with fail
  refine (H3.out _).mono ?_
  rintro e w4 ⟨rfl, hb⟩
  have HB4 : Hid (Below w.heap.size w w4) := bel_trans HB2.out hb
  clear hb
  go_wp2_with fail
  refine (H4.out _).mono ?_
  rintro e w5 ⟨rfl, rfl⟩
  go_wp2_with fail
  refine (H5.out _).mono ?_
  rintro e w6 ⟨rfl, hb⟩
  have HB6 : Hid (Below w.heap.size w w6) := bel_trans HB4.out hb
  clear hb
  go_wp2_with fail
  refine (H6.out _).mono ?_
  rintro e w7 ⟨rfl, hb⟩
  have HB7 : Hid (Below w.heap.size w w7) := bel_trans HB6.out hb
  clear hb
  go_wp2
  go_ret
  exact ⟨rfl, HB7.out⟩

end Fd
end Go.Proofs.YtojahhmdfbfnfaaDoor
