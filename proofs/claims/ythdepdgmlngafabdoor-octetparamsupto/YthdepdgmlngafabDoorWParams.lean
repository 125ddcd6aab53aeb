/-
  A walk of a law.
-/
import Derived.Test.YthdepdgmlngafabDoorRPrm2
import Derived.Test.YthdepdgmlngafabDoorAlike
import Derived.OpenShut
set_option linter.unusedVariables false
set_option linter.unusedSimpArgs false
namespace Go.Proofs.YthdepdgmlngafabDoor.octetParamsUpto
open Go.RowKit
open Go.Proofs.YthdepdgmlngafabDoor.Oc

set_option maxRecDepth 100000 in
set_option maxHeartbeats 1000000 in
theorem walk (a0 : ByteArray) (w0 : a0.size ≤ 1048576) (w : World) (t : Tab w) :
    Calls Tryd.prog 6 #[.string a0] w fun e w' => e = .returned (.bool true) ∧ Below w.heap.size w w' := by
  have HT : Hid (Tab w) := t
  clear t
  have HL := paramsR_short a0.data.toList
  rw [size_list] at HL
  have HL1 : Hid ((paramsR a0.data.toList).1.length ≤ 4294967296) := (by omega : (paramsR a0.data.toList).1.length ≤ 4294967296)
  clear HL
  go_enter Tryd.func6, Tryd.ntmps6
  go_wp2_with fail
  refine (Params_any a0 (by omega) _ HT.out).mono ?_
  rintro e w2 ⟨v2, rfl, ho2, hb2⟩
  have R2 : Hid (RdP v2 (paramsR a0.data.toList).1 w2) := ho2.rd
  have HB2 : Hid (Below w.heap.size w w2) := hb2
  clear ho2 hb2
  go_wp2_with fail
  refine (rParams_any a0 (by omega) _).mono ?_
  rintro e w3 ⟨v3, rfl, ho3, hb3⟩
  have R3 : Hid (RdP v3 (paramsR a0.data.toList).1 w3) := ho3.rd
  have R2b : Hid (RdP v2 (paramsR a0.data.toList).1 w3) := R2.out.below hb3
  have HB3 : Hid (Below w.heap.size w w3) := bel_trans HB2.out hb3
  clear ho3 hb3 R2 HB2
  go_wp2_with fail
  refine (awake_any _ (HT.out.below HB3.out (Nat.le_refl _))).mono ?_
  rintro e w6 ⟨rfl, hb6⟩
  have R3e : Hid (RdP v3 (paramsR a0.data.toList).1 w6) := R3.out.below hb6
  have R2e : Hid (RdP v2 (paramsR a0.data.toList).1 w6) := R2b.out.below hb6
  have HB6 : Hid (Below w.heap.size w w6) := bel_trans HB3.out hb6
  clear hb6 R3 R2b HB3
  generalize paramsR a0.data.toList = pr at *
  go_wp2_with fail
  refine (alike_any v2 v3 _ _ R2e.out R3e.out HL1.out).mono ?_
  rintro e w7 ⟨rfl, n7, rfl⟩
  go_wp2
  go_ret
  exact ⟨rfl, below_drewN HB6.out _⟩

end Go.Proofs.YthdepdgmlngafabDoor.octetParamsUpto
