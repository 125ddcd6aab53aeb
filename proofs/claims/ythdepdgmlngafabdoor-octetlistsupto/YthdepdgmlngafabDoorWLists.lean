/-
  A walk of a law.
-/
import Derived.Test.YthdepdgmlngafabDoorSameL
import Derived.OpenShut
set_option linter.unusedVariables false
set_option linter.unusedSimpArgs false
namespace Go.Proofs.YthdepdgmlngafabDoor.octetListsUpto
open Go.RowKit
open Go.Proofs.YthdepdgmlngafabDoor.Oc

set_option maxRecDepth 100000 in
set_option maxHeartbeats 1000000 in
theorem walk (a0 : ByteArray) (w0 : a0.size ≤ 1048576) (w : World) (t : Tab w) :
    Calls Tryd.prog 3 #[.string a0] w fun e w' => e = .returned (.bool true) ∧ Below w.heap.size w w' := by
  have HT : Hid (Tab w) := t
  clear t
  have HSh := listR_short a0.data.toList
  rw [size_list] at HSh
  have HL1 : Hid ((listR a0.data.toList).1.length ≤ 4294967296) := (by have := HSh.1; omega : (listR a0.data.toList).1.length ≤ 4294967296)
  have HL2 : Hid ((tokensR a0.data.toList).1.length ≤ 4294967296) := by
    show List.length _ ≤ _
    have := HSh.1
    unfold tokensR
    split
    · split
      · exact HL1.out
      · simp
    · simp
  clear HSh
  go_enter Tryd.func3, Tryd.ntmps3
  go_wp2_with fail
  refine (List_any a0 (by omega) _).mono ?_
  rintro e w2 ⟨v2, rfl, ho2, hb2⟩
  have R2 : Hid (RdS v2 (listR a0.data.toList).1 w2) := ho2.rd
  have HB2 : Hid (Below w.heap.size w w2) := hb2
  clear ho2 hb2
  go_wp2_with fail
  refine (rList_any a0 (by omega) _).mono ?_
  rintro e w3 ⟨v3, rfl, ho3, hb3⟩
  have R3 : Hid (RdS v3 (listR a0.data.toList).1 w3) := ho3.rd
  have R2b : Hid (RdS v2 (listR a0.data.toList).1 w3) := R2.out.below hb3
  have HB3 : Hid (Below w.heap.size w w3) := bel_trans HB2.out hb3
  clear ho3 hb3 R2 HB2
  go_wp2_with fail
  refine (Tokens_any a0 (by omega) _ (HT.out.below HB3.out (Nat.le_refl _))).mono ?_
  rintro e w4 ⟨v4, rfl, ho4, hb4⟩
  have R4 : Hid (RdS v4 (tokensR a0.data.toList).1 w4) := ho4.rd
  have R3c : Hid (RdS v3 (listR a0.data.toList).1 w4) := R3.out.below hb4
  have R2c : Hid (RdS v2 (listR a0.data.toList).1 w4) := R2b.out.below hb4
  have HB4 : Hid (Below w.heap.size w w4) := bel_trans HB3.out hb4
  clear ho4 hb4 R3 R2b HB3
  go_wp2_with fail
  refine (rTokens_any a0 (by omega) _).mono ?_
  rintro e w5 ⟨v5, rfl, ho5, hb5⟩
  have R5 : Hid (RdS v5 (tokensR a0.data.toList).1 w5) := ho5.rd
  have R4d : Hid (RdS v4 (tokensR a0.data.toList).1 w5) := R4.out.below hb5
  have R3d : Hid (RdS v3 (listR a0.data.toList).1 w5) := R3c.out.below hb5
  have R2d : Hid (RdS v2 (listR a0.data.toList).1 w5) := R2c.out.below hb5
  have HB5 : Hid (Below w.heap.size w w5) := bel_trans HB4.out hb5
  clear ho5 hb5 R4 R3c R2c HB4
  go_wp2_with fail
  refine (awake_any _ (HT.out.below HB5.out (Nat.le_refl _))).mono ?_
  rintro e w6 ⟨rfl, hb6⟩
  have R5e : Hid (RdS v5 (tokensR a0.data.toList).1 w6) := R5.out.below hb6
  have R4e : Hid (RdS v4 (tokensR a0.data.toList).1 w6) := R4d.out.below hb6
  have R3e : Hid (RdS v3 (listR a0.data.toList).1 w6) := R3d.out.below hb6
  have R2e : Hid (RdS v2 (listR a0.data.toList).1 w6) := R2d.out.below hb6
  have HB6 : Hid (Below w.heap.size w w6) := bel_trans HB5.out hb6
  clear hb6 R5 R4d R3d R2d HB5
  go_wp2_with fail
  refine (same_any v2 v3 _ _ _ R2e.out R3e.out HL1.out HL1.out).mono ?_
  rintro e w7 ⟨rfl, n7, rfl⟩
  rw [show decide ((listR a0.data.toList).1 = (listR a0.data.toList).1) = true from decide_eq_true rfl]
  have R5f : Hid (RdS v5 (tokensR a0.data.toList).1 (w6.drewN n7)) := R5e.out.below (below_drewN (Below.refl _ _) _)
  have R4f : Hid (RdS v4 (tokensR a0.data.toList).1 (w6.drewN n7)) := R4e.out.below (below_drewN (Below.refl _ _) _)
  go_wp2_with fail
  refine (same_any v4 v5 _ _ _ R4f.out R5f.out HL2.out HL2.out).mono ?_
  rintro e w8 ⟨rfl, n8, rfl⟩
  rw [show decide ((tokensR a0.data.toList).1 = (tokensR a0.data.toList).1) = true from decide_eq_true rfl]
  go_wp2
  go_ret
  exact ⟨rfl, below_drewN HB6.out _⟩

end Go.Proofs.YthdepdgmlngafabDoor.octetListsUpto
