/-
  turnpikeref03.Accept and the walk of BaseAccepts, from the contract of the reference's Sha1.
-/
import Derived.Test.YtcnjnlmjgbmjnabDoorSAccept
import Derived.Test.YtcnjnlmjgbmjnabDoorRSha0
import Derived.Test.YtcnjnlmjgbmjnabDoorRDec2
import Derived.Test.YtcnjnlmjgbmjnabDoorREnc
set_option linter.unusedVariables false
set_option linter.unusedSimpArgs false
namespace Go.Proofs.YtcnjnlmjgbmjnabDoor
open Go.RowKit
namespace Bs

set_option maxRecDepth 100000 in
set_option maxHeartbeats 1000000 in
theorem rAccept_any' (CS : Hid (∀ (l : List UInt8) (hl : l.length ≤ 140737488355000) (w : World), Calls Tryd.prog 13 #[.string (str l)] w fun e w' => e = .returned (.string (str (shaR l))) ∧ Below w.heap.size w w')) (l : List UInt8) (hl : l.length ≤ 140737488351232) (w : World) :
    Calls Tryd.prog 6 #[.string (str l)] w fun e w' => e = .returned (.tuple #[.string (str (accR l).1), .int .i64 (accR l).2]) ∧ Below w.heap.size w w' := by
  go_enter Tryd.func6, Tryd.ntmps6
  go_wp2_with fail
  refine (rDecode_any l (by omega) w).mono ?_
  rintro e w2 ⟨rfl, hb2⟩
  have HB2 : Hid (Below w.heap.size w w2) := hb2
  clear hb2
  cases hd : dec l with
  | error k =>
    have HA : Hid (accR l = ([], 32)) := (by unfold accR; rw [hd] : accR l = ([], 32))
    rw [decR_err hd]
    clear hd
    go_wp2
    go_ret2
    rw [HA.out]
    exact ⟨rfl, HB2.out⟩
  | ok x =>
    rw [decR_ok hd]
    have hx : (str x).size = x.length := str_size x
    by_cases h16 : x.length = 16
    · have HA : Hid (accR l = (enc (shaR (l ++ tail36)), 0)) := (by unfold accR; rw [hd]; exact if_pos h16 : accR l = (enc (shaR (l ++ tail36)), 0))
      clear hd
      have CT : Hid (str l ++ (⟨#[50, 53, 56, 69, 65, 70, 65, 53, 45, 69, 57, 49, 52, 45, 52, 55, 68, 65, 45, 57, 53, 67, 65, 45, 67, 53, 65, 66, 48, 68, 67, 56, 53, 66, 49, 49]⟩ : ByteArray) = str (l ++ tail36)) := cat_str' l tail36
      have hsl : (str l).size = l.length := str_size l
      have hcat : l.length + 36 ≤ 9223372036854775807 := by omega
      have HTl : Hid ((l ++ tail36).length ≤ 140737488355000) := (by rw [List.length_append, show tail36.length = 36 from rfl]; omega : (l ++ tail36).length ≤ 140737488355000)
      have HSl := shaR_length (l ++ tail36)
      have h16i : ((x.length : Nat) : Int) = 16 := by omega
      go_wp2_with fail
      rw [CT.out]
      refine (CS.out (l ++ tail36) HTl.out w2).mono ?_
      rintro e w3 ⟨rfl, hb3⟩
      have HB3 : Hid (Below w.heap.size w w3) := bel_trans' HB2.out hb3
      clear hb3
      generalize shaR (l ++ tail36) = y at *
      go_wp2_with fail
      refine (rEncode_any y (by omega) w3).mono ?_
      rintro e w4 ⟨rfl, hb4⟩
      go_wp2
      go_ret2
      rw [HA.out]
      exact ⟨rfl, bel_trans' HB3.out hb4⟩
    · have HA : Hid (accR l = ([], 32)) := (by unfold accR; rw [hd]; exact if_neg h16 : accR l = ([], 32))
      clear hd
      have h16i : (((x.length : Nat) : Int) != 16) = true := by simp; omega
      go_wp2
      go_ret2
      rw [HA.out]
      exact ⟨rfl, HB2.out⟩

theorem accR_form (l : List UInt8) : ∃ (x : List UInt8) (e : Int), accR l = (x, e) := ⟨_, _, rfl⟩
set_option maxRecDepth 100000 in
set_option maxHeartbeats 1000000 in
theorem walk_BaseAccepts' (CS : Hid (∀ (l : List UInt8) (hl : l.length ≤ 140737488355000) (w : World), Calls Tryd.prog 13 #[.string (str l)] w fun e w' => e = .returned (.string (str (shaR l))) ∧ Below w.heap.size w w')) (l : List UInt8) (w : World) (hl : l.length ≤ 140737488351232) :
    Calls Tryd.prog 3 #[.string (str l)] w fun e w' => e = .returned (.bool true) ∧ Below w.heap.size w w' := by
  obtain ⟨x, e, hd⟩ := accR_form l
  have HD : Hid (accR l = (x, e)) := hd
  clear hd
  go_enter Tryd.func3, Tryd.ntmps3
  go_wp2_with fail
  refine (Accept_any l (by omega) w).mono ?_
  rintro e w2 ⟨rfl, hb2⟩
  have HB2 : Hid (Below w.heap.size w w2) := hb2
  clear hb2
  rw [HD.out]
  go_wp2_with fail
  refine (rAccept_any' CS l hl w2).mono ?_
  rintro e w3 ⟨rfl, hb3⟩
  have HB3 : Hid (Below w.heap.size w w3) := bel_trans' HB2.out hb3
  clear hb3
  rw [HD.out]
  go_wp2_with fail
  refine (awake_any w3).mono ?_
  rintro e w6 ⟨rfl, hb6⟩
  have HB6 : Hid (Below w.heap.size w w6) := bel_trans' HB3.out hb6
  clear hb6
  go_wp2
  go_ret
  exact ⟨rfl, HB6.out⟩

end Bs
end Go.Proofs.YtcnjnlmjgbmjnabDoor
