/-
  base.Accept.
-/
import Derived.Test.YtcnjnlmjgbmjnabDoorSDone
import Derived.Test.YtcnjnlmjgbmjnabDoorBDec2
set_option linter.unusedVariables false
set_option linter.unusedSimpArgs false
namespace Go.Proofs.YtcnjnlmjgbmjnabDoor
open Go.RowKit
namespace Bs

def tail36 : List UInt8 := [50, 53, 56, 69, 65, 70, 65, 53, 45, 69, 57, 49, 52, 45, 52, 55, 68, 65, 45, 57, 53, 67, 65, 45, 67, 53, 65, 66, 48, 68, 67, 56, 53, 66, 49, 49]
/-- What Accept answers. -/
def accR (l : List UInt8) : List UInt8 × Int := match dec l with
  | .ok x => if x.length = 16 then (enc (shaR (l ++ tail36)), 0) else ([], 32)
  | .error _ => ([], 32)
theorem cat_str' (a b : List UInt8) : str a ++ str b = str (a ++ b) := by
  apply eq_list
  rw [ByteArray.data_append]
  simp [str]

set_option maxRecDepth 100000 in
set_option maxHeartbeats 1000000 in
theorem Accept_any (l : List UInt8) (hl : l.length ≤ 140737488351232) (w : World) :
    Calls Tryd.prog 5 #[.string (str l)] w fun e w' => e = .returned (.tuple #[.string (str (accR l).1), .int .i64 (accR l).2]) ∧ Below w.heap.size w w' := by
  go_enter Tryd.func5, Tryd.ntmps5
  go_wp2_with fail
  refine (Decode_any l (by omega) w).mono ?_
  rintro e w2 ⟨rfl, hb2⟩
  have HB2 : Hid (Below w.heap.size w w2) := hb2
  clear hb2
  cases hd : dec l with
  | error k =>
    have HA : Hid (accR l = ([], 32)) := (by unfold accR; rw [hd] : accR l = ([], 32))
    rw [decR_err hd]
    clear hd
    go_wp2
    go_ret2
    rw [HA.out]
    exact ⟨rfl, HB2.out⟩
  | ok x =>
    rw [decR_ok hd]
    have hx : (str x).size = x.length := str_size x
    by_cases h16 : x.length = 16
    · have HA : Hid (accR l = (enc (shaR (l ++ tail36)), 0)) := (by unfold accR; rw [hd]; exact if_pos h16 : accR l = (enc (shaR (l ++ tail36)), 0))
      clear hd
      have CT : Hid (str l ++ (⟨#[50, 53, 56, 69, 65, 70, 65, 53, 45, 69, 57, 49, 52, 45, 52, 55, 68, 65, 45, 57, 53, 67, 65, 45, 67, 53, 65, 66, 48, 68, 67, 56, 53, 66, 49, 49]⟩ : ByteArray) = str (l ++ tail36)) := cat_str' l tail36
      have hsl : (str l).size = l.length := str_size l
      have hcat : l.length + 36 ≤ 9223372036854775807 := by omega
      have HTl : Hid ((l ++ tail36).length ≤ 562949953421312) := (by rw [List.length_append, show tail36.length = 36 from rfl]; omega : (l ++ tail36).length ≤ 562949953421312)
      have HSl := shaR_length (l ++ tail36)
      have h16i : ((x.length : Nat) : Int) = 16 := by omega
      go_wp2_with fail
      rw [CT.out]
      refine (Sha1_any (l ++ tail36) HTl.out w2).mono ?_
      rintro e w3 ⟨rfl, hb3⟩
      have HB3 : Hid (Below w.heap.size w w3) := bel_trans' HB2.out hb3
      clear hb3
      generalize shaR (l ++ tail36) = y at *
      go_wp2_with fail
      refine (Encode_any y (by omega) w3).mono ?_
      rintro e w4 ⟨rfl, hb4⟩
      go_wp2
      go_ret2
      rw [HA.out]
      exact ⟨rfl, bel_trans' HB3.out hb4⟩
    · have HA : Hid (accR l = ([], 32)) := (by unfold accR; rw [hd]; exact if_neg h16 : accR l = ([], 32))
      clear hd
      have h16i : (((x.length : Nat) : Int) != 16) = true := by simp; omega
      go_wp2
      go_ret2
      rw [HA.out]
      exact ⟨rfl, HB2.out⟩

set_option maxRecDepth 100000 in
set_option maxHeartbeats 1000000 in
theorem walk_BaseKeys (l : List UInt8) (w : World) (hl : l.length ≤ 1048576) :
    Calls Tryd.prog 4 #[.string (str l)] w fun e w' => e = .returned (.bool true) ∧ Below w.heap.size w w' := by
  have hsl : (str l).size = l.length := str_size l
  have HEl : Hid ((enc l).length ≤ 140737488351232) := (by rw [enc_len]; omega : (enc l).length ≤ 140737488351232)
  have HD : Hid (dec (enc l) = .ok l) := dec_enc l
  go_enter Tryd.func4, Tryd.ntmps4
  go_wp2_with fail
  refine (Encode_any l (by omega) w).mono ?_
  rintro e w2 ⟨rfl, hb2⟩
  have HB2 : Hid (Below w.heap.size w w2) := hb2
  clear hb2
  generalize enc l = x at *
  go_wp2_with fail
  refine (Accept_any x HEl.out w2).mono ?_
  rintro e w3 ⟨rfl, hb3⟩
  have HB3 : Hid (Below w.heap.size w w3) := bel_trans' HB2.out hb3
  clear hb3
  by_cases h16 : l.length = 16
  · have HA : Hid (accR x = (enc (shaR (x ++ tail36)), 0)) := (by unfold accR; rw [HD.out]; exact if_pos h16 : accR x = (enc (shaR (x ++ tail36)), 0))
    rw [HA.out]
    have h16i : ((l.length : Nat) : Int) = 16 := by omega
    have HSl := shaR_length (x ++ tail36)
    generalize shaR (x ++ tail36) = y at *
    have HDy : Hid (decR (enc y) = (y, 0, 0)) := decR_ok (dec_enc y)
    have HEy : Hid ((enc y).length ≤ 140737488355328) := (by rw [enc_len]; omega : (enc y).length ≤ 140737488355328)
    have hys : (str y).size = 20 := by rw [str_size, HSl]
    generalize enc y = z at *
    go_wp2_with fail
    refine (Decode_any z HEy.out w3).mono ?_
    rintro e w4 ⟨rfl, hb4⟩
    rw [HDy.out]
    go_wp2
    go_ret
    exact ⟨rfl, bel_trans' HB3.out hb4⟩
  · have HA : Hid (accR x = ([], 32)) := (by unfold accR; rw [HD.out]; exact if_neg h16 : accR x = ([], 32))
    rw [HA.out]
    have h16i : (((l.length : Nat) : Int) != 16) = true := by simp; omega
    have hemp : (str []).toList.isEmpty = true := by rw [ByteArray.toList_eq]; rfl
    go_wp2_with fail
    refine (awake_any w3).mono ?_
    rintro e w4 ⟨rfl, hb4⟩
    go_wp2
    go_ret
    exact ⟨rfl, bel_trans' HB3.out hb4⟩

end Bs
end Go.Proofs.YtcnjnlmjgbmjnabDoor
