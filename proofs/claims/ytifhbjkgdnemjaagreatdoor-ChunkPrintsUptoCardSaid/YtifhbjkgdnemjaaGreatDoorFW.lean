/-
  Names and values of fields; the document's.
-/
import Derived.Test.YtifhbjkgdnemjaaGreatDoorFR1
import Derived.Test.YtifhbjkgdnemjaaGreatDoorFPl
import Derived.Test.YtifhbjkgdnemjaaGreatDoorTrimGo
set_option linter.unusedVariables false
set_option linter.unusedSimpArgs false
namespace Go.Proofs.YtifhbjkgdnemjaaGreatDoor
open Go.RowKit
namespace Fd
open Oc


theorem trim_eq_str (s : ByteArray) : (decide (str (trim s.data.toList) = s)) = decide (trim s.data.toList = s.data.toList) := by
  rw [Bool.eq_iff_iff, decide_eq_true_iff, decide_eq_true_iff]
  constructor
  · intro h
    have := congrArg (fun x : ByteArray => x.data.toList) h
    simpa [str_list] using this
  · intro h
    rw [h, str_self]

set_option maxHeartbeats 400000 in
theorem rIsName_any (s : ByteArray) (hs : s.size ≤ maxLen) (w : World) :
    Calls Tryz.prog 51 #[.string s] w fun e w' => e = .returned (.bool (isName s.data.toList)) ∧ w' = w := by
  have HT : Hid (∀ w, Calls Tryz.prog 42 #[.string s] w fun e w' => e = .returned (.bool (isTok s.data.toList)) ∧ w' = w) := fun w => rToken_any s hs w
  unfold isName maxLen at *
  rw [size_list]
  generalize isTok s.data.toList = b at *
  cases b with
  | true =>
    go_enter Tryz.func51, Tryz.ntmps51
    go_wp2_with fail
    refine (HT.out _).mono ?_
    rintro e w' ⟨rfl, rfl⟩
    go_wp2
    go_ret
    exact ⟨ret_bool (by simp; omega), rfl⟩
  | false =>
    go_enter Tryz.func51, Tryz.ntmps51
    go_wp2_with fail
    refine (HT.out _).mono ?_
    rintro e w' ⟨rfl, rfl⟩
    go_wp2
    go_ret
    exact ⟨ret_bool (by simp), rfl⟩

set_option maxHeartbeats 400000 in
theorem IsName_any (s : ByteArray) (hs : s.size ≤ maxLen) (w : World) (t : Tab w) :
    Calls Tryz.prog 63 #[.string s] w fun e w' => e = .returned (.bool (isName s.data.toList)) ∧ Below w.heap.size w w' := by
  have HT : Hid (Calls Tryz.prog 54 #[.string s] w fun e w' => e = .returned (.bool (isTok s.data.toList)) ∧ Below w.heap.size w w') := IsToken_any s hs w t
  clear t
  unfold isName maxLen at *
  rw [size_list]
  generalize isTok s.data.toList = b at *
  by_cases hn : s.size ≤ 128
  · have HE : Hid (decide (s.size ≤ 128) = true) := decide_eq_true hn
    go_enter Tryz.func63, Tryz.ntmps63
    go_wp2_with fail
    refine HT.out.mono ?_
    rintro e w' ⟨rfl, hb⟩
    go_wp2
    go_ret
    exact ⟨ret_bool (by rw [HE.out]; simp), hb⟩
  · have HE : Hid (decide (s.size ≤ 128) = false) := decide_eq_false hn
    go_enter Tryz.func63, Tryz.ntmps63
    go_wp2
    go_ret
    exact ⟨ret_bool (by first | rfl | (rw [HE.out]; simp)), Below.refl _ _⟩

set_option maxHeartbeats 400000 in
theorem IsValue_any (s : ByteArray) (hs : s.size ≤ maxLen) (w : World) :
    Calls Tryz.prog 82 #[.string s] w fun e w' => e = .returned (.bool (isValue s.data.toList)) ∧ Below w.heap.size w w' := by
  have HF : Hid (∀ w, Calls Tryz.prog 75 #[.string s] w fun e w' => e = .returned (.bool (isFld s.data.toList)) ∧ Below w.heap.size w w') := fun w => IsField_any s hs w
  have HT : Hid (∀ w, Calls Tryz.prog 88 #[.string s] w fun e w' => e = .returned (.string (str (trim s.data.toList))) ∧ Below w.heap.size w w') := fun w => Trim_any s hs w
  have HQ := trim_eq_str s
  unfold isValue maxLen at *
  rw [size_list, ← HQ]
  clear HQ
  generalize isFld s.data.toList = b at *
  generalize str (trim s.data.toList) = u at *
  by_cases hn : s.size ≤ 8192
  · have HE : Hid (decide (s.size ≤ 8192) = true) := decide_eq_true hn
    cases b with
    | true =>
      go_enter Tryz.func82, Tryz.ntmps82
      go_wp2_with fail
      refine (HF.out _).mono ?_
      rintro e w1 ⟨rfl, hb1⟩
      have HB1 : Hid (Below w.heap.size w w1) := hb1
      clear hb1
      go_wp2_with fail
      refine (HT.out _).mono ?_
      rintro e w2 ⟨rfl, hb2⟩
      have HB2 : Hid (Below w.heap.size w w2) := bel_trans HB1.out hb2
      clear hb2
      go_wp2
      go_ret
      exact ⟨ret_bool (by rw [HE.out, eq_toList]; simp), HB2.out⟩
    | false =>
      go_enter Tryz.func82, Tryz.ntmps82
      go_wp2_with fail
      refine (HF.out _).mono ?_
      rintro e w1 ⟨rfl, hb1⟩
      have HB1 : Hid (Below w.heap.size w w1) := hb1
      clear hb1
      go_wp2
      go_ret
      exact ⟨ret_bool (by simp), HB1.out⟩
  · have HE : Hid (decide (s.size ≤ 8192) = false) := decide_eq_false hn
    go_enter Tryz.func82, Tryz.ntmps82
    go_wp2
    go_ret
    exact ⟨ret_bool (by first | rfl | (rw [HE.out]; simp)), Below.refl _ _⟩

set_option maxHeartbeats 400000 in
theorem rIsValue_any (s : ByteArray) (hs : s.size ≤ maxLen) (w : World) :
    Calls Tryz.prog 50 #[.string s] w fun e w' => e = .returned (.bool (isValue s.data.toList)) ∧ w' = w := by
  have HT : Hid (∀ w, Calls Tryz.prog 69 #[.string s] w fun e w' => e = .returned (.string (str (trim s.data.toList))) ∧ w' = w) := fun w => rTrim_any s hs w
  have HQ := trim_eq_str s
  unfold isValue maxLen at *
  rw [size_list, ← HQ]
  clear HQ
  generalize str (trim s.data.toList) = u at *
  go_enter Tryz.func50, Tryz.ntmps50
  go_wp2
  go_loop [3] (fun i => ∃ k : Nat, k ≤ s.size ∧ i = .int .i64 k ∧ Hid (∀ j, j < k → fieldI (byt s j) = true)) (fun i => s.size - (intOf i).toNat)
  case atStart => exact ⟨0, Nat.zero_le _, rfl, (fun j hj => by omega : ∀ j, j < 0 → _)⟩
  case round =>
    obtain ⟨k, hk, rfl, hall⟩ := hrel
    by_cases hlt : k < s.size
    · have hby : ((s[k].toNat : Nat) : Int) = byt s k := byt_at s k hlt
      obtain ⟨b0, b1⟩ := byt_bd s k
      cases ht : fieldI (byt s k) with
      | true =>
        have HA : Hid (∀ j, j < k + 1 → fieldI (byt s j) = true) := by
          intro j hj
          by_cases hjk : j = k
          · subst hjk; exact ht
          · exact hall.out j (by omega)
        go_wp2_with (go_at_call 61; refine (rInside_any _ (by omega) (by omega) _).mono ?_; rintro e w' ⟨rfl, rfl⟩)
        go_round
        case rel => exact ⟨k + 1, by omega, by go_num, HA⟩
        case measure => simp [intOf]; omega
      | false =>
        have HE : Hid (isFld s.data.toList = false) := all_not fieldB 0 _ k (by rw [size_list]; exact hlt) ht
        go_wp2_with (go_at_call 61; refine (rInside_any _ (by omega) (by omega) _).mono ?_; rintro e w' ⟨rfl, rfl⟩)
        go_ret
        exact ⟨ret_bool (by rw [HE.out]; simp), rfl⟩
    · have HE : Hid (isFld s.data.toList = true) := all_of fieldB 0 _ (fun j hj => hall.out j (by rw [size_list] at hj; omega))
      by_cases hn : s.size ≤ 8192
      · have HN : Hid (decide (s.size ≤ 8192) = true) := decide_eq_true hn
        go_wp2_with fail
        refine (HT.out _).mono ?_
        rintro e w' ⟨rfl, rfl⟩
        go_wp2
        go_ret
        exact ⟨ret_bool (by rw [HE.out, HN.out, eq_toList]; simp), rfl⟩
      · have HN : Hid (decide (s.size ≤ 8192) = false) := decide_eq_false hn
        go_wp2
        go_ret
        exact ⟨ret_bool (by first | rfl | (rw [HN.out]; simp)), rfl⟩

end Fd
end Go.Proofs.YtifhbjkgdnemjaaGreatDoor
