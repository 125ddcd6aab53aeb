/-
  firstNot: the place of the first byte that is not of a kind; where a name or a value goes wrong.
-/
import Derived.Test.YtifhbjkgdnemjaaGreatDoorFW
set_option linter.unusedVariables false
set_option linter.unusedSimpArgs false
namespace Go.Proofs.YtifhbjkgdnemjaaGreatDoor
open Go.RowKit Go.Shelf
namespace Fd
open Oc Tg

theorem isTok_one (c : UInt8) : isTok [c] = tokB c := by simp [isTok]
theorem isFld_one (c : UInt8) : isFld [c] = fieldB c := by simp [isFld]
theorem one_at (s : ByteArray) (k : Nat) (h : k < s.size) : (s.extract k (k + 1)).data.toList = [s.data.toList.getD k 0] := by
  rw [Lib.extract_data]
  have hk : k < s.data.toList.length := by rw [size_list]; exact h
  rw [List.getD_eq_getElem?_getD, List.getElem?_eq_getElem hk, show k + 1 - k = 1 by omega, List.drop_eq_getElem_cons hk]
  rfl

set_option maxRecDepth 100000 in
set_option maxHeartbeats 1000000 in
theorem firstNot_tok (s : ByteArray) (hs : s.size ≤ maxLen) (w : World) (t : Tab w) :
    Calls Tryz.prog 133 #[.string s, .func (.func 54) #[] #[]] w fun e w' => e = .returned (.int .i64 (fnot tokB s.data.toList : Nat)) ∧ Below w.heap.size w w' := by
  have HT : Hid (Tab w) := t
  have hs' := hs
  unfold maxLen at hs
  have HS : Hid (s.size ≤ maxLen) := hs'
  clear t hs'
  go_enter Tryz.func133, Tryz.ntmps133
  go_wp2
  go_loopw [8] (fun i wr => ∃ k : Nat, k ≤ s.size ∧ i = .int .i64 k ∧ Hid (∀ j, j < k → tokB (s.data.toList.getD j 0) = true) ∧ Hid (Below w.heap.size w wr)) (fun i _ => s.size - (intOf i).toNat)
  case atStart => exact ⟨0, Nat.zero_le _, rfl, (fun j hj => by omega : ∀ j, j < 0 → _), Below.refl _ _⟩
  case round =>
    obtain ⟨k, hk, rfl, hall, hbel⟩ := hrel
    by_cases hlt : k < s.size
    · have HC : Hid (Calls Tryz.prog 54 #[.string (s.extract k (k + 1))] wr fun e w' => e = .returned (.bool (tokB (s.data.toList.getD k 0))) ∧ Below wr.heap.size wr w') := by
        have h := IsToken_any (s.extract k (k + 1)) (by simp; have := HS.out; unfold maxLen at *; omega) wr (HT.out.below hbel.out (Nat.le_refl _))
        rw [one_at s k hlt, isTok_one] at h
        exact h
      have HN : tokB (s.data.toList.getD k 0) = true → Hid (∀ j, j < k + 1 → tokB (s.data.toList.getD j 0) = true) := fun h j hj => by
        by_cases hjk : j = k
        · subst hjk; exact h
        · exact hall.out j (by omega)
      have HF : tokB (s.data.toList.getD k 0) = false → Hid (fnot tokB s.data.toList = k) := fun h => tw_stop tokB 0 _ k (by rw [size_list]; exact hlt) hall.out h
      generalize tokB (s.data.toList.getD k 0) = b at HC HN HF
      cases b with
      | true =>
        have HN2 := HN rfl
        clear HF HN
        go_wp2_with fail
        refine HC.out.mono ?_
        rintro e w2 ⟨rfl, hb2⟩
        have HB2 : Hid (Below w.heap.size w w2) := bel_trans hbel.out hb2
        clear hb2
        go_wp2
        go_roundw
        case rel => exact ⟨k + 1, by omega, by go_num, HN2, HB2⟩
        case measure => simp [intOf]; omega
      | false =>
        have HF2 := HF rfl
        clear HN HF
        go_wp2_with fail
        refine HC.out.mono ?_
        rintro e w2 ⟨rfl, hb2⟩
        have HB2 : Hid (Below w.heap.size w w2) := bel_trans hbel.out hb2
        clear hb2
        go_wp2
        go_ret
        exact ⟨ret_int (by rw [HF2.out]), HB2.out⟩
    · have HE : Hid (fnot tokB s.data.toList = s.size) := (tw_all tokB 0 _ (fun j hj => hall.out j (by rw [size_list] at hj; omega))).trans (size_list s)
      go_wp2
      go_ret
      exact ⟨ret_int (by rw [HE.out]), hbel.out⟩

set_option maxRecDepth 100000 in
set_option maxHeartbeats 1000000 in
theorem firstNot_fld (s : ByteArray) (hs : s.size ≤ maxLen) (w : World) :
    Calls Tryz.prog 133 #[.string s, .func (.func 75) #[] #[]] w fun e w' => e = .returned (.int .i64 (fnot fieldB s.data.toList : Nat)) ∧ Below w.heap.size w w' := by
  have hs' := hs
  unfold maxLen at hs
  have HS : Hid (s.size ≤ maxLen) := hs'
  clear hs'
  go_enter Tryz.func133, Tryz.ntmps133
  go_wp2
  go_loopw [8] (fun i wr => ∃ k : Nat, k ≤ s.size ∧ i = .int .i64 k ∧ Hid (∀ j, j < k → fieldB (s.data.toList.getD j 0) = true) ∧ Hid (Below w.heap.size w wr)) (fun i _ => s.size - (intOf i).toNat)
  case atStart => exact ⟨0, Nat.zero_le _, rfl, (fun j hj => by omega : ∀ j, j < 0 → _), Below.refl _ _⟩
  case round =>
    obtain ⟨k, hk, rfl, hall, hbel⟩ := hrel
    by_cases hlt : k < s.size
    · have HC : Hid (Calls Tryz.prog 75 #[.string (s.extract k (k + 1))] wr fun e w' => e = .returned (.bool (fieldB (s.data.toList.getD k 0))) ∧ Below wr.heap.size wr w') := by
        have h := IsField_any (s.extract k (k + 1)) (by simp; have := HS.out; unfold maxLen at *; omega) wr
        rw [one_at s k hlt, isFld_one] at h
        exact h
      have HN : fieldB (s.data.toList.getD k 0) = true → Hid (∀ j, j < k + 1 → fieldB (s.data.toList.getD j 0) = true) := fun h j hj => by
        by_cases hjk : j = k
        · subst hjk; exact h
        · exact hall.out j (by omega)
      have HF : fieldB (s.data.toList.getD k 0) = false → Hid (fnot fieldB s.data.toList = k) := fun h => tw_stop fieldB 0 _ k (by rw [size_list]; exact hlt) hall.out h
      generalize fieldB (s.data.toList.getD k 0) = b at HC HN HF
      cases b with
      | true =>
        have HN2 := HN rfl
        clear HF HN
        go_wp2_with fail
        refine HC.out.mono ?_
        rintro e w2 ⟨rfl, hb2⟩
        have HB2 : Hid (Below w.heap.size w w2) := bel_trans hbel.out hb2
        clear hb2
        go_wp2
        go_roundw
        case rel => exact ⟨k + 1, by omega, by go_num, HN2, HB2⟩
        case measure => simp [intOf]; omega
      | false =>
        have HF2 := HF rfl
        clear HN HF
        go_wp2_with fail
        refine HC.out.mono ?_
        rintro e w2 ⟨rfl, hb2⟩
        have HB2 : Hid (Below w.heap.size w w2) := bel_trans hbel.out hb2
        clear hb2
        go_wp2
        go_ret
        exact ⟨ret_int (by rw [HF2.out]), HB2.out⟩
    · have HE : Hid (fnot fieldB s.data.toList = s.size) := (tw_all fieldB 0 _ (fun j hj => hall.out j (by rw [size_list] at hj; omega))).trans (size_list s)
      go_wp2
      go_ret
      exact ⟨ret_int (by rw [HE.out]), hbel.out⟩

set_option maxHeartbeats 1000000 in
theorem nameFault_any (s : ByteArray) (hs : s.size ≤ maxLen) (w : World) (t : Tab w) :
    Calls Tryz.prog 123 #[.string s] w fun e w' => e = .returned (.int .i64 (min (fnot tokB s.data.toList) 128 : Nat)) ∧ Below w.heap.size w w' := by
  have HC : Hid (Calls Tryz.prog 133 #[.string s, .func (.func 54) #[] #[]] w fun e w' => e = .returned (.int .i64 (fnot tokB s.data.toList : Nat)) ∧ Below w.heap.size w w') := firstNot_tok s hs w t
  have hle := fnot_le tokB s.data.toList
  rw [size_list] at hle
  generalize fnot tokB s.data.toList = n at *
  unfold maxLen at hs
  clear t
  go_enter Tryz.func123, Tryz.ntmps123
  go_wp2_with fail
  refine HC.out.mono ?_
  rintro e w2 ⟨rfl, hb2⟩
  go_wp2
  go_ret
  exact ⟨ret_int (by omega), hb2⟩

end Fd
end Go.Proofs.YtifhbjkgdnemjaaGreatDoor
