/-
  octet.quotedLength.
-/
import Derived.Test.YtjngpafokkjkdaaGreatDoorRQuote
import Derived.Test.YtjngpafokkjkdaaGreatDoorTrim
import Derived.WalkMore
set_option linter.unusedVariables false
set_option linter.unusedSimpArgs false
namespace Go.Proofs.YtjngpafokkjkdaaGreatDoor
open Go.RowKit Go.Shelf
namespace Oc

theorem prefix_quote (s : ByteArray) : Lib.hasPrefix s.data.toList (⟨#[34]⟩ : ByteArray).data.toList = decide (0 < s.size ∧ byt s 0 = 34) := by
  unfold Lib.hasPrefix byt
  rw [← size_list]
  cases s.data.toList with
  | nil => simp
  | cons c l =>
    have e : (⟨#[34]⟩ : ByteArray).data.toList = [34] := rfl
    rw [e, Bool.eq_iff_iff, decide_eq_true_iff]
    simp only [List.isPrefixOf_cons_cons, List.isPrefixOf_nil_left, Bool.and_true, beq_iff_eq, List.length_cons, List.getD_cons_zero]
    constructor
    · intro h; subst h; exact ⟨by omega, rfl⟩
    · rintro ⟨_, h⟩
      exact (UInt8.toNat_inj.1 (by show c.toNat = 34; omega)).symm

theorem qlen_none (s : ByteArray) (h : ¬ (0 < s.size ∧ byt s 0 = 34)) : qlen s.data.toList = 0 := by
  by_cases hz : s.size = 0
  · rw [List.length_eq_zero_iff.1 ((size_list s).trans hz)]; rfl
  · rw [cons_of hz]
    rw [qlen_cons, if_neg]
    intro e
    apply h
    refine ⟨by omega, ?_⟩
    unfold byt
    rw [e]
    rfl
theorem qlen_some (s : ByteArray) (h : 0 < s.size) (h2 : byt s 0 = 34) : qlen s.data.toList = plusOne (qscan false (s.data.toList.drop 1)) := by
  rw [cons_of (by omega)]
  have e : s.data.toList.getD 0 0 = 34 := UInt8.toNat_inj.1 (by unfold byt at h2; show _ = 34; omega)
  rw [e, qlen_cons, if_pos rfl]
  rfl

theorem drop_cons (T : List UInt8) (k : Nat) (h : k < T.length) : T.drop k = T.getD k 0 :: T.drop (k + 1) := by
  rw [List.drop_eq_getElem_cons h, List.getD_eq_getElem?_getD, List.getElem?_eq_getElem h]
  rfl
theorem scan_field (e : Bool) (c : UInt8) (l : List UInt8) (h : fieldB c = false) : qscan e (c :: l) = none := by rw [qscan, if_pos h]
theorem scan_esc (c : UInt8) (l : List UInt8) (h : fieldB c = true) : qscan true (c :: l) = (qscan false l).map (· + 1) := by rw [qscan, if_neg (by simp [h]), if_pos rfl]
theorem scan_back (c : UInt8) (l : List UInt8) (h : c = 92) : qscan false (c :: l) = (qscan true l).map (· + 1) := by subst h; rw [qscan, if_neg (by decide), if_neg (by simp), if_pos rfl]
theorem scan_end (c : UInt8) (l : List UInt8) (h : c = 34) : qscan false (c :: l) = some 1 := by subst h; rw [qscan, if_neg (by decide), if_neg (by simp), if_neg (by decide), if_pos rfl]
theorem scan_on (c : UInt8) (l : List UInt8) (h : fieldB c = true) (h1 : c ≠ 92) (h2 : c ≠ 34) : qscan false (c :: l) = (qscan false l).map (· + 1) := by rw [qscan, if_neg (by simp [h]), if_neg (by simp), if_neg h1, if_neg h2]
theorem map_shift (o : Option Nat) (k : Nat) : ((o.map (· + 1)).map (· + k)) = o.map (· + (k + 1)) := by
  cases o with
  | none => rfl
  | some x => simp; omega

end Oc
end Go.Proofs.YtjngpafokkjkdaaGreatDoor
