/- Several texts as one. -/
import Derived.Test.YthfckgdaencagaaGreatDoorMgC
/-
  Numbers: the document's.
-/
set_option linter.unusedVariables false
set_option linter.unusedSimpArgs false
namespace Go.Proofs.YthfckgdaencagaaGreatDoor
open Go.RowKit
namespace Oc

theorem over_big10 {most n v : Int} (n0 : 0 ≤ n) (v0 : 0 ≤ v) (hm : v ≤ most) (h : (most - v) / 10 < n) : most < n * 10 + v := by omega
theorem over_fit10 {most n v : Int} (n0 : 0 ≤ n) (v0 : 0 ≤ v) (hm : v ≤ most) (h : ¬ (most - v) / 10 < n) : n * 10 + v ≤ most := by omega

theorem over_big16 {most n v : Int} (n0 : 0 ≤ n) (v0 : 0 ≤ v) (hm : v ≤ most) (h : (most - v) / 16 < n) : most < n * 16 + v := by omega
theorem over_fit16 {most n v : Int} (n0 : 0 ≤ n) (v0 : 0 ≤ v) (hm : v ≤ most) (h : ¬ (most - v) / 16 < n) : n * 16 + v ≤ most := by omega

set_option maxHeartbeats 400000 in
theorem Decimal_any (s : ByteArray) (hs : s.size ≤ maxLen) (most : Int) (m0 : -9223372036854775808 ≤ most) (m1 : most ≤ 9223372036854775807) (w : World) :
    Calls Tryz.prog 36 #[.string s, .int .i64 most] w fun e w' => e = .returned (.tuple #[.int .i64 (numR 10 s.data.toList most).1, .int .i64 (numR 10 s.data.toList most).2]) ∧ Below w.heap.size w w' := by
  go_enter Tryz.func36, Tryz.ntmps36
  go_wp2_with fail
  refine (number10 s hs most m0 m1 _).mono ?_
  rintro e w' ⟨rfl, hb⟩
  go_wp2
  go_ret2
  exact ⟨rfl, hb⟩

end Oc
end Go.Proofs.YthfckgdaencagaaGreatDoor

/-
  Tokens, bytes of fields; the answers that keep the laws awake.
-/
set_option linter.unusedVariables false
set_option linter.unusedSimpArgs false
namespace Go.Proofs.YthfckgdaencagaaGreatDoor
open Go.RowKit
namespace Oc

theorem empty_of {s : ByteArray} (h : s.size = 0) : s.toList.isEmpty = true := by rw [ByteArray.toList_eq]; simp [List.length_eq_zero_iff.1 ((size_list s).trans h)]
theorem nonempty_of {s : ByteArray} (h : ¬ s.size = 0) : s.toList.isEmpty = false := by
  rw [ByteArray.toList_eq]
  cases e : s.data.toList with
  | nil => have := size_list s; rw [e] at this; simp at this; omega
  | cons _ _ => rfl
theorem list_ne {s : ByteArray} (h : ¬ s.size = 0) : s.data.toList ≠ [] := by
  intro e
  have := size_list s
  rw [e] at this
  simp at this
  omega
theorem isTok_empty {s : ByteArray} (h : s.size = 0) : isTok s.data.toList = false := by
  have := List.length_eq_zero_iff.1 ((size_list s).trans h)
  rw [this]; rfl

set_option maxHeartbeats 400000 in
theorem IsToken_any (s : ByteArray) (hs : s.size ≤ maxLen) (w : World) (t : Tab w) :
    Calls Tryz.prog 38 #[.string s] w fun e w' => e = .returned (.bool (isTok s.data.toList)) ∧ Below w.heap.size w w' := by
  by_cases hz : s.size = 0
  · have he := empty_of hz
    have HE : Hid (isTok s.data.toList = false) := isTok_empty hz
    clear hz
    go_enter Tryz.func38, Tryz.ntmps38
    go_wp2
    go_ret
    exact ⟨ret_bool HE.out.symm, Below.refl _ _⟩
  · have he := nonempty_of hz
    have HE : Hid (isTok s.data.toList = decide ((tokLen s.data.toList : Int) = (s.data.toList.length : Int))) := isTok_len _ (list_ne hz)
    have HT : Hid (Tab w) := t
    clear t
    go_enter Tryz.func38, Tryz.ntmps38
    go_wp2_with fail
    refine (tokenLength_any s hs _ HT.out).mono ?_
    rintro e w' ⟨rfl, hb⟩
    go_wp2
    go_ret
    exact ⟨ret_bool (by rw [HE.out, size_list]; rw [Bool.eq_iff_iff, beq_iff_eq, decide_eq_true_iff]), hb⟩

theorem low_ab : lowS ⟨#[97, 66]⟩ = ⟨#[97, 98]⟩ := by decide +kernel
theorem num_12 : numR 10 (⟨#[49, 50]⟩ : ByteArray).data.toList 12 = (12, 0) := by decide +kernel
theorem tok_x : isTok (⟨#[120]⟩ : ByteArray).data.toList = true := by decide +kernel

end Oc
end Go.Proofs.YthfckgdaencagaaGreatDoor
