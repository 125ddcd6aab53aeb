/- Several texts as one. -/
import Derived.Test.YtiabbppbmcnddaaGreatDoorMgB
import Derived.Lib.SlTrimSet
import Derived.Lib.IndexBytes
/-
  Numbers: the document's.
-/
set_option linter.unusedVariables false
set_option linter.unusedSimpArgs false
namespace Go.Proofs.YtiabbppbmcnddaaGreatDoor
open Go.RowKit
namespace Oc

theorem over_big10 {most n v : Int} (n0 : 0 ≤ n) (v0 : 0 ≤ v) (hm : v ≤ most) (h : (most - v) / 10 < n) : most < n * 10 + v := by omega
theorem over_fit10 {most n v : Int} (n0 : 0 ≤ n) (v0 : 0 ≤ v) (hm : v ≤ most) (h : ¬ (most - v) / 10 < n) : n * 10 + v ≤ most := by omega

theorem over_big16 {most n v : Int} (n0 : 0 ≤ n) (v0 : 0 ≤ v) (hm : v ≤ most) (h : (most - v) / 16 < n) : most < n * 16 + v := by omega
theorem over_fit16 {most n v : Int} (n0 : 0 ≤ n) (v0 : 0 ≤ v) (hm : v ≤ most) (h : ¬ (most - v) / 16 < n) : n * 16 + v ≤ most := by omega

set_option maxHeartbeats 400000 in
theorem Decimal_any (s : ByteArray) (hs : s.size ≤ maxLen) (most : Int) (m0 : -9223372036854775808 ≤ most) (m1 : most ≤ 9223372036854775807) (w : World) :
    Calls Tryz.prog 153 #[.string s, .int .i64 most] w fun e w' => e = .returned (.tuple #[.int .i64 (numR 10 s.data.toList most).1, .int .i64 (numR 10 s.data.toList most).2]) ∧ Below w.heap.size w w' := by
  go_enter Tryz.func153, Tryz.ntmps153
  go_wp2_with fail
  refine (number10 s hs most m0 m1 _).mono ?_
  rintro e w' ⟨rfl, hb⟩
  go_wp2
  go_ret2
  exact ⟨rfl, hb⟩

set_option maxHeartbeats 400000 in
theorem Hex_any (s : ByteArray) (hs : s.size ≤ maxLen) (most : Int) (m0 : -9223372036854775808 ≤ most) (m1 : most ≤ 9223372036854775807) (w : World) :
    Calls Tryz.prog 205 #[.string s, .int .i64 most] w fun e w' => e = .returned (.tuple #[.int .i64 (numR 16 s.data.toList most).1, .int .i64 (numR 16 s.data.toList most).2]) ∧ Below w.heap.size w w' := by
  go_enter Tryz.func205, Tryz.ntmps205
  go_wp2_with fail
  refine (number16 s hs most m0 m1 _).mono ?_
  rintro e w' ⟨rfl, hb⟩
  go_wp2
  go_ret2
  exact ⟨rfl, hb⟩

end Oc
end Go.Proofs.YtiabbppbmcnddaaGreatDoor

/-
  Tokens, bytes of fields; the answers that keep the laws awake.
-/
set_option linter.unusedVariables false
set_option linter.unusedSimpArgs false
namespace Go.Proofs.YtiabbppbmcnddaaGreatDoor
open Go.RowKit
namespace Oc

theorem empty_of {s : ByteArray} (h : s.size = 0) : s.toList.isEmpty = true := by rw [ByteArray.toList_eq]; simp [List.length_eq_zero_iff.1 ((size_list s).trans h)]
theorem nonempty_of {s : ByteArray} (h : ¬ s.size = 0) : s.toList.isEmpty = false := by
  rw [ByteArray.toList_eq]
  cases e : s.data.toList with
  | nil => have := size_list s; rw [e] at this; simp at this; omega
  | cons _ _ => rfl
theorem list_ne {s : ByteArray} (h : ¬ s.size = 0) : s.data.toList ≠ [] := by
  intro e
  have := size_list s
  rw [e] at this
  simp at this
  omega
theorem isTok_empty {s : ByteArray} (h : s.size = 0) : isTok s.data.toList = false := by
  have := List.length_eq_zero_iff.1 ((size_list s).trans h)
  rw [this]; rfl

set_option maxHeartbeats 400000 in
theorem IsToken_any (s : ByteArray) (hs : s.size ≤ maxLen) (w : World) (t : Tab w) :
    Calls Tryz.prog 146 #[.string s] w fun e w' => e = .returned (.bool (isTok s.data.toList)) ∧ Below w.heap.size w w' := by
  by_cases hz : s.size = 0
  · have he := empty_of hz
    have HE : Hid (isTok s.data.toList = false) := isTok_empty hz
    clear hz
    go_enter Tryz.func146, Tryz.ntmps146
    go_wp2
    go_ret
    exact ⟨ret_bool HE.out.symm, Below.refl _ _⟩
  · have he := nonempty_of hz
    have HE : Hid (isTok s.data.toList = decide ((tokLen s.data.toList : Int) = (s.data.toList.length : Int))) := isTok_len _ (list_ne hz)
    have HT : Hid (Tab w) := t
    clear t
    go_enter Tryz.func146, Tryz.ntmps146
    go_wp2_with fail
    refine (tokenLength_any s hs _ HT.out).mono ?_
    rintro e w' ⟨rfl, hb⟩
    go_wp2
    go_ret
    exact ⟨ret_bool (by rw [HE.out, size_list]; rw [Bool.eq_iff_iff, beq_iff_eq, decide_eq_true_iff]), hb⟩

set_option maxHeartbeats 400000 in
theorem IsField_any (s : ByteArray) (hs : s.size ≤ maxLen) (w : World) :
    Calls Tryz.prog 63 #[.string s] w fun e w' => e = .returned (.bool (isFld s.data.toList)) ∧ Below w.heap.size w w' := by
  unfold maxLen at hs
  have hcv := fun w => Lib.run_convert_string_bytes (P := Tryz.prog) w 9 81 5 s Tryz.underlying9 Tryz.underlying81 Tryz.underlying5
  have hb := below_bytes w 5 s
  have hc := bytes_cell w 5 s
  go_enter Tryz.func63, Tryz.ntmps63
  go_wp2
  go_loop [8] (fun i => ∃ k : Nat, k ≤ s.size ∧ i = .int .i64 k ∧ Hid (∀ j, j < k → fieldI (byt s j) = true)) (fun i => s.size - (intOf i).toNat)
  case atStart => exact ⟨0, Nat.zero_le _, rfl, (fun j hj => by omega : ∀ j, j < 0 → _)⟩
  case round =>
    obtain ⟨k, hk, rfl, hall⟩ := hrel
    by_cases hlt : k < s.size
    · have hck := hc k hlt
      obtain ⟨b0, b1⟩ := byt_bd s k
      cases ht : fieldI (byt s k) with
      | true =>
        have HA : Hid (∀ j, j < k + 1 → fieldI (byt s j) = true) := by
          intro j hj
          by_cases hjk : j = k
          · subst hjk; exact ht
          · exact hall.out j (by omega)
        go_wp2_with (go_at_call 98; refine (isFieldByte_any _ b0 b1 _).mono ?_; rintro e w' ⟨rfl, rfl⟩)
        go_round
        case rel => exact ⟨k + 1, by omega, by go_num, HA⟩
        case measure => simp [intOf]; omega
      | false =>
        have HE : Hid (isFld s.data.toList = false) := all_not fieldB 0 _ k (by rw [size_list]; exact hlt) ht
        go_wp2_with (go_at_call 98; refine (isFieldByte_any _ b0 b1 _).mono ?_; rintro e w' ⟨rfl, rfl⟩)
        go_ret
        exact ⟨ret_bool HE.out.symm, hb⟩
    · have HE : Hid (isFld s.data.toList = true) := all_of fieldB 0 _ (fun j hj => hall.out j (by rw [size_list] at hj; omega))
      go_wp2
      go_ret
      exact ⟨ret_bool HE.out.symm, hb⟩

theorem low_ab : lowS ⟨#[97, 66]⟩ = ⟨#[97, 98]⟩ := by decide +kernel
theorem num_12 : numR 10 (⟨#[49, 50]⟩ : ByteArray).data.toList 12 = (12, 0) := by decide +kernel
theorem tok_x : isTok (⟨#[120]⟩ : ByteArray).data.toList = true := by decide +kernel

end Oc
end Go.Proofs.YtiabbppbmcnddaaGreatDoor

/-
  Texts without the blanks around.
-/
set_option linter.unusedVariables false
set_option linter.unusedSimpArgs false
namespace Go.Proofs.YtiabbppbmcnddaaGreatDoor
open Go.RowKit
namespace Oc

def trimL (l : List UInt8) : List UInt8 := l.dropWhile blankB
def trimR (l : List UInt8) : List UInt8 := (l.reverse.dropWhile blankB).reverse
def trim (l : List UInt8) : List UInt8 := trimR (trimL l)

theorem trimL_cons (x : UInt8) (l : List UInt8) : trimL (x :: l) = if blankB x then trimL l else x :: l := by
  unfold trimL; rw [List.dropWhile_cons]
theorem trimR_snoc (l : List UInt8) (x : UInt8) : trimR (l ++ [x]) = if blankB x then trimR l else l ++ [x] := by
  unfold trimR
  rw [List.reverse_append]
  show (List.dropWhile blankB (x :: l.reverse)).reverse = _
  rw [List.dropWhile_cons]
  split
  · rfl
  · simp
theorem trimR_nil : trimR [] = [] := rfl
theorem trimR_blank : ∀ l : List UInt8, l.all blankB = true → trimR l = [] := by
  intro l h
  unfold trimR
  have : List.dropWhile blankB l.reverse = [] := by
    have e : List.dropWhile blankB (l.reverse ++ []) = List.dropWhile blankB [] := List.dropWhile_append_of_pos (fun y hy => List.all_eq_true.1 h y (by simpa using hy))
    simpa using e
  rw [this]; rfl
theorem dropWhile_append_right (p : UInt8 → Bool) : ∀ (a b : List UInt8), a.all p = false → (a ++ b).dropWhile p = a.dropWhile p ++ b
  | [], b, h => by simp at h
  | x :: a, b, h => by
    rw [List.cons_append, List.dropWhile_cons, List.dropWhile_cons]
    cases hx : p x with
    | true =>
      have : a.all p = false := by simpa [hx] using h
      simp only [if_true]
      exact dropWhile_append_right p a b this
    | false => simp
theorem trimR_cons (x : UInt8) (l : List UInt8) : trimR (x :: l) = if l.all blankB then (if blankB x then [] else [x]) else x :: trimR l := by
  unfold trimR
  rw [List.reverse_cons]
  by_cases h : l.all blankB = true
  · rw [if_pos h]
    have e : List.dropWhile blankB (l.reverse ++ [x]) = List.dropWhile blankB [x] := List.dropWhile_append_of_pos (fun y hy => List.all_eq_true.1 h y (by simpa using hy))
    rw [e, List.dropWhile_cons]
    split <;> rfl
  · rw [if_neg h]
    have h' : l.reverse.all blankB = false := by
      rw [List.all_reverse]
      simpa using h
    rw [dropWhile_append_right blankB _ _ h']
    simp
theorem trim_comm : ∀ l : List UInt8, trimL (trimR l) = trimR (trimL l)
  | [] => rfl
  | x :: l => by
    have ih := trim_comm l
    rw [trimL_cons, trimR_cons]
    cases hx : blankB x with
    | true =>
      rw [if_pos rfl]
      by_cases h : l.all blankB = true
      · rw [if_pos h, if_pos rfl, ← ih, trimR_blank l h]
      · rw [if_neg h, trimL_cons, hx, if_pos rfl]
        exact ih
    | false =>
      rw [if_neg (show ¬ (false = true) by simp), if_neg (show ¬ (false = true) by simp), trimR_cons, hx, if_neg (show ¬ (false = true) by simp)]
      by_cases h : l.all blankB = true
      · rw [if_pos h, trimL_cons, hx, if_neg (by simp)]
      · rw [if_neg h, trimL_cons, hx, if_neg (by simp)]
theorem blank_set (c : UInt8) : ([32, 9] : List UInt8).contains c = blankB c := by
  have := c.toNat_lt
  unfold blankB blankI
  rw [Bool.eq_iff_iff, decide_eq_true_iff]
  simp only [List.contains_cons, List.contains_nil, Bool.or_false, Bool.or_eq_true, beq_iff_eq]
  constructor
  · rintro (rfl | rfl)
    · exact .inl rfl
    · exact .inr rfl
  · rintro (h | h)
    · exact .inl (UInt8.toNat_inj.1 (by show c.toNat = 32; omega))
    · exact .inr (UInt8.toNat_inj.1 (by show c.toNat = 9; omega))
theorem trimS_eq (l : List UInt8) : Lib.trimS l [32, 9] = trim l := by
  have e : (fun c => ([32, 9] : List UInt8).contains c) = blankB := funext blank_set
  unfold Lib.trimS Lib.trimLeftS Lib.trimRightS
  rw [e]
  exact trim_comm l
theorem trimLeftS_eq (l : List UInt8) : Lib.trimLeftS l [32, 9] = trimL l := by
  have e : (fun c => ([32, 9] : List UInt8).contains c) = blankB := funext blank_set
  unfold Lib.trimLeftS
  rw [e]
  rfl
theorem dropWhile_le (p : UInt8 → Bool) : ∀ l : List UInt8, (l.dropWhile p).length ≤ l.length
  | [] => Nat.le_refl _
  | x :: l => by
    rw [List.dropWhile_cons]
    split
    · have := dropWhile_le p l
      simp
      omega
    · exact Nat.le_refl _
theorem trimL_le (l : List UInt8) : (trimL l).length ≤ l.length := dropWhile_le _ _
theorem trimR_le (l : List UInt8) : (trimR l).length ≤ l.length := by
  unfold trimR
  rw [List.length_reverse]
  have := dropWhile_le blankB l.reverse
  simpa using this
theorem trim_le (l : List UInt8) : (trim l).length ≤ l.length := Nat.le_trans (trimR_le _) (trimL_le _)

def strLenV : Value → Nat | .string t => t.size | _ => 0

theorem cons_of {t : ByteArray} (h : ¬ t.size = 0) : t.data.toList = t.data.toList.getD 0 0 :: t.data.toList.drop 1 := by
  cases e : t.data.toList with
  | nil => exact absurd e (list_ne h)
  | cons a l => rfl
theorem snoc_of {t : ByteArray} (h : ¬ t.size = 0) : t.data.toList = t.data.toList.take (t.size - 1) ++ [t.data.toList.getD (t.size - 1) 0] := by
  have := take_snoc t (t.size - 1) (by omega)
  rw [show t.size - 1 + 1 = t.size by omega, List.take_of_length_le (by simp)] at this
  exact this
theorem tail_list (t : ByteArray) : (t.extract 1 t.size).data.toList = t.data.toList.drop 1 := Lib.extract_to_end t 1
theorem init_list (t : ByteArray) : (t.extract 0 (t.size - 1)).data.toList = t.data.toList.take (t.size - 1) := by rw [Lib.extract_data]; simp

end Oc
end Go.Proofs.YtiabbppbmcnddaaGreatDoor
