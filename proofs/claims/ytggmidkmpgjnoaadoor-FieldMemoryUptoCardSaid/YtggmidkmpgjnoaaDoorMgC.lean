/- Several texts as one. -/
import Derived.Test.YtggmidkmpgjnoaaDoorMgB
/-
  Numbers: the document's.
-/
set_option linter.unusedVariables false
set_option linter.unusedSimpArgs false
namespace Go.Proofs.YtggmidkmpgjnoaaDoor
open Go.RowKit
namespace Oc

theorem over_big10 {most n v : Int} (n0 : 0 ≤ n) (v0 : 0 ≤ v) (hm : v ≤ most) (h : (most - v) / 10 < n) : most < n * 10 + v := by omega
theorem over_fit10 {most n v : Int} (n0 : 0 ≤ n) (v0 : 0 ≤ v) (hm : v ≤ most) (h : ¬ (most - v) / 10 < n) : n * 10 + v ≤ most := by omega

theorem over_big16 {most n v : Int} (n0 : 0 ≤ n) (v0 : 0 ≤ v) (hm : v ≤ most) (h : (most - v) / 16 < n) : most < n * 16 + v := by omega
theorem over_fit16 {most n v : Int} (n0 : 0 ≤ n) (v0 : 0 ≤ v) (hm : v ≤ most) (h : ¬ (most - v) / 16 < n) : n * 16 + v ≤ most := by omega

end Oc
end Go.Proofs.YtggmidkmpgjnoaaDoor

/-
  Tokens, bytes of fields; the answers that keep the laws awake.
-/
set_option linter.unusedVariables false
set_option linter.unusedSimpArgs false
namespace Go.Proofs.YtggmidkmpgjnoaaDoor
open Go.RowKit
namespace Oc

theorem empty_of {s : ByteArray} (h : s.size = 0) : s.toList.isEmpty = true := by rw [ByteArray.toList_eq]; simp [List.length_eq_zero_iff.1 ((size_list s).trans h)]
theorem nonempty_of {s : ByteArray} (h : ¬ s.size = 0) : s.toList.isEmpty = false := by
  rw [ByteArray.toList_eq]
  cases e : s.data.toList with
  | nil => have := size_list s; rw [e] at this; simp at this; omega
  | cons _ _ => rfl
theorem list_ne {s : ByteArray} (h : ¬ s.size = 0) : s.data.toList ≠ [] := by
  intro e
  have := size_list s
  rw [e] at this
  simp at this
  omega
theorem isTok_empty {s : ByteArray} (h : s.size = 0) : isTok s.data.toList = false := by
  have := List.length_eq_zero_iff.1 ((size_list s).trans h)
  rw [this]; rfl

set_option maxHeartbeats 400000 in
theorem IsToken_any (s : ByteArray) (hs : s.size ≤ maxLen) (w : World) (t : Tab w) :
    Calls Tryd.prog 54 #[.string s] w fun e w' => e = .returned (.bool (isTok s.data.toList)) ∧ Below w.heap.size w w' := by
  by_cases hz : s.size = 0
  · have he := empty_of hz
    have HE : Hid (isTok s.data.toList = false) := isTok_empty hz
    clear hz
    go_enter Tryd.func54, Tryd.ntmps54
    go_wp2
    go_ret
    exact ⟨ret_bool HE.out.symm, Below.refl _ _⟩
  · have he := nonempty_of hz
    have HE : Hid (isTok s.data.toList = decide ((tokLen s.data.toList : Int) = (s.data.toList.length : Int))) := isTok_len _ (list_ne hz)
    have HT : Hid (Tab w) := t
    clear t
    go_enter Tryd.func54, Tryd.ntmps54
    go_wp2_with fail
    refine (tokenLength_any s hs _ HT.out).mono ?_
    rintro e w' ⟨rfl, hb⟩
    go_wp2
    go_ret
    exact ⟨ret_bool (by rw [HE.out, size_list]; rw [Bool.eq_iff_iff, beq_iff_eq, decide_eq_true_iff]), hb⟩

set_option maxHeartbeats 400000 in
theorem IsField_any (s : ByteArray) (hs : s.size ≤ maxLen) (w : World) :
    Calls Tryd.prog 58 #[.string s] w fun e w' => e = .returned (.bool (isFld s.data.toList)) ∧ Below w.heap.size w w' := by
  unfold maxLen at hs
  have hcv := fun w => Lib.run_convert_string_bytes (P := Tryd.prog) w 9 70 5 s Tryd.underlying9 Tryd.underlying70 Tryd.underlying5
  have hb := below_bytes w 5 s
  have hc := bytes_cell w 5 s
  go_enter Tryd.func58, Tryd.ntmps58
  go_wp2
  go_loop [8] (fun i => ∃ k : Nat, k ≤ s.size ∧ i = .int .i64 k ∧ Hid (∀ j, j < k → fieldI (byt s j) = true)) (fun i => s.size - (intOf i).toNat)
  case atStart => exact ⟨0, Nat.zero_le _, rfl, (fun j hj => by omega : ∀ j, j < 0 → _)⟩
  case round =>
    obtain ⟨k, hk, rfl, hall⟩ := hrel
    by_cases hlt : k < s.size
    · have hck := hc k hlt
      obtain ⟨b0, b1⟩ := byt_bd s k
      cases ht : fieldI (byt s k) with
      | true =>
        have HA : Hid (∀ j, j < k + 1 → fieldI (byt s j) = true) := by
          intro j hj
          by_cases hjk : j = k
          · subst hjk; exact ht
          · exact hall.out j (by omega)
        go_wp2_with (go_at_call 74; refine (isFieldByte_any _ b0 b1 _).mono ?_; rintro e w' ⟨rfl, rfl⟩)
        go_round
        case rel => exact ⟨k + 1, by omega, by go_num, HA⟩
        case measure => simp [intOf]; omega
      | false =>
        have HE : Hid (isFld s.data.toList = false) := all_not fieldB 0 _ k (by rw [size_list]; exact hlt) ht
        go_wp2_with (go_at_call 74; refine (isFieldByte_any _ b0 b1 _).mono ?_; rintro e w' ⟨rfl, rfl⟩)
        go_ret
        exact ⟨ret_bool HE.out.symm, hb⟩
    · have HE : Hid (isFld s.data.toList = true) := all_of fieldB 0 _ (fun j hj => hall.out j (by rw [size_list] at hj; omega))
      go_wp2
      go_ret
      exact ⟨ret_bool HE.out.symm, hb⟩

theorem low_ab : lowS ⟨#[97, 66]⟩ = ⟨#[97, 98]⟩ := by decide +kernel
theorem num_12 : numR 10 (⟨#[49, 50]⟩ : ByteArray).data.toList 12 = (12, 0) := by decide +kernel
theorem tok_x : isTok (⟨#[120]⟩ : ByteArray).data.toList = true := by decide +kernel

end Oc
end Go.Proofs.YtggmidkmpgjnoaaDoor

/-
  Quoted texts, plainly: over lists of bytes.
-/
set_option linter.unusedVariables false
set_option linter.unusedSimpArgs false
namespace Go.Proofs.YtggmidkmpgjnoaaDoor
namespace Oc

def qByte (c : UInt8) : List UInt8 := if c = 34 ∨ c = 92 then [92, c] else [c]
def qBody (l : List UInt8) : List UInt8 := l.flatMap qByte
def qText (l : List UInt8) : List UInt8 := 34 :: (qBody l ++ [34])
def quoteR (l : List UInt8) : List UInt8 × Int := if isFld l then (qText l, 0) else ([], 13)

theorem qBody_snoc (l : List UInt8) (c : UInt8) : qBody (l ++ [c]) = qBody l ++ qByte c := by unfold qBody; rw [List.flatMap_append]; simp
theorem qByte_le (c : UInt8) : (qByte c).length ≤ 2 := by unfold qByte; split <;> simp
theorem qBody_le : ∀ l : List UInt8, (qBody l).length ≤ 2 * l.length
  | [] => by simp [qBody]
  | c :: l => by
    have := qBody_le l
    have h := qByte_le c
    unfold qBody at *
    rw [List.flatMap_cons, List.length_append, List.length_cons]
    omega

/-- The rest of a quoted text behind its first sign: how many bytes up to its end. -/
def qscan : Bool → List UInt8 → Option Nat
  | _, [] => none
  | e, c :: l => if fieldB c = false then none else if e then (qscan false l).map (· + 1) else if c = 92 then (qscan true l).map (· + 1) else if c = 34 then some 1 else (qscan false l).map (· + 1)
def plusOne : Option Nat → Nat
  | some k => k + 1
  | none => 0
def qlen : List UInt8 → Nat
  | [] => 0
  | c :: l => if c = 34 then plusOne (qscan false l) else 0
theorem qlen_cons (c : UInt8) (l : List UInt8) : qlen (c :: l) = if c = 34 then plusOne (qscan false l) else 0 := rfl
/-- What parts say. -/
def psay : Bool → List UInt8 → List UInt8
  | _, [] => []
  | e, c :: l => if c = 92 ∧ e = false then psay true l else c :: psay false l
/-- The document's way: what it says, and how many bytes. -/
def ru : Bool → List UInt8 → Option (List UInt8 × Nat)
  | _, [] => none
  | true, c :: l => if fieldB c then (ru false l).map (fun x => (c :: x.1, x.2 + 1)) else none
  | false, c :: l => if c = 34 then some ([], 1) else if c = 92 then (ru true l).map (fun x => (x.1, x.2 + 1)) else if fieldB c then (ru false l).map (fun x => (c :: x.1, x.2 + 1)) else none

theorem field34 : fieldB 34 = true := by decide
theorem field92 : fieldB 92 = true := by decide

theorem qscan_pos : ∀ (l : List UInt8) (e : Bool) (k : Nat), qscan e l = some k → 1 ≤ k ∧ k ≤ l.length
  | [], e, k, h => by simp [qscan] at h
  | c :: l, e, k, h => by
    unfold qscan at h
    split at h
    · cases h
    · split at h
      · obtain ⟨j, hj, rfl⟩ := Option.map_eq_some_iff.1 h
        have := qscan_pos l _ j hj
        simp; omega
      · split at h
        · obtain ⟨j, hj, rfl⟩ := Option.map_eq_some_iff.1 h
          have := qscan_pos l _ j hj
          simp; omega
        · split at h
          · cases h; simp
          · obtain ⟨j, hj, rfl⟩ := Option.map_eq_some_iff.1 h
            have := qscan_pos l _ j hj
            simp; omega

theorem ru_eq : ∀ (l : List UInt8) (e : Bool), ru e l = (qscan e l).map (fun k => (psay e (l.take (k - 1)), k))
  | [], e => by cases e <;> rfl
  | c :: l, true => by
    unfold ru qscan
    cases hf : fieldB c with
    | false => simp
    | true =>
      simp only [if_true, Bool.true_eq_false, if_false]
      rw [ru_eq l false]
      cases hq : qscan false l with
      | none => rfl
      | some k =>
        have hk := qscan_pos l false k hq
        simp only [Option.map_some, Option.some.injEq, Prod.mk.injEq, and_true]
        rw [show k + 1 - 1 = (k - 1) + 1 by omega, List.take_succ_cons, psay]
        simp
  | c :: l, false => by
    unfold ru qscan
    by_cases h34 : c = 34
    · subst h34
      simp [field34, psay]
    · rw [if_neg h34]
      by_cases h92 : c = 92
      · subst h92
        simp only [field92, if_true, Bool.true_eq_false, if_false, Bool.false_eq_true]
        rw [ru_eq l true]
        cases hq : qscan true l with
        | none => rfl
        | some k =>
          have hk := qscan_pos l true k hq
          simp only [Option.map_some, Option.some.injEq, Prod.mk.injEq, and_true]
          rw [show k + 1 - 1 = (k - 1) + 1 by omega, List.take_succ_cons, psay]
          simp
      · rw [if_neg h92]
        cases hf : fieldB c with
        | false => simp
        | true =>
          simp only [if_true, Bool.true_eq_false, if_false, Bool.false_eq_true, if_neg h92, if_neg h34]
          rw [ru_eq l false]
          cases hq : qscan false l with
          | none => rfl
          | some k =>
            have hk := qscan_pos l false k hq
            simp only [Option.map_some, Option.some.injEq, Prod.mk.injEq, and_true]
            rw [show k + 1 - 1 = (k - 1) + 1 by omega, List.take_succ_cons, psay]
            simp [h92]

/-- What Unquote answers. -/
def unqR (l : List UInt8) : List UInt8 × Int × Int :=
  if qlen l = 0 then ([], 0, 13) else (psay false ((l.drop 1).take (qlen l - 2)), (qlen l : Int), 0)

theorem qlen_bd (l : List UInt8) : qlen l ≤ l.length ∧ (qlen l ≠ 0 → 2 ≤ qlen l) := by
  cases l with
  | nil => simp [qlen]
  | cons c l =>
    by_cases hc : c = 34
    · cases hq : qscan false l with
      | none => simp [qlen, plusOne, hc, hq]
      | some k =>
        have := qscan_pos l false k hq
        have e : qlen (c :: l) = k + 1 := by simp [qlen, plusOne, hc, hq]
        rw [e]
        simp
        omega
    · simp [qlen, hc]
theorem psay_le : ∀ (l : List UInt8) (e : Bool), (psay e l).length ≤ l.length
  | [], e => by simp [psay]
  | c :: l, e => by
    unfold psay
    split
    · have := psay_le l true
      simp; omega
    · have := psay_le l false
      simp; omega

/-- By the document's way. -/
theorem unqR_none (l : List UInt8) (h : ru false l = none) : unqR (34 :: l) = ([], 0, 13) := by
  rw [ru_eq] at h
  cases hq : qscan false l with
  | none => simp [unqR, qlen, plusOne, hq]
  | some k => rw [hq] at h; cases h
theorem unqR_some (l : List UInt8) (x : List UInt8 × Nat) (h : ru false l = some x) : unqR (34 :: l) = (x.1, (x.2 : Int) + 1, 0) := by
  rw [ru_eq] at h
  cases hq : qscan false l with
  | none => rw [hq] at h; cases h
  | some k =>
    rw [hq] at h
    simp only [Option.map_some, Option.some.injEq] at h
    have e : qlen (34 :: l) = k + 1 := by simp [qlen, plusOne, hq]
    unfold unqR
    rw [e, if_neg (by omega), ← h]
    simp

/-- What was quoted is read back, whatever stands behind. -/
theorem ru_body : ∀ (l : List UInt8) (r : List UInt8), isFld l = true → ru false (qBody l ++ 34 :: r) = some (l, (qBody l).length + 1)
  | [], r, _ => by simp [qBody, ru]
  | c :: l, r, h => by
    have hc : fieldB c = true ∧ isFld l = true := by simpa [isFld] using h
    have ih := ru_body l r hc.2
    have e : qBody (c :: l) = qByte c ++ qBody l := by unfold qBody; rw [List.flatMap_cons]
    rw [e, List.append_assoc]
    unfold qByte
    by_cases hq : c = 34 ∨ c = 92
    · rw [if_pos hq]
      show ru false (92 :: c :: (qBody l ++ 34 :: r)) = _
      rw [ru, if_neg (by decide), if_pos rfl, ru, if_pos hc.1, ih]
      simp
    · rw [if_neg hq]
      show ru false (c :: (qBody l ++ 34 :: r)) = _
      rw [ru, if_neg (fun h => hq (.inl h)), if_neg (fun h => hq (.inr h)), if_pos hc.1, ih]
      simp
theorem unqR_back (l r : List UInt8) (h : isFld l = true) : unqR (qText l ++ r) = (l, ((qText l).length : Int), 0) := by
  have e : qText l ++ r = 34 :: (qBody l ++ 34 :: r) := by unfold qText; simp
  rw [e, unqR_some _ _ (ru_body l r h)]
  unfold qText
  simp

end Oc
end Go.Proofs.YtggmidkmpgjnoaaDoor
