/- Several texts as one. -/
import Derived.Test.YticncpjpkgdnlaaGreatDoorMgB
import Derived.Laws.RangeAny
import Derived.Test.YticncpjpkgdnlaaGreatDoorHnE
/-
  handle: a reference, plainly.
-/
set_option linter.unusedVariables false
set_option linter.unusedSimpArgs false
namespace Go.Proofs.YticncpjpkgdnlaaGreatDoor
namespace Hn
open Oc

abbrev PrA := List UInt8 × List UInt8 × Bool
def nmB (u : UInt8) : Bool := lettI (u.toNat : Int) || (digI (u.toNat : Int) || decide ((u.toNat : Int) = 95))
def isNm : List UInt8 → Bool
  | [] => false
  | u :: t => lettI (u.toNat : Int) && t.all nmB
/-- A name, from a place on. -/
def nmF (k : Nat) (l : List UInt8) : Bool := if k = 0 then isNm l else (l.drop k).all nmB
theorem nmF_end {l : List UInt8} (h : l ≠ []) : nmF l.length l = true := by
  unfold nmF
  rw [if_neg (fun e => h (List.length_eq_zero_iff.1 e)), List.drop_length]
  rfl
theorem nmF_step (l : List UInt8) (k : Nat) (hk : k < l.length) : nmF k l = ((lettI ((l.getD k 0).toNat : Int) || (decide (k ≠ 0) && (decide (((l.getD k 0).toNat : Int) = 95) || digI ((l.getD k 0).toNat : Int)))) && nmF (k + 1) l) := by
  have hd : l.drop k = l.getD k 0 :: l.drop (k + 1) := by
    rw [List.drop_eq_getElem_cons hk, List.getD_eq_getElem?_getD, List.getElem?_eq_getElem hk]
    rfl
  by_cases h0 : k = 0
  · subst h0
    cases l with
    | nil => cases hk
    | cons u t =>
      show (lettI (u.toNat : Int) && t.all nmB) = ((lettI (u.toNat : Int) || _) && nmF 1 (u :: t))
      have : nmF 1 (u :: t) = t.all nmB := rfl
      rw [this]
      simp
  · have e1 : nmF k l = (l.drop k).all nmB := if_neg h0
    have e2 : nmF (k + 1) l = (l.drop (k + 1)).all nmB := if_neg (by omega)
    rw [e1, e2, hd, List.all_cons]
    generalize l.getD k 0 = u
    have e3 : nmB u = (lettI (u.toNat : Int) || (decide (k ≠ 0) && (decide ((u.toNat : Int) = 95) || digI (u.toNat : Int)))) := by
      unfold nmB
      rw [decide_eq_true h0, Bool.true_and, Bool.or_comm (digI _)]
    rw [e3]

/-- The raw value of the first of that name. -/
def valA (ps : List PrA) (n : List UInt8) : List UInt8 := match ps.find? (fun p => decide (p.1 = n)) with | some p => p.2.1 | none => []
/-- A reference gone through: outside of a name, or in one that is there so far. -/
def refG (ps : List PrA) : Option (List UInt8) → List UInt8 → Option (List UInt8)
  | none, [] => some []
  | some _, [] => none
  | none, u :: t => if u = 125 then none else if u = 123 then refG ps (some []) t else (refG ps none t).map (u :: ·)
  | some n, u :: t => if u = 125 then (if isNm n = true then (refG ps none t).map (valA ps n ++ ·) else none) else refG ps (some (n ++ [u])) t
def refR (ps : List PrA) (l : List UInt8) : List UInt8 × Int := if l = [] ∨ isFld l = false ∨ trim l ≠ l then ([], 180) else match refG ps none l with | some x => (x, 0) | none => ([], 180)

theorem refG_high (ps : List PrA) : ∀ (a t : List UInt8), (∀ u ∈ a, 128 ≤ u.toNat) → refG ps none (a ++ t) = (refG ps none t).map (a ++ ·)
  | [], t, _ => by simp
  | u :: a, t, h => by
    have h1 := h u (by simp)
    have n1 : u ≠ 125 := fun e => by rw [e] at h1; revert h1; decide
    have n2 : u ≠ 123 := fun e => by rw [e] at h1; revert h1; decide
    show (if u = 125 then none else if u = 123 then refG ps (some []) (a ++ t) else (refG ps none (a ++ t)).map (u :: ·)) = _
    rw [if_neg n1, if_neg n2, refG_high ps a t (fun x hx => h x (List.mem_cons_of_mem _ hx)), Option.map_map]
    rfl
theorem refG_highN (ps : List PrA) : ∀ (a n t : List UInt8), (∀ u ∈ a, 128 ≤ u.toNat) → refG ps (some n) (a ++ t) = refG ps (some (n ++ a)) t
  | [], n, t, _ => by simp
  | u :: a, n, t, h => by
    have h1 := h u (by simp)
    have n1 : u ≠ 125 := fun e => by rw [e] at h1; revert h1; decide
    show (if u = 125 then _ else refG ps (some (n ++ [u])) (a ++ t)) = _
    rw [if_neg n1, refG_highN ps a (n ++ [u]) t (fun x hx => h x (List.mem_cons_of_mem _ hx)), List.append_assoc]
    rfl
/-- How the program stands: in a name or not; what is written; the piece that is open; what is left. -/
def stR (ps : List PrA) (named : Bool) (acc piece rest : List UInt8) : Option (List UInt8) := if named = true then (refG ps (some piece) rest).map (acc ++ ·) else (refG ps none rest).map (fun x => acc ++ (piece ++ x))
theorem stR_high (ps : List PrA) (named : Bool) (acc piece a t : List UInt8) (h : ∀ u ∈ a, 128 ≤ u.toNat) : stR ps named acc piece (a ++ t) = stR ps named acc (piece ++ a) t := by
  unfold stR
  cases named with
  | true => rw [if_pos rfl, if_pos rfl, refG_highN ps a piece t h]
  | false =>
    rw [if_neg (by simp), if_neg (by simp), refG_high ps a t h, Option.map_map]
    congr 1
    funext x
    simp
theorem stR_open (ps : List PrA) (acc piece t : List UInt8) : stR ps false acc piece (123 :: t) = stR ps true (acc ++ piece) [] t := by
  show (refG ps none (123 :: t)).map _ = (refG ps (some []) t).map _
  have : refG ps none (123 :: t) = refG ps (some []) t := rfl
  rw [this]
  have e : ∀ z : Option (List UInt8), z = refG ps (some []) t → z.map (fun x => acc ++ (piece ++ x)) = z.map ((acc ++ piece) ++ ·) := fun z _ => by congr 1; funext x; simp
  -- what a name gives is not behind a piece: both write the same ahead of it
  exact e _ rfl
theorem stR_shut (ps : List PrA) (acc piece t : List UInt8) (h : isNm piece = true) : stR ps true acc piece (125 :: t) = stR ps false (acc ++ valA ps piece) [] t := by
  show (refG ps (some piece) (125 :: t)).map _ = (refG ps none t).map _
  have : refG ps (some piece) (125 :: t) = (refG ps none t).map (valA ps piece ++ ·) := by
    show (if (125 : UInt8) = 125 then (if isNm piece = true then _ else none) else _) = _
    rw [if_pos rfl, if_pos h]
  rw [this, Option.map_map]
  congr 1
  funext x
  simp
theorem stR_bad (ps : List PrA) (acc piece t : List UInt8) (h : isNm piece = false) : stR ps true acc piece (125 :: t) = none := by
  show (refG ps (some piece) (125 :: t)).map _ = none
  have : refG ps (some piece) (125 :: t) = none := by
    show (if (125 : UInt8) = 125 then (if isNm piece = true then _ else none) else _) = _
    rw [if_pos rfl, if_neg (by rw [h]; simp)]
  rw [this]
  rfl
theorem stR_bad2 (ps : List PrA) (acc piece t : List UInt8) : stR ps false acc piece (125 :: t) = none := rfl
theorem stR_on (ps : List PrA) (named : Bool) (acc piece t : List UInt8) (u : UInt8) (h1 : u ≠ 125) (h2 : named = false → u ≠ 123) : stR ps named acc piece (u :: t) = stR ps named acc (piece ++ [u]) t := by
  cases named with
  | true =>
    show (refG ps (some piece) (u :: t)).map _ = (refG ps (some (piece ++ [u])) t).map _
    have : refG ps (some piece) (u :: t) = refG ps (some (piece ++ [u])) t := by
      show (if u = 125 then _ else _) = _
      rw [if_neg h1]
    rw [this]
  | false =>
    show (refG ps none (u :: t)).map _ = (refG ps none t).map _
    have : refG ps none (u :: t) = (refG ps none t).map (u :: ·) := by
      show (if u = 125 then none else if u = 123 then refG ps (some []) t else (refG ps none t).map (u :: ·)) = _
      rw [if_neg h1, if_neg (h2 rfl)]
    rw [this, Option.map_map]
    congr 1
    funext x
    simp
theorem stR_endN (ps : List PrA) (acc piece : List UInt8) : stR ps true acc piece [] = none := rfl
theorem stR_end (ps : List PrA) (acc piece : List UInt8) : stR ps false acc piece [] = some (acc ++ piece) := by
  show some (acc ++ (piece ++ [])) = _
  rw [List.append_nil]
/-- The document: outside of a name. -/
theorem refG_one (ps : List PrA) (out t : List UInt8) (u : UInt8) (h1 : u ≠ 125) (h2 : u ≠ 123) : (refG ps none (u :: t)).map (out ++ ·) = (refG ps none t).map ((out ++ [u]) ++ ·) := by
  have : refG ps none (u :: t) = (refG ps none t).map (u :: ·) := by
    show (if u = 125 then none else if u = 123 then refG ps (some []) t else (refG ps none t).map (u :: ·)) = _
    rw [if_neg h1, if_neg h2]
  rw [this, Option.map_map]
  congr 1
  funext x
  simp
theorem refG_in (ps : List PrA) (n t : List UInt8) (u : UInt8) (h1 : u ≠ 125) : refG ps (some n) (u :: t) = refG ps (some (n ++ [u])) t := by
  show (if u = 125 then _ else _) = _
  rw [if_neg h1]
theorem refG_out (ps : List PrA) (n t : List UInt8) (h : isNm n = true) : refG ps (some n) (125 :: t) = (refG ps none t).map (valA ps n ++ ·) := by
  show (if (125 : UInt8) = 125 then (if isNm n = true then _ else none) else _) = _
  rw [if_pos rfl, if_pos h]
theorem refG_no (ps : List PrA) (n t : List UInt8) (h : isNm n = false) : refG ps (some n) (125 :: t) = none := by
  show (if (125 : UInt8) = 125 then (if isNm n = true then _ else none) else _) = _
  rw [if_pos rfl, if_neg (by rw [h]; simp)]

/-- A text's bytes from a place to another. -/
def sub (l : List UInt8) (a b : Nat) : List UInt8 := (l.take b).drop a
theorem sub_self (l : List UInt8) (a : Nat) : sub l a a = [] := by
  unfold sub
  rw [List.drop_eq_nil_iff, List.length_take]
  omega
theorem sub_len (l : List UInt8) (a b : Nat) (hb : b ≤ l.length) : (sub l a b).length = b - a := by
  unfold sub
  rw [List.length_drop, List.length_take]
  omega
theorem sub_on (l : List UInt8) (a b w : Nat) (hab : a ≤ b) (hb : b ≤ l.length) : sub l a (b + w) = sub l a b ++ (l.drop b).take w := by
  unfold sub
  rw [List.take_add, List.drop_append_of_le_length (by rw [List.length_take]; omega)]
theorem sub_one (l : List UInt8) (a b : Nat) (hab : a ≤ b) (hb : b < l.length) : sub l a (b + 1) = sub l a b ++ [l.getD b 0] := by
  rw [sub_on l a b 1 hab (by omega), List.drop_eq_getElem_cons hb, List.getD_eq_getElem?_getD, List.getElem?_eq_getElem hb]
  rfl
theorem drop_one (l : List UInt8) (b : Nat) (hb : b < l.length) : l.drop b = l.getD b 0 :: l.drop (b + 1) := by
  rw [List.drop_eq_getElem_cons hb, List.getD_eq_getElem?_getD, List.getElem?_eq_getElem hb]
  rfl
theorem drop_w (l : List UInt8) (b w : Nat) : l.drop b = (l.drop b).take w ++ l.drop (b + w) := by
  rw [← List.drop_drop, List.take_append_drop]
theorem ext_sub (s : ByteArray) (a b : Nat) : (s.extract a b).data.toList = sub s.data.toList a b := by
  rw [Lib.extract_data]
  unfold sub
  rw [List.drop_take]

/-! A rune's bytes. -/
theorem get_list (s : ByteArray) (k : Nat) : s.get! k = s.data.toList.getD k 0 := by
  show s.data[k]! = _
  rw [List.getD_eq_getElem?_getD, Array.getElem?_toList, getElem!_def]
  cases s.data[k]? <;> rfl
theorem dec_wide (s : ByteArray) (pos : Nat) (h : pos < s.size) (ha : 128 ≤ (s.data.toList.getD pos 0).toNat) : pos + (Utf8.decode s pos).2 ≤ s.size ∧ ∀ k, k < (Utf8.decode s pos).2 → 128 ≤ (s.data.toList.getD (pos + k) 0).toNat := by
  have one : ∀ x : Nat × Nat, x.2 = 1 → pos + x.2 ≤ s.size ∧ ∀ k, k < x.2 → 128 ≤ (s.data.toList.getD (pos + k) 0).toNat := by
    intro x hx
    refine ⟨by omega, fun k hk => ?_⟩
    obtain rfl : k = 0 := by omega
    exact ha
  have cont : ∀ j, (decide (pos + j < s.size) && (s.get! (pos + j)).toNat / 64 == 2) = true → pos + j < s.size ∧ 128 ≤ (s.data.toList.getD (pos + j) 0).toNat := by
    intro j hj
    simp only [Bool.and_eq_true, decide_eq_true_eq, beq_iff_eq] at hj
    rw [get_list] at hj
    exact ⟨hj.1, by omega⟩
  unfold Utf8.decode
  dsimp only
  split
  · rename_i h1
    rw [get_list, Nat.add_zero] at h1
    omega
  split
  · rename_i h2
    simp only [Bool.and_eq_true] at h2
    obtain ⟨c1, d1⟩ := cont 1 (by simpa [Bool.and_eq_true] using h2.2)
    split
    · refine ⟨by dsimp only; omega, fun k hk => ?_⟩
      dsimp only at hk
      rcases (show k = 0 ∨ k = 1 by omega) with rfl | rfl
      · exact ha
      · exact d1
    · exact one _ rfl
  split
  · rename_i h2
    simp only [Bool.and_eq_true] at h2
    obtain ⟨c1, d1⟩ := cont 1 (by simpa [Bool.and_eq_true] using h2.1.2)
    obtain ⟨c2, d2⟩ := cont 2 (by simpa [Bool.and_eq_true] using h2.2)
    split
    · refine ⟨by dsimp only; omega, fun k hk => ?_⟩
      dsimp only at hk
      rcases (show k = 0 ∨ k = 1 ∨ k = 2 by omega) with rfl | rfl | rfl
      · exact ha
      · exact d1
      · exact d2
    · exact one _ rfl
  split
  · rename_i h2
    simp only [Bool.and_eq_true] at h2
    obtain ⟨c1, d1⟩ := cont 1 (by simpa [Bool.and_eq_true] using h2.1.1.2)
    obtain ⟨c2, d2⟩ := cont 2 (by simpa [Bool.and_eq_true] using h2.1.2)
    obtain ⟨c3, d3⟩ := cont 3 (by simpa [Bool.and_eq_true] using h2.2)
    split
    · refine ⟨by dsimp only; omega, fun k hk => ?_⟩
      dsimp only at hk
      rcases (show k = 0 ∨ k = 1 ∨ k = 2 ∨ k = 3 by omega) with rfl | rfl | rfl | rfl
      · exact ha
      · exact d1
      · exact d2
      · exact d3
    · exact one _ rfl
  · exact one _ rfl
theorem dec_take (s : ByteArray) (pos : Nat) (h : pos < s.size) (ha : 128 ≤ (s.data.toList.getD pos 0).toNat) : ∀ u ∈ (s.data.toList.drop pos).take (Utf8.decode s pos).2, 128 ≤ u.toNat := by
  obtain ⟨h1, h2⟩ := dec_wide s pos h ha
  intro u hu
  obtain ⟨j, hj, rfl⟩ := List.getElem_of_mem hu
  rw [List.length_take, List.length_drop] at hj
  have := h2 j (by omega)
  rw [List.getElem_take, List.getElem_drop]
  rw [List.getD_eq_getElem?_getD, List.getElem?_eq_getElem (by omega)] at this
  exact this

end Hn
end Go.Proofs.YticncpjpkgdnlaaGreatDoor

/-
  handle: which handlers are right, plainly (written by mkhk.py).
-/
set_option linter.unusedVariables false
set_option linter.unusedSimpArgs false
set_option maxRecDepth 100000
namespace Go.Proofs.YticncpjpkgdnlaaGreatDoor
open Go.RowKit Go.Shelf
namespace Hn
open Oc Tg _root_.Go.Proofs.YticncpjpkgdnlaaGreatDoor.Fd _root_.Go.Proofs.YticncpjpkgdnlaaGreatDoor.Ck _root_.Go.Proofs.YticncpjpkgdnlaaGreatDoor.Ms

def E0 (s : ByteArray) : Bool := s.toList.isEmpty
def statB (s : Int) : Bool := decide (200 ≤ s) && decide (s ≤ 599)
def bareB (s : Int) : Bool := (s == 204) || (s == 304)
def movB (s : Int) : Bool := (s == 301) || ((s == 302) || ((s == 303) || ((s == 307) || (s == 308))))
def medB (s : ByteArray) : Bool := !E0 s && isValue s.data.toList
def qB (k st n : Int) (nm tx md : ByteArray) : Bool :=
  if k = 1 then E0 nm && (n == 0)
  else if k = 2 then E0 nm && (E0 tx && (E0 md && (n == 0)))
  else if k = 3 then E0 nm && (E0 md && (n == 0))
  else if k = 6 then E0 tx && (E0 md && (st == 0))
  else if k = 7 then E0 nm && (E0 tx && (E0 md && (st == 0)))
  else if k = 8 then E0 tx && (E0 md && ((st == 0) && (n == 0)))
  else E0 nm && (E0 tx && (E0 md && ((st == 0) && (n == 0))))
def rB (k st n : Int) (nm tx md : ByteArray) : Bool :=
  if k = 1 then statB st && (!bareB st && medB md)
  else if k = 2 then statB st
  else if k = 3 then movB st && ((refR [] tx.data.toList).2 == 0)
  else if k = 6 then (E0 nm || isNm nm.data.toList) && ((n == 0) || (n == 1))
  else if k = 7 then decide (1 ≤ n) && decide (n ≤ 1000)
  else if k = 8 then isTok nm.data.toList
  else if k = 4 then true
  else if k = 5 then true
  else if k = 9 then true
  else false
def chkB (k st n : Int) (nm tx md : ByteArray) : Bool := qB k st n nm tx md && rB k st n nm tx md
def chkI (k st n : Int) (nm tx md : ByteArray) : Int := if chkB k st n nm tx md = true then 0 else 180
theorem emp_l (s : ByteArray) : ((⟨#[]⟩ : ByteArray).toList == s.toList) = E0 s := by
  unfold E0
  have : (⟨#[]⟩ : ByteArray).toList = [] := by rw [ByteArray.toList_eq]
  rw [this]
  cases s.toList <;> rfl
theorem chk_out {k : Int} (h : k < 1 ∨ 9 < k) (st n : Int) (nm tx md : ByteArray) : chkB k st n nm tx md = false := by
  unfold chkB rB
  rw [if_neg (by omega), if_neg (by omega), if_neg (by omega), if_neg (by omega), if_neg (by omega), if_neg (by omega), if_neg (by omega), if_neg (by omega), if_neg (by omega), Bool.and_false]

end Hn
end Go.Proofs.YticncpjpkgdnlaaGreatDoor
