/- Several texts as one. -/
import Derived.Test.YticncpjpkgdnlaaGreatDoorMgC
import Derived.Laws.RangeAny
import Derived.Test.YticncpjpkgdnlaaGreatDoorMgN
import Derived.Test.YticncpjpkgdnlaaGreatDoorMgH
import Derived.Deep.RegionLaw
import Derived.Laws.AppendOwnNone
import Derived.Test.YticncpjpkgdnlaaGreatDoorMgM
import Derived.Lib.OthersKept
/-
  handle: a reference, plainly.
-/
set_option linter.unusedVariables false
set_option linter.unusedSimpArgs false
namespace Go.Proofs.YticncpjpkgdnlaaGreatDoor
namespace Hn
open Oc

abbrev PrA := List UInt8 × List UInt8 × Bool
def nmB (u : UInt8) : Bool := lettI (u.toNat : Int) || (digI (u.toNat : Int) || decide ((u.toNat : Int) = 95))
def isNm : List UInt8 → Bool
  | [] => false
  | u :: t => lettI (u.toNat : Int) && t.all nmB
/-- A name, from a place on. -/
def nmF (k : Nat) (l : List UInt8) : Bool := if k = 0 then isNm l else (l.drop k).all nmB
theorem nmF_end {l : List UInt8} (h : l ≠ []) : nmF l.length l = true := by
  unfold nmF
  rw [if_neg (fun e => h (List.length_eq_zero_iff.1 e)), List.drop_length]
  rfl
theorem nmF_step (l : List UInt8) (k : Nat) (hk : k < l.length) : nmF k l = ((lettI ((l.getD k 0).toNat : Int) || (decide (k ≠ 0) && (decide (((l.getD k 0).toNat : Int) = 95) || digI ((l.getD k 0).toNat : Int)))) && nmF (k + 1) l) := by
  have hd : l.drop k = l.getD k 0 :: l.drop (k + 1) := by
    rw [List.drop_eq_getElem_cons hk, List.getD_eq_getElem?_getD, List.getElem?_eq_getElem hk]
    rfl
  by_cases h0 : k = 0
  · subst h0
    cases l with
    | nil => cases hk
    | cons u t =>
      show (lettI (u.toNat : Int) && t.all nmB) = ((lettI (u.toNat : Int) || _) && nmF 1 (u :: t))
      have : nmF 1 (u :: t) = t.all nmB := rfl
      rw [this]
      simp
  · have e1 : nmF k l = (l.drop k).all nmB := if_neg h0
    have e2 : nmF (k + 1) l = (l.drop (k + 1)).all nmB := if_neg (by omega)
    rw [e1, e2, hd, List.all_cons]
    generalize l.getD k 0 = u
    have e3 : nmB u = (lettI (u.toNat : Int) || (decide (k ≠ 0) && (decide ((u.toNat : Int) = 95) || digI (u.toNat : Int)))) := by
      unfold nmB
      rw [decide_eq_true h0, Bool.true_and, Bool.or_comm (digI _)]
    rw [e3]

/-- The raw value of the first of that name. -/
def valA (ps : List PrA) (n : List UInt8) : List UInt8 := match ps.find? (fun p => decide (p.1 = n)) with | some p => p.2.1 | none => []
/-- A reference gone through: outside of a name, or in one that is there so far. -/
def refG (ps : List PrA) : Option (List UInt8) → List UInt8 → Option (List UInt8)
  | none, [] => some []
  | some _, [] => none
  | none, u :: t => if u = 125 then none else if u = 123 then refG ps (some []) t else (refG ps none t).map (u :: ·)
  | some n, u :: t => if u = 125 then (if isNm n = true then (refG ps none t).map (valA ps n ++ ·) else none) else refG ps (some (n ++ [u])) t
def refR (ps : List PrA) (l : List UInt8) : List UInt8 × Int := if l = [] ∨ isFld l = false ∨ trim l ≠ l then ([], 180) else match refG ps none l with | some x => (x, 0) | none => ([], 180)

theorem refG_high (ps : List PrA) : ∀ (a t : List UInt8), (∀ u ∈ a, 128 ≤ u.toNat) → refG ps none (a ++ t) = (refG ps none t).map (a ++ ·)
  | [], t, _ => by simp
  | u :: a, t, h => by
    have h1 := h u (by simp)
    have n1 : u ≠ 125 := fun e => by rw [e] at h1; revert h1; decide
    have n2 : u ≠ 123 := fun e => by rw [e] at h1; revert h1; decide
    show (if u = 125 then none else if u = 123 then refG ps (some []) (a ++ t) else (refG ps none (a ++ t)).map (u :: ·)) = _
    rw [if_neg n1, if_neg n2, refG_high ps a t (fun x hx => h x (List.mem_cons_of_mem _ hx)), Option.map_map]
    rfl
theorem refG_highN (ps : List PrA) : ∀ (a n t : List UInt8), (∀ u ∈ a, 128 ≤ u.toNat) → refG ps (some n) (a ++ t) = refG ps (some (n ++ a)) t
  | [], n, t, _ => by simp
  | u :: a, n, t, h => by
    have h1 := h u (by simp)
    have n1 : u ≠ 125 := fun e => by rw [e] at h1; revert h1; decide
    show (if u = 125 then _ else refG ps (some (n ++ [u])) (a ++ t)) = _
    rw [if_neg n1, refG_highN ps a (n ++ [u]) t (fun x hx => h x (List.mem_cons_of_mem _ hx)), List.append_assoc]
    rfl
/-- How the program stands: in a name or not; what is written; the piece that is open; what is left. -/
def stR (ps : List PrA) (named : Bool) (acc piece rest : List UInt8) : Option (List UInt8) := if named = true then (refG ps (some piece) rest).map (acc ++ ·) else (refG ps none rest).map (fun x => acc ++ (piece ++ x))
theorem stR_high (ps : List PrA) (named : Bool) (acc piece a t : List UInt8) (h : ∀ u ∈ a, 128 ≤ u.toNat) : stR ps named acc piece (a ++ t) = stR ps named acc (piece ++ a) t := by
  unfold stR
  cases named with
  | true => rw [if_pos rfl, if_pos rfl, refG_highN ps a piece t h]
  | false =>
    rw [if_neg (by simp), if_neg (by simp), refG_high ps a t h, Option.map_map]
    congr 1
    funext x
    simp
theorem stR_open (ps : List PrA) (acc piece t : List UInt8) : stR ps false acc piece (123 :: t) = stR ps true (acc ++ piece) [] t := by
  show (refG ps none (123 :: t)).map _ = (refG ps (some []) t).map _
  have : refG ps none (123 :: t) = refG ps (some []) t := rfl
  rw [this]
  have e : ∀ z : Option (List UInt8), z = refG ps (some []) t → z.map (fun x => acc ++ (piece ++ x)) = z.map ((acc ++ piece) ++ ·) := fun z _ => by congr 1; funext x; simp
  -- what a name gives is not behind a piece: both write the same ahead of it
  exact e _ rfl
theorem stR_shut (ps : List PrA) (acc piece t : List UInt8) (h : isNm piece = true) : stR ps true acc piece (125 :: t) = stR ps false (acc ++ valA ps piece) [] t := by
  show (refG ps (some piece) (125 :: t)).map _ = (refG ps none t).map _
  have : refG ps (some piece) (125 :: t) = (refG ps none t).map (valA ps piece ++ ·) := by
    show (if (125 : UInt8) = 125 then (if isNm piece = true then _ else none) else _) = _
    rw [if_pos rfl, if_pos h]
  rw [this, Option.map_map]
  congr 1
  funext x
  simp
theorem stR_bad (ps : List PrA) (acc piece t : List UInt8) (h : isNm piece = false) : stR ps true acc piece (125 :: t) = none := by
  show (refG ps (some piece) (125 :: t)).map _ = none
  have : refG ps (some piece) (125 :: t) = none := by
    show (if (125 : UInt8) = 125 then (if isNm piece = true then _ else none) else _) = _
    rw [if_pos rfl, if_neg (by rw [h]; simp)]
  rw [this]
  rfl
theorem stR_bad2 (ps : List PrA) (acc piece t : List UInt8) : stR ps false acc piece (125 :: t) = none := rfl
theorem stR_on (ps : List PrA) (named : Bool) (acc piece t : List UInt8) (u : UInt8) (h1 : u ≠ 125) (h2 : named = false → u ≠ 123) : stR ps named acc piece (u :: t) = stR ps named acc (piece ++ [u]) t := by
  cases named with
  | true =>
    show (refG ps (some piece) (u :: t)).map _ = (refG ps (some (piece ++ [u])) t).map _
    have : refG ps (some piece) (u :: t) = refG ps (some (piece ++ [u])) t := by
      show (if u = 125 then _ else _) = _
      rw [if_neg h1]
    rw [this]
  | false =>
    show (refG ps none (u :: t)).map _ = (refG ps none t).map _
    have : refG ps none (u :: t) = (refG ps none t).map (u :: ·) := by
      show (if u = 125 then none else if u = 123 then refG ps (some []) t else (refG ps none t).map (u :: ·)) = _
      rw [if_neg h1, if_neg (h2 rfl)]
    rw [this, Option.map_map]
    congr 1
    funext x
    simp
theorem stR_endN (ps : List PrA) (acc piece : List UInt8) : stR ps true acc piece [] = none := rfl
theorem stR_end (ps : List PrA) (acc piece : List UInt8) : stR ps false acc piece [] = some (acc ++ piece) := by
  show some (acc ++ (piece ++ [])) = _
  rw [List.append_nil]
/-- The document: outside of a name. -/
theorem refG_one (ps : List PrA) (out t : List UInt8) (u : UInt8) (h1 : u ≠ 125) (h2 : u ≠ 123) : (refG ps none (u :: t)).map (out ++ ·) = (refG ps none t).map ((out ++ [u]) ++ ·) := by
  have : refG ps none (u :: t) = (refG ps none t).map (u :: ·) := by
    show (if u = 125 then none else if u = 123 then refG ps (some []) t else (refG ps none t).map (u :: ·)) = _
    rw [if_neg h1, if_neg h2]
  rw [this, Option.map_map]
  congr 1
  funext x
  simp
theorem refG_in (ps : List PrA) (n t : List UInt8) (u : UInt8) (h1 : u ≠ 125) : refG ps (some n) (u :: t) = refG ps (some (n ++ [u])) t := by
  show (if u = 125 then _ else _) = _
  rw [if_neg h1]
theorem refG_out (ps : List PrA) (n t : List UInt8) (h : isNm n = true) : refG ps (some n) (125 :: t) = (refG ps none t).map (valA ps n ++ ·) := by
  show (if (125 : UInt8) = 125 then (if isNm n = true then _ else none) else _) = _
  rw [if_pos rfl, if_pos h]
theorem refG_no (ps : List PrA) (n t : List UInt8) (h : isNm n = false) : refG ps (some n) (125 :: t) = none := by
  show (if (125 : UInt8) = 125 then (if isNm n = true then _ else none) else _) = _
  rw [if_pos rfl, if_neg (by rw [h]; simp)]

/-- A text's bytes from a place to another. -/
def sub (l : List UInt8) (a b : Nat) : List UInt8 := (l.take b).drop a
theorem sub_self (l : List UInt8) (a : Nat) : sub l a a = [] := by
  unfold sub
  rw [List.drop_eq_nil_iff, List.length_take]
  omega
theorem sub_len (l : List UInt8) (a b : Nat) (hb : b ≤ l.length) : (sub l a b).length = b - a := by
  unfold sub
  rw [List.length_drop, List.length_take]
  omega
theorem sub_on (l : List UInt8) (a b w : Nat) (hab : a ≤ b) (hb : b ≤ l.length) : sub l a (b + w) = sub l a b ++ (l.drop b).take w := by
  unfold sub
  rw [List.take_add, List.drop_append_of_le_length (by rw [List.length_take]; omega)]
theorem sub_one (l : List UInt8) (a b : Nat) (hab : a ≤ b) (hb : b < l.length) : sub l a (b + 1) = sub l a b ++ [l.getD b 0] := by
  rw [sub_on l a b 1 hab (by omega), List.drop_eq_getElem_cons hb, List.getD_eq_getElem?_getD, List.getElem?_eq_getElem hb]
  rfl
theorem drop_one (l : List UInt8) (b : Nat) (hb : b < l.length) : l.drop b = l.getD b 0 :: l.drop (b + 1) := by
  rw [List.drop_eq_getElem_cons hb, List.getD_eq_getElem?_getD, List.getElem?_eq_getElem hb]
  rfl
theorem drop_w (l : List UInt8) (b w : Nat) : l.drop b = (l.drop b).take w ++ l.drop (b + w) := by
  rw [← List.drop_drop, List.take_append_drop]
theorem ext_sub (s : ByteArray) (a b : Nat) : (s.extract a b).data.toList = sub s.data.toList a b := by
  rw [Lib.extract_data]
  unfold sub
  rw [List.drop_take]

/-! A rune's bytes. -/
theorem get_list (s : ByteArray) (k : Nat) : s.get! k = s.data.toList.getD k 0 := by
  show s.data[k]! = _
  rw [List.getD_eq_getElem?_getD, Array.getElem?_toList, getElem!_def]
  cases s.data[k]? <;> rfl
theorem dec_wide (s : ByteArray) (pos : Nat) (h : pos < s.size) (ha : 128 ≤ (s.data.toList.getD pos 0).toNat) : pos + (Utf8.decode s pos).2 ≤ s.size ∧ ∀ k, k < (Utf8.decode s pos).2 → 128 ≤ (s.data.toList.getD (pos + k) 0).toNat := by
  have one : ∀ x : Nat × Nat, x.2 = 1 → pos + x.2 ≤ s.size ∧ ∀ k, k < x.2 → 128 ≤ (s.data.toList.getD (pos + k) 0).toNat := by
    intro x hx
    refine ⟨by omega, fun k hk => ?_⟩
    obtain rfl : k = 0 := by omega
    exact ha
  have cont : ∀ j, (decide (pos + j < s.size) && (s.get! (pos + j)).toNat / 64 == 2) = true → pos + j < s.size ∧ 128 ≤ (s.data.toList.getD (pos + j) 0).toNat := by
    intro j hj
    simp only [Bool.and_eq_true, decide_eq_true_eq, beq_iff_eq] at hj
    rw [get_list] at hj
    exact ⟨hj.1, by omega⟩
  unfold Utf8.decode
  dsimp only
  split
  · rename_i h1
    rw [get_list, Nat.add_zero] at h1
    omega
  split
  · rename_i h2
    simp only [Bool.and_eq_true] at h2
    obtain ⟨c1, d1⟩ := cont 1 (by simpa [Bool.and_eq_true] using h2.2)
    split
    · refine ⟨by dsimp only; omega, fun k hk => ?_⟩
      dsimp only at hk
      rcases (show k = 0 ∨ k = 1 by omega) with rfl | rfl
      · exact ha
      · exact d1
    · exact one _ rfl
  split
  · rename_i h2
    simp only [Bool.and_eq_true] at h2
    obtain ⟨c1, d1⟩ := cont 1 (by simpa [Bool.and_eq_true] using h2.1.2)
    obtain ⟨c2, d2⟩ := cont 2 (by simpa [Bool.and_eq_true] using h2.2)
    split
    · refine ⟨by dsimp only; omega, fun k hk => ?_⟩
      dsimp only at hk
      rcases (show k = 0 ∨ k = 1 ∨ k = 2 by omega) with rfl | rfl | rfl
      · exact ha
      · exact d1
      · exact d2
    · exact one _ rfl
  split
  · rename_i h2
    simp only [Bool.and_eq_true] at h2
    obtain ⟨c1, d1⟩ := cont 1 (by simpa [Bool.and_eq_true] using h2.1.1.2)
    obtain ⟨c2, d2⟩ := cont 2 (by simpa [Bool.and_eq_true] using h2.1.2)
    obtain ⟨c3, d3⟩ := cont 3 (by simpa [Bool.and_eq_true] using h2.2)
    split
    · refine ⟨by dsimp only; omega, fun k hk => ?_⟩
      dsimp only at hk
      rcases (show k = 0 ∨ k = 1 ∨ k = 2 ∨ k = 3 by omega) with rfl | rfl | rfl | rfl
      · exact ha
      · exact d1
      · exact d2
      · exact d3
    · exact one _ rfl
  · exact one _ rfl
theorem dec_take (s : ByteArray) (pos : Nat) (h : pos < s.size) (ha : 128 ≤ (s.data.toList.getD pos 0).toNat) : ∀ u ∈ (s.data.toList.drop pos).take (Utf8.decode s pos).2, 128 ≤ u.toNat := by
  obtain ⟨h1, h2⟩ := dec_wide s pos h ha
  intro u hu
  obtain ⟨j, hj, rfl⟩ := List.getElem_of_mem hu
  rw [List.length_take, List.length_drop] at hj
  have := h2 j (by omega)
  rw [List.getElem_take, List.getElem_drop]
  rw [List.getD_eq_getElem?_getD, List.getElem?_eq_getElem (by omega)] at this
  exact this

end Hn
end Go.Proofs.YticncpjpkgdnlaaGreatDoor

/-
  handle: which handlers are right, plainly (written by mkhk.py).
-/
set_option linter.unusedVariables false
set_option linter.unusedSimpArgs false
set_option maxRecDepth 100000
namespace Go.Proofs.YticncpjpkgdnlaaGreatDoor
open Go.RowKit Go.Shelf
namespace Hn
open Oc Tg _root_.Go.Proofs.YticncpjpkgdnlaaGreatDoor.Fd _root_.Go.Proofs.YticncpjpkgdnlaaGreatDoor.Ck _root_.Go.Proofs.YticncpjpkgdnlaaGreatDoor.Ms

def E0 (s : ByteArray) : Bool := s.toList.isEmpty
def statB (s : Int) : Bool := decide (200 ≤ s) && decide (s ≤ 599)
def bareB (s : Int) : Bool := (s == 204) || (s == 304)
def movB (s : Int) : Bool := (s == 301) || ((s == 302) || ((s == 303) || ((s == 307) || (s == 308))))
def medB (s : ByteArray) : Bool := !E0 s && isValue s.data.toList
def qB (k st n : Int) (nm tx md : ByteArray) : Bool :=
  if k = 1 then E0 nm && (n == 0)
  else if k = 2 then E0 nm && (E0 tx && (E0 md && (n == 0)))
  else if k = 3 then E0 nm && (E0 md && (n == 0))
  else if k = 6 then E0 tx && (E0 md && (st == 0))
  else if k = 7 then E0 nm && (E0 tx && (E0 md && (st == 0)))
  else if k = 8 then E0 tx && (E0 md && ((st == 0) && (n == 0)))
  else E0 nm && (E0 tx && (E0 md && ((st == 0) && (n == 0))))
def rB (k st n : Int) (nm tx md : ByteArray) : Bool :=
  if k = 1 then statB st && (!bareB st && medB md)
  else if k = 2 then statB st
  else if k = 3 then movB st && ((refR [] tx.data.toList).2 == 0)
  else if k = 6 then (E0 nm || isNm nm.data.toList) && ((n == 0) || (n == 1))
  else if k = 7 then decide (1 ≤ n) && decide (n ≤ 1000)
  else if k = 8 then isTok nm.data.toList
  else if k = 4 then true
  else if k = 5 then true
  else if k = 9 then true
  else false
def chkB (k st n : Int) (nm tx md : ByteArray) : Bool := qB k st n nm tx md && rB k st n nm tx md
def chkI (k st n : Int) (nm tx md : ByteArray) : Int := if chkB k st n nm tx md = true then 0 else 180
theorem emp_l (s : ByteArray) : ((⟨#[]⟩ : ByteArray).toList == s.toList) = E0 s := by
  unfold E0
  have : (⟨#[]⟩ : ByteArray).toList = [] := by rw [ByteArray.toList_eq]
  rw [this]
  cases s.toList <;> rfl
theorem chk_out {k : Int} (h : k < 1 ∨ 9 < k) (st n : Int) (nm tx md : ByteArray) : chkB k st n nm tx md = false := by
  unfold chkB rB
  rw [if_neg (by omega), if_neg (by omega), if_neg (by omega), if_neg (by omega), if_neg (by omega), if_neg (by omega), if_neg (by omega), if_neg (by omega), if_neg (by omega), Bool.and_false]

end Hn
end Go.Proofs.YticncpjpkgdnlaaGreatDoor

/-
  handle: isName, the document's IsName.
-/
set_option linter.unusedVariables false
set_option linter.unusedSimpArgs false
set_option maxRecDepth 100000
namespace Go.Proofs.YticncpjpkgdnlaaGreatDoor
open Go.RowKit Go.Shelf
namespace Hn
open Oc

set_option maxHeartbeats 400000 in
theorem isDigit_any (c : Int) (w : World) :
    Calls Tryz.prog 89 #[.int .i32 c] w fun e w' => e = .returned (.bool (digI c)) ∧ w' = w := by
  by_cases a : 48 ≤ c
  · by_cases b : c ≤ 57
    · go_enter Tryz.func89, Tryz.ntmps89
      go_wp2
      go_ret
      exact ⟨ret_bool (digI_t ⟨a, b⟩).symm, rfl⟩
    · go_enter Tryz.func89, Tryz.ntmps89
      go_wp2
      go_ret
      exact ⟨ret_bool (digI_f (by omega)).symm, rfl⟩
  · go_enter Tryz.func89, Tryz.ntmps89
    go_wp2
    go_ret
    exact ⟨ret_bool (digI_f (by omega)).symm, rfl⟩

set_option maxHeartbeats 400000 in
theorem isLetter_any (c : Int) (w : World) :
    Calls Tryz.prog 88 #[.int .i32 c] w fun e w' => e = .returned (.bool (lettI c)) ∧ w' = w := by
  by_cases a : 97 ≤ c
  · by_cases b : c ≤ 122
    · go_enter Tryz.func88, Tryz.ntmps88
      go_wp2
      go_ret
      exact ⟨ret_bool (lettI_t (by omega)).symm, rfl⟩
    · have a2 : 65 ≤ c := by omega
      have b2 : ¬ c ≤ 90 := by omega
      go_enter Tryz.func88, Tryz.ntmps88
      go_wp2
      go_ret
      exact ⟨ret_bool (lettI_f (by omega)).symm, rfl⟩
  · by_cases a2 : 65 ≤ c
    · by_cases b2 : c ≤ 90
      · go_enter Tryz.func88, Tryz.ntmps88
        go_wp2
        go_ret
        exact ⟨ret_bool (lettI_t (by omega)).symm, rfl⟩
      · go_enter Tryz.func88, Tryz.ntmps88
        go_wp2
        go_ret
        exact ⟨ret_bool (lettI_f (by omega)).symm, rfl⟩
    · go_enter Tryz.func88, Tryz.ntmps88
      go_wp2
      go_ret
      exact ⟨ret_bool (lettI_f (by omega)).symm, rfl⟩

/-- What next gives of a text: its place's rune, as far as names go. -/
theorem rune_at (s : ByteArray) (pos : Nat) (hp : pos < s.size) : ∃ (c w : Nat), Utf8.decode s pos = (c, w) ∧ 1 ≤ w ∧ c ≤ 2147483647 ∧ (((s.data.toList.getD pos 0).toNat < 128 ∧ c = (s.data.toList.getD pos 0).toNat ∧ w = 1) ∨ (128 ≤ (s.data.toList.getD pos 0).toNat ∧ 128 ≤ c)) := by
  have hg : (s[pos]'hp) = s.data.toList.getD pos 0 := (at_lt s pos hp).symm
  by_cases ha : (s.data.toList.getD pos 0).toNat < 128
  · have h := decode_ascii s pos hp (by rw [hg]; exact ha)
    rw [hg] at h
    exact ⟨_, _, h, Nat.le_refl _, by omega, .inl ⟨ha, rfl, rfl⟩⟩
  · have h := decode_high s pos hp (by rw [hg]; omega)
    exact ⟨_, _, rfl, h.2, decode_le s pos, .inr ⟨by omega, h.1⟩⟩

theorem lett_high {c : Int} (h : 128 ≤ c) : lettI c = false := lettI_f (by omega)
theorem dig_high {c : Int} (h : 128 ≤ c) : digI c = false := digI_f (by omega)

set_option maxHeartbeats 1000000 in
theorem isName_any (s : ByteArray) (hs : s.size ≤ maxLen) (w : World) :
    Calls Tryz.prog 51 #[.string s] w fun e w' => e = .returned (.bool (isNm s.data.toList)) ∧ Below w.heap.size w w' := by
  unfold maxLen at hs
  have HR0 : Hid (isNm s.data.toList = nmF 0 s.data.toList) := rfl
  have HBw : Hid (∀ p, Below w.heap.size w (w.iter s p)) := fun p => (Below.refl _ w).alloc (Nat.le_refl _) _
  have HE : Hid (s.data.toList ≠ [] → nmF s.size s.data.toList = true) := fun h => by rw [← size_list]; exact nmF_end h
  have HS : Hid (∀ k, k < s.size → nmF k s.data.toList = ((lettI ((s.data.toList.getD k 0).toNat : Int) || (decide (k ≠ 0) && (decide (((s.data.toList.getD k 0).toNat : Int) = 95) || digI ((s.data.toList.getD k 0).toNat : Int)))) && nmF (k + 1) s.data.toList)) := fun k hk => nmF_step _ k (by rw [size_list]; exact hk)
  have HL : Hid (∀ c W, Calls Tryz.prog 88 #[.int .i32 c] W fun e w' => e = .returned (.bool (lettI c)) ∧ w' = W) := fun c W => isLetter_any c W
  have HD : Hid (∀ c W, Calls Tryz.prog 89 #[.int .i32 c] W fun e w' => e = .returned (.bool (digI c)) ∧ w' = W) := fun c W => isDigit_any c W
  have HN : Hid (s.size = 0 → s.data.toList = []) := fun h => List.length_eq_zero_iff.1 ((size_list s).trans h)
  generalize isNm s.data.toList = R at *
  go_enter Tryz.func51, Tryz.ntmps51
  go_wp2
  go_loopw [] (fun wr => ∃ pos : Nat, wr = w.iter s pos ∧ pos ≤ s.size ∧ Hid (R = nmF pos s.data.toList)) (fun wr => s.size - wr.iterPos w.heap.size)
  case atStart => exact ⟨0, rfl, Nat.zero_le _, HR0⟩
  case round =>
    obtain ⟨pos, rfl, hle, hR⟩ := hrel
    by_cases hp : pos < s.size
    · obtain ⟨c, wd, hdec, hw1, hc1, hcc⟩ := rune_at s pos hp
      have hnx : ∀ ty, (Instr.next (.pointer (some ⟨w.heap.size, 0, none⟩)) true ty).run Tryz.prog (w.iter s pos) = .ok (.tuple #[.bool true, .int .i64 pos, .int .i32 (c : Nat)]) (w.iter s (pos + wd)) := fun ty => by
        have h := run_next_any (P := Tryz.prog) w s pos ty hp
        rw [hdec] at h
        exact h
      have HSt : Hid (_ = _) := HS.out pos hp
      have HCc : Hid (((s.data.toList.getD pos 0).toNat < 128 ∧ c = (s.data.toList.getD pos 0).toNat ∧ wd = 1) ∨ (128 ≤ (s.data.toList.getD pos 0).toNat ∧ 128 ≤ c)) := hcc
      clear hdec hcc
      generalize (s.data.toList.getD pos 0).toNat = b at *
      by_cases hl : lettI (c : Int) = true
      · have HF : Hid (wd = 1 ∧ R = nmF (pos + 1) s.data.toList) := by
          rcases HCc.out with ⟨h1, rfl, h3⟩ | ⟨h1, h2⟩
          · refine ⟨h3, ?_⟩
            rw [hR.out, HSt.out, hl]
            simp
          · rw [lett_high (by omega)] at hl
            cases hl
        have hw : wd = 1 := HF.out.1
        subst hw
        go_wp2_with fail
        refine (HL.out _ _).mono ?_
        rintro e w1 ⟨rfl, hw1⟩
        rw [hw1, hl]
        clear hw1 hl
        go_wp2
        go_roundw
        case rel => exact ⟨pos + 1, rfl, by omega, HF.out.2⟩
        case measure => simp; omega
      · have hl : lettI (c : Int) = false := by simpa using hl
        by_cases h0 : pos = 0
        · have hz : ((pos : Int) == 0) = true := by simp [h0]
          have HF : Hid (R = false) := by
            show R = false
            rw [hR.out, HSt.out]
            rcases HCc.out with ⟨h1, rfl, h3⟩ | ⟨h1, h2⟩
            · rw [hl, h0]
              simp
            · rw [lett_high (by omega), h0]
              simp
          clear h0
          go_wp2_with fail
          refine (HL.out _ _).mono ?_
          rintro e w1 ⟨rfl, hw1⟩
          rw [hw1, hl]
          clear hw1 hl
          go_wp2
          go_ret
          exact ⟨ret_bool HF.out.symm, HBw.out _⟩
        · have hz : ((pos : Int) == 0) = false := by simp [h0]
          by_cases h5 : c = 95
          · have h5' : ((c : Int) == 95) = true := by simp [h5]
            have h5'' : ((c : Int) != 95) = false := by simp [h5]
            have HF : Hid (wd = 1 ∧ R = nmF (pos + 1) s.data.toList) := by
              rcases HCc.out with ⟨h1, rfl, h3⟩ | ⟨h1, h2⟩
              · refine ⟨h3, ?_⟩
                rw [hR.out, HSt.out, h5, decide_eq_true h0]
                simp
              · omega
            have hw : wd = 1 := HF.out.1
            subst hw
            clear h5
            go_wp2_with fail
            refine (HL.out _ _).mono ?_
            rintro e w1 ⟨rfl, hw1⟩
            rw [hw1, hl]
            clear hw1 hl
            go_wp2
            go_roundw
            case rel => exact ⟨pos + 1, rfl, by omega, HF.out.2⟩
            case measure => simp; omega
          · have h5' : ((c : Int) == 95) = false := by simp; omega
            have h5'' : ((c : Int) != 95) = true := by simp; omega
            by_cases hd : digI (c : Int) = true
            · have HF : Hid (wd = 1 ∧ R = nmF (pos + 1) s.data.toList) := by
                rcases HCc.out with ⟨h1, rfl, h3⟩ | ⟨h1, h2⟩
                · refine ⟨h3, ?_⟩
                  rw [hR.out, HSt.out, hd, decide_eq_true h0]
                  simp
                · rw [dig_high (by omega)] at hd
                  cases hd
              have hw : wd = 1 := HF.out.1
              subst hw
              go_wp2_with fail
              refine (HL.out _ _).mono ?_
              rintro e w1 ⟨rfl, hw1⟩
              rw [hw1, hl]
              clear hw1 hl
              go_wp2_with fail
              refine (HD.out _ _).mono ?_
              rintro e w1 ⟨rfl, hw1⟩
              rw [hw1, hd]
              clear hw1 hd
              go_wp2
              go_roundw
              case rel => exact ⟨pos + 1, rfl, by omega, HF.out.2⟩
              case measure => simp; omega
            · have hd : digI (c : Int) = false := by simpa using hd
              have HF : Hid (R = false) := by
                show R = false
                rw [hR.out, HSt.out]
                rcases HCc.out with ⟨h1, rfl, h3⟩ | ⟨h1, h2⟩
                · have h5b : ((c : Nat) : Int) ≠ 95 := by omega
                  rw [hl, hd, decide_eq_false h5b]
                  simp
                · have h5b : ((b : Nat) : Int) ≠ 95 := by omega
                  rw [lett_high (by omega), dig_high (by omega), decide_eq_false h5b]
                  simp
              go_wp2_with fail
              refine (HL.out _ _).mono ?_
              rintro e w1 ⟨rfl, hw1⟩
              rw [hw1, hl]
              clear hw1 hl
              go_wp2_with fail
              refine (HD.out _ _).mono ?_
              rintro e w1 ⟨rfl, hw1⟩
              rw [hw1, hd]
              clear hw1 hd
              go_wp2
              go_ret
              exact ⟨ret_bool HF.out.symm, HBw.out _⟩
    · have hnx : ∀ ty, (Instr.next (.pointer (some ⟨w.heap.size, 0, none⟩)) true ty).run Tryz.prog (w.iter s pos) = _ := fun ty => run_next_end w s pos ty hp
      obtain rfl : pos = s.size := by omega
      by_cases hz : s.size = 0
      · have he := empty_of hz
        have HF : Hid (R = false) := by
          show R = false
          rw [hR.out, HN.out hz]
          unfold nmF
          split
          · rfl
          · rename_i h
            exact absurd hz h
        clear hz
        go_wp2
        go_ret
        exact ⟨ret_bool HF.out.symm, HBw.out _⟩
      · have he := nonempty_of hz
        have HF : Hid (R = true) := by
          show R = true
          rw [hR.out]
          exact HE.out (list_ne hz)
        go_wp2
        go_ret
        exact ⟨ret_bool HF.out.symm, HBw.out _⟩

end Hn
end Go.Proofs.YticncpjpkgdnlaaGreatDoor

/-
  handle: rows of parameters (written by mkhrb.py).
-/
set_option linter.unusedVariables false
set_option linter.unusedSimpArgs false
set_option maxRecDepth 100000
namespace Go.Proofs.YticncpjpkgdnlaaGreatDoor
open Go.RowKit Go.Shelf
namespace Hn
open Oc Tg _root_.Go.Proofs.YticncpjpkgdnlaaGreatDoor.Fd _root_.Go.Proofs.YticncpjpkgdnlaaGreatDoor.Ck

def encA1 (p : PrA) : List Value := [.string (str p.1), .string (str p.2.1), .bool p.2.2]
def encA (ps : List PrA) : List Value := ps.flatMap encA1
theorem encA_snoc (ps : List PrA) (p : PrA) : encA (ps ++ [p]) = encA ps ++ encA1 p := by unfold encA; rw [List.flatMap_append]; simp
theorem encA_len : ∀ ps : List PrA, (encA ps).length = ps.length * 3
  | [] => rfl
  | p :: ps => by
    have := encA_len ps
    unfold encA at *
    rw [List.flatMap_cons, List.length_append, this, List.length_cons]
    show 3 + _ = _
    omega
/-- A slice of parameters (of the type T) of the call's own. -/
def OwnA (T B : Nat) (v : Value) (ps : List PrA) (w : World) : Prop := w.ownsRow B T 3 v ps.length (encA ps)
theorem ownA_nil (T B : Nat) (w : World) : OwnA T B (.slice none 0 0) [] w := World.ownsRow_nil w B T 3
theorem ownA_empty {B : Nat} (T : Nat) (w : World) (hB : B ≤ w.heap.size) : OwnA T B (.slice (some ⟨w.heap.size, 0, none⟩) 0 0) [] (w.alloc (.cells #[] T)) :=
  ⟨by simp [encA], .inr ⟨w.heap.size, 0, #[], rfl, hB, heap_alloc_new w _, by simp, by decide, by simp, by simp [encA]⟩⟩
theorem OwnA.below {T B : Nat} {v : Value} {t : List PrA} {w w' : World} (h : OwnA T B v t w) (b : Below w.heap.size w w') : OwnA T B v t w' := by
  refine ⟨h.1, ?_⟩
  rcases h.2 with hn | ⟨g, cap, cur, rfl, hb, hg, rest⟩
  · exact .inl hn
  · refine .inr ⟨g, cap, cur, rfl, hb, ?_, rest⟩
    have hlt : g < w.heap.size := by
      rcases Nat.lt_or_ge g w.heap.size with h | h
      · exact h
      · simp [Array.getElem?_eq_none h] at hg
    rw [b.block g hlt]
    exact hg

theorem infoA : (Tryz.prog.info? 66).map (fun i => (i.zero, i.size, i.bytes)) = some (some (.agg #[.string ⟨#[]⟩, .string ⟨#[]⟩, .bool false]), 3, 40) := by kernel_rfl

def nthA (t : List PrA) (j : Nat) : PrA := t.getD j ([], [], false)
/-- A slice that reads as these parameters. -/
def RdA (v : Value) (t : List PrA) (w : World) : Prop :=
  ∃ a c, v = .slice a t.length c ∧ (t = [] ∨ ∃ g o, a = some ⟨g, o, none⟩ ∧ t.length ≤ c ∧ ∀ j, j < t.length → w.cell? ⟨g, o + j * 3, none⟩ = some (.string (str (nthA t j).1)) ∧ w.cell? ⟨g, o + j * 3 + 1, none⟩ = some (.string (str (nthA t j).2.1)) ∧ w.cell? ⟨g, o + j * 3 + 2, none⟩ = some (.bool (nthA t j).2.2))
theorem encA_at : ∀ (t : List PrA) (j : Nat), j < t.length → (encA t)[j * 3]? = some (.string (str (nthA t j).1)) ∧ (encA t)[j * 3 + 1]? = some (.string (str (nthA t j).2.1)) ∧ (encA t)[j * 3 + 2]? = some (.bool (nthA t j).2.2)
  | [], j, h => by simp at h
  | p :: t, 0, _ => ⟨rfl, rfl, rfl⟩
  | p :: t, j + 1, h => by
    have ih := encA_at t j (by simpa using h)
    have e : encA (p :: t) = [.string (str p.1), .string (str p.2.1), .bool p.2.2] ++ encA t := rfl
    rw [e]
    have n : nthA (p :: t) (j + 1) = nthA t j := by unfold nthA; simp
    rw [n, show (j + 1) * 3 = j * 3 + 3 by omega, show j * 3 + 3 + 1 = (j * 3 + 1) + 3 by omega, show j * 3 + 3 + 2 = (j * 3 + 2) + 3 by omega]
    exact ih
theorem OwnA.rd {T B : Nat} {v : Value} {t : List PrA} {w : World} (h : OwnA T B v t w) : RdA v t w := by
  have hall := h
  rcases h.2 with ⟨rfl, h0⟩ | ⟨g, cap, cur, rfl, _, hg, hn, _⟩
  · exact ⟨none, 0, by rw [h0], .inl (List.length_eq_zero_iff.1 h0)⟩
  · refine ⟨_, _, rfl, .inr ⟨g, 0, rfl, by omega, fun j hj => ?_⟩⟩
    obtain ⟨e0, e1, e2⟩ := encA_at t j hj
    have ea : ∀ k, Addr.add ⟨g, 0, none⟩ k = ⟨g, 0 + k, none⟩ := fun k => by unfold Addr.add; split <;> simp_all
    have c0 := World.ownsRow.cells hall (g := g) rfl _ _ e0
    have c1 := World.ownsRow.cells hall (g := g) rfl _ _ e1
    have c2 := World.ownsRow.cells hall (g := g) rfl _ _ e2
    rw [ea] at c0 c1 c2
    exact ⟨c0, c1, c2⟩
theorem RdA.below {v : Value} {t : List PrA} {w w' : World} (h : RdA v t w) (b : Below w.heap.size w w') : RdA v t w' := by
  obtain ⟨a, c, rfl, h⟩ := h
  refine ⟨a, c, rfl, ?_⟩
  rcases h with h | ⟨g, o, e, hc, hcell⟩
  · exact .inl h
  · refine .inr ⟨g, o, e, hc, fun j hj => ?_⟩
    obtain ⟨h1, h2, h3⟩ := hcell j hj
    rw [b.cell (p := ⟨g, o + j * 3, none⟩) (World.block_lt_of_cell? w _ h1), b.cell (p := ⟨g, o + j * 3 + 1, none⟩) (World.block_lt_of_cell? w _ h2), b.cell (p := ⟨g, o + j * 3 + 2, none⟩) (World.block_lt_of_cell? w _ h3)]
    exact ⟨h1, h2, h3⟩

theorem wp_appA {ops : Array Oper} {rest : List Oper} {o : Oper} {a : Act} {Q : Exit → Act → World → Prop} (T S : Nat) (hinfo : (Tryz.prog.info? T).map (fun i => (i.zero, i.size, i.bytes)) = some (some (.agg #[.string ⟨#[]⟩, .string ⟨#[]⟩, .bool false]), 3, 40))
    (hund : Tryz.prog.underlying S = some (.slice T)) (hgd : o.guard = none) (s x : Operand)
    (ho : o.op = .call { callee := .builtin .append, args := #[s, x], argTypes := #[S, S] }) (B : Nat) (v : Value) (t : List PrA) (W : World) (p : PrA) (n1 n2 : ByteArray) (h1 : n1 = str p.1) (h2 : n2 = str p.2.1) (b : Bool) (h3 : b = p.2.2)
    (hs : a.eval s = v) (hown : OwnA T B v t W) (g : Nat) (hx : a.eval x = .slice (some ⟨g, 0, none⟩) 1 1) (hg : g = W.heap.size) (hlen : t.length + 1 ≤ 2147483648) (hB : B ≤ W.heap.size)
    (h : ∀ v' w', OwnA T B v' (t ++ [p]) w' → Below B W w' → wpList Tryz.prog ops Q rest (a.put o.dst v') w') : wpList Tryz.prog ops Q (o :: rest) a (W.alloc (.cells #[.string n1, .string n2, .bool b] T)) := by
  subst h1 h2 h3 hg
  obtain ⟨i0, hi, hz0, hz1, hz2⟩ := info_parts hinfo
  refine wpList_append_own _ hgd s x S ho B T i0 (.agg #[.string ⟨#[]⟩, .string ⟨#[]⟩, .bool false]) 3 40 hund hi hz0 hz1 hz2 rfl (by decide) v t.length _ hs (World.ownsRow.alloc hown _) ⟨W.heap.size, 0, none⟩ 1 1 (encA1 p) hx rfl ?_ ?_ ?_ ?_ ?_ ?_
  · intro j u hj
    unfold encA1 at hj
    match j, hj with
    | 0, hj => simp at hj; subst hj; simp [Addr.add]
    | 1, hj => simp at hj; subst hj; simp [Addr.add]
    | 2, hj => simp at hj; subst hj; simp [Addr.add]
  · intro u hu
    unfold encA1 at hu
    simp at hu
    rcases hu with rfl | rfl | rfl <;> rfl
  · unfold maxLen; omega
  · omega
  · simp; omega
  · intro v' w' h1 h2 _
    refine h v' w' ?_ (((Below.refl B W).alloc hB _).grown h2 (by simp; omega) (fun k hk => (World.ownsRow.lt hown k hk).1))
    unfold OwnA
    rw [encA_snoc, List.length_append]
    exact h1

theorem step_appA {ops : Array Oper} {o : Oper} {a : Act} {K : Act → World → Prop} {Q : Exit → Act → World → Prop} {E : Prop} (T S : Nat) (hinfo : (Tryz.prog.info? T).map (fun i => (i.zero, i.size, i.bytes)) = some (some (.agg #[.string ⟨#[]⟩, .string ⟨#[]⟩, .bool false]), 3, 40))
    (hund : Tryz.prog.underlying S = some (.slice T)) (hgd : o.guard = none) (s x : Operand)
    (ho : o.op = .call { callee := .builtin .append, args := #[s, x], argTypes := #[S, S] }) (B : Nat) (v : Value) (t : List PrA) (W : World) (p : PrA) (n1 n2 : ByteArray) (h1 : n1 = str p.1) (h2 : n2 = str p.2.1) (b : Bool) (h3 : b = p.2.2)
    (hs : a.eval s = v) (hown : OwnA T B v t W) (g : Nat) (hx : a.eval x = .slice (some ⟨g, 0, none⟩) 1 1) (hg : g = W.heap.size) (hlen : t.length + 1 ≤ 2147483648) (hB : B ≤ W.heap.size)
    (h : ∀ v' w', OwnA T B v' (t ++ [p]) w' → Below B W w' → K (a.put o.dst v') w') : if Region.wanted o (yielded ops a.tmps) = true then Oper.wp Tryz.prog o a (W.alloc (.cells #[.string n1, .string n2, .bool b] T)) K Q else E := by
  subst h1 h2 h3 hg
  have hw : Region.wanted o (yielded ops a.tmps) = true := by simp [Region.wanted, hgd]
  rw [if_pos hw]
  obtain ⟨i0, hi, hz0, hz1, hz2⟩ := info_parts hinfo
  refine wp_append_own _ s x S ho B T i0 (.agg #[.string ⟨#[]⟩, .string ⟨#[]⟩, .bool false]) 3 40 hund hi hz0 hz1 hz2 rfl (by decide) v t.length _ hs (World.ownsRow.alloc hown _) ⟨W.heap.size, 0, none⟩ 1 1 (encA1 p) hx rfl ?_ ?_ ?_ ?_ ?_ ?_
  · intro j u hj
    unfold encA1 at hj
    match j, hj with
    | 0, hj => simp at hj; subst hj; simp [Addr.add]
    | 1, hj => simp at hj; subst hj; simp [Addr.add]
    | 2, hj => simp at hj; subst hj; simp [Addr.add]
  · intro u hu
    unfold encA1 at hu
    simp at hu
    rcases hu with rfl | rfl | rfl <;> rfl
  · unfold maxLen; omega
  · omega
  · simp; omega
  · intro v' w' h1 h2 _
    refine h v' w' ?_ (((Below.refl B W).alloc hB _).grown h2 (by simp; omega) (fun k hk => (World.ownsRow.lt hown k hk).1))
    unfold OwnA
    rw [encA_snoc, List.length_append]
    exact h1

theorem take_nthA (t : List PrA) (k : Nat) (h : k < t.length) : t.take (k + 1) = t.take k ++ [nthA t k] := by
  unfold nthA
  rw [List.take_add_one, List.getElem?_eq_getElem h, List.getD_eq_getElem?_getD, List.getElem?_eq_getElem h]; rfl

theorem encA_get3 : ∀ (u : List PrA) (j : Nat) (z : Value), (encA u)[j]? = some z → j / 3 < u.length ∧ z = (if j % 3 = 0 then .string (str (nthA u (j / 3)).1) else if j % 3 = 1 then .string (str (nthA u (j / 3)).2.1) else .bool (nthA u (j / 3)).2.2)
  | [], j, z, h => by simp [encA] at h
  | p :: u, 0, z, h => by
    have : z = .string (str p.1) := by
      have h2 : (encA (p :: u))[0]? = some (.string (str p.1)) := rfl
      rw [h2] at h
      exact (Option.some.inj h).symm
    exact ⟨by simp, this⟩
  | p :: u, 1, z, h => by
    have : z = .string (str p.2.1) := by
      have h2 : (encA (p :: u))[1]? = some (.string (str p.2.1)) := rfl
      rw [h2] at h
      exact (Option.some.inj h).symm
    exact ⟨by simp, this⟩
  | p :: u, 2, z, h => by
    have : z = .bool p.2.2 := by
      have h2 : (encA (p :: u))[2]? = some (.bool p.2.2) := rfl
      rw [h2] at h
      exact (Option.some.inj h).symm
    exact ⟨by simp, this⟩
  | p :: u, j + 3, z, h => by
    have h2 : (encA (p :: u))[j + 3]? = (encA u)[j]? := rfl
    rw [h2] at h
    obtain ⟨h3, h4⟩ := encA_get3 u j z h
    have e1 : (j + 3) / 3 = j / 3 + 1 := by omega
    have e2 : (j + 3) % 3 = j % 3 := by omega
    rw [e1, e2]
    exact ⟨by simp; omega, h4⟩
theorem encA_len3 : ∀ u : List PrA, (encA u).length = u.length * 3
  | [] => rfl
  | p :: u => by
    have := encA_len3 u
    show (encA u).length + 1 + 1 + 1 = _
    rw [this]
    simp only [List.length_cons]
    omega
/-- The form of a slice of none. -/
def NilA (v : Value) (t : List PrA) : Prop := t = [] → v = .slice none 0 0 ∨ ∃ g c, v = .slice (some g) 0 c
theorem wp_appAs {ops : Array Oper} {rest : List Oper} {o : Oper} {a : Act} {W : World} {Q : Exit → Act → World → Prop} (T S : Nat) (hinfo : (Tryz.prog.info? T).map (fun i => (i.zero, i.size, i.bytes)) = some (some (.agg #[.string ⟨#[]⟩, .string ⟨#[]⟩, .bool false]), 3, 40))
    (hund : Tryz.prog.underlying S = some (.slice T)) (hw : Region.wanted o (yielded ops a.tmps) = true) (s x : Operand)
    (ho : o.op = .call { callee := .builtin .append, args := #[s, x], argTypes := #[S, S] }) (B : Nat) (v y : Value) (t u : List PrA)
    (hs : a.eval s = v) (hown : OwnA T B v t W) (hx : a.eval x = y) (hy : RdA y u W) (hn : NilA y u) (hlen : t.length + u.length ≤ 2147483648) (hB : B ≤ W.heap.size)
    (h : ∀ v' w', OwnA T B v' (t ++ u) w' → Below B W w' → wpList Tryz.prog ops Q rest (a.put o.dst v') w') : wpList Tryz.prog ops Q (o :: rest) a W := by
  obtain ⟨i0, hi, hz0, hz1, hz2⟩ := info_parts hinfo
  refine wantedF hw ?_
  have own' : ∀ (ad : Addr) (c : Nat), y = .slice (some ad) u.length c → (∀ j z, (encA u)[j]? = some z → W.cell? (ad.add j) = some z) → o.wp Tryz.prog a W (wpList Tryz.prog ops Q rest) Q := by
    intro ad c ey hcell
    refine wp_append_own W s x S ho B T i0 (.agg #[.string ⟨#[]⟩, .string ⟨#[]⟩, .bool false]) 3 40 hund hi hz0 hz1 hz2 rfl (by decide) v t.length _ hs hown ad u.length c (encA u) (hx.trans ey) (encA_len3 u) hcell ?_ ?_ ?_ hB ?_
    · intro z hz
      obtain ⟨j, hj⟩ := List.getElem?_of_mem hz
      obtain ⟨_, e⟩ := encA_get3 u j z hj
      rw [e]
      split
      · rfl
      · split <;> rfl
    · unfold maxLen; omega
    · omega
    · intro v' w' h1 h2 _
      refine h v' w' ?_ ((Below.refl B W).grown h2 hB (fun k hk => (World.ownsRow.lt hown k hk).1))
      unfold OwnA
      rw [List.length_append, show encA (t ++ u) = encA t ++ encA u by unfold encA; rw [List.flatMap_append]]
      exact h1
  obtain ⟨a2, c2, rfl, hr⟩ := hy
  by_cases hu : u = []
  · subst hu
    rcases hn rfl with e | ⟨g, c, e⟩
    · have hrun := run_append_owned_none (P := Tryz.prog) (w := W) B S o.type T i0 3 hund hi v t.length _ hown
      have hx' : a.eval x = .slice none 0 0 := hx.trans e
      unfold Oper.wp
      simp [execOp, ho, resolve, invoke, builtin, hs, hx', hrun, Result.andThen]
      exact h v W (by simpa using hown) (Below.refl _ _)
    · exact own' g c e (fun j z hj => by simp [encA] at hj)
  · rcases hr with hr | ⟨g, o', rfl, hc, hcell⟩
    · exact absurd hr hu
    · refine own' ⟨g, o', none⟩ c2 rfl (fun j z hj => ?_)
      have ea : Addr.add ⟨g, o', none⟩ j = ⟨g, o' + j, none⟩ := by unfold Addr.add; split <;> simp_all
      rw [ea]
      obtain ⟨hq, e⟩ := encA_get3 u j z hj
      obtain ⟨h0, h1, h2⟩ := hcell (j / 3) hq
      rw [e]
      by_cases hm : j % 3 = 0
      · rw [if_pos hm]
        rw [show o' + j / 3 * 3 = o' + j by omega] at h0
        exact h0
      · rw [if_neg hm]
        by_cases hm1 : j % 3 = 1
        · rw [if_pos hm1]
          rw [show o' + j / 3 * 3 + 1 = o' + j by omega] at h1
          exact h1
        · rw [if_neg hm1]
          rw [show o' + j / 3 * 3 + 2 = o' + j by omega] at h2
          exact h2
theorem rdA_get {a : Option Addr} {n c k : Nat} {t : List PrA} {w : World} (h : RdA (.slice a n c) t w) (hk : k < t.length) : ∃ g o, a = some ⟨g, o, none⟩ ∧ t.length ≤ c ∧ w.cell? ⟨g, o + k * 3, none⟩ = some (.string (str (nthA t k).1)) ∧ w.cell? ⟨g, o + k * 3 + 1, none⟩ = some (.string (str (nthA t k).2.1)) ∧ w.cell? ⟨g, o + k * 3 + 2, none⟩ = some (.bool (nthA t k).2.2) := by
  obtain ⟨a', c', e, h⟩ := h
  injection e with e1 e2 e3
  subst e1 e3
  rcases h with h | ⟨g, o, rfl, hc, hcell⟩
  · rw [h] at hk; simp at hk
  · exact ⟨g, o, rfl, hc, hcell k hk⟩
theorem rdA_front {a : Option Addr} {n c : Nat} {t u : List PrA} {w : World} (h : RdA (.slice a n c) (t ++ u) w) : RdA (.slice a t.length c) t w := by
  obtain ⟨a', c', e, h⟩ := h
  injection e with e1 e2 e3
  subst e1 e3
  refine ⟨a, c, rfl, ?_⟩
  rcases h with h | ⟨g, o, rfl, hc, hcell⟩
  · exact .inl (List.append_eq_nil_iff.1 h).1
  · refine .inr ⟨g, o, rfl, by rw [List.length_append] at hc; omega, fun j hj => ?_⟩
    have := hcell j (by rw [List.length_append]; omega)
    rw [show nthA (t ++ u) j = nthA t j by unfold nthA; rw [List.getD_eq_getElem?_getD, List.getD_eq_getElem?_getD, List.getElem?_append_left hj]] at this
    exact this
theorem ownA_form {T B : Nat} {v : Value} {t : List PrA} {w : World} (h : OwnA T B v t w) : ∃ a c, v = .slice a t.length c := by
  rcases h.2 with ⟨rfl, h0⟩ | ⟨g, cap, cur, rfl, _⟩
  · exact ⟨none, 0, by rw [h0]⟩
  · exact ⟨_, _, rfl⟩


end Hn
end Go.Proofs.YticncpjpkgdnlaaGreatDoor

/-
  handle: valueOf, the document's value.
-/
set_option linter.unusedVariables false
set_option linter.unusedSimpArgs false
set_option maxRecDepth 100000
namespace Go.Proofs.YticncpjpkgdnlaaGreatDoor
open Go.RowKit Go.Shelf
namespace Hn
open Oc

def isA (s : List UInt8) (p : PrA) : Bool := decide (p.1 = s)
def idxA (s : List UInt8) (l : List PrA) : Int := match l.findIdx? (isA s) with | some k => (k : Int) | none => -1
theorem idxA_at {s : List UInt8} {l : List PrA} {k : Nat} (hk : k < l.length) (h1 : isA s (nthA l k) = true) (h2 : ∀ j, j < k → isA s (nthA l j) = false) : idxA s l = k := by
  unfold idxA
  have : l.findIdx? (isA s) = some k := by
    rw [List.findIdx?_eq_some_iff_getElem]
    refine ⟨hk, ?_, fun j hj => ?_⟩
    · unfold nthA at h1
      rw [List.getD_eq_getElem?_getD, List.getElem?_eq_getElem hk] at h1
      exact h1
    · have := h2 j hj
      unfold nthA at this
      rw [List.getD_eq_getElem?_getD, List.getElem?_eq_getElem (by omega)] at this
      simpa using this
  rw [this]
theorem idxA_none {s : List UInt8} {l : List PrA} (h2 : ∀ j, j < l.length → isA s (nthA l j) = false) : idxA s l = -1 := by
  unfold idxA
  have : l.findIdx? (isA s) = none := by
    rw [List.findIdx?_eq_none_iff]
    intro x hx
    obtain ⟨j, hj, rfl⟩ := List.getElem_of_mem hx
    have := h2 j hj
    unfold nthA at this
    rw [List.getD_eq_getElem?_getD, List.getElem?_eq_getElem hj] at this
    exact this
  rw [this]
theorem valA_at {s : List UInt8} {l : List PrA} {k : Nat} (hk : k < l.length) (h1 : isA s (nthA l k) = true) (h2 : ∀ j, j < k → isA s (nthA l j) = false) : valA l s = (nthA l k).2.1 := by
  unfold valA
  have : l.find? (fun p => decide (p.1 = s)) = some (nthA l k) := by
    rw [List.find?_eq_some_iff_getElem]
    unfold nthA at h1 ⊢
    rw [List.getD_eq_getElem?_getD, List.getElem?_eq_getElem hk] at h1 ⊢
    refine ⟨h1, k, hk, rfl, fun j hj => ?_⟩
    have := h2 j hj
    unfold nthA at this
    rw [List.getD_eq_getElem?_getD, List.getElem?_eq_getElem (by omega)] at this
    simpa [isA] using this
  rw [this]
theorem valA_none {s : List UInt8} {l : List PrA} (h2 : ∀ j, j < l.length → isA s (nthA l j) = false) : valA l s = [] := by
  unfold valA
  have : l.find? (fun p => decide (p.1 = s)) = none := by
    rw [List.find?_eq_none]
    intro x hx
    obtain ⟨j, hj, rfl⟩ := List.getElem_of_mem hx
    have := h2 j hj
    unfold nthA at this
    rw [List.getD_eq_getElem?_getD, List.getElem?_eq_getElem hj] at this
    simpa [isA] using this
  rw [this]
theorem idx_valA (s : List UInt8) (l : List PrA) : (∃ k : Nat, k < l.length ∧ idxA s l = k ∧ valA l s = (nthA l k).2.1) ∨ (idxA s l = -1 ∧ valA l s = []) := by
  cases h : l.findIdx? (isA s) with
  | none =>
    right
    rw [List.findIdx?_eq_none_iff] at h
    have h2 : ∀ j, j < l.length → isA s (nthA l j) = false := fun j hj => by
      unfold nthA
      rw [List.getD_eq_getElem?_getD, List.getElem?_eq_getElem hj]
      exact h _ (List.getElem_mem hj)
    exact ⟨idxA_none h2, valA_none h2⟩
  | some k =>
    left
    rw [List.findIdx?_eq_some_iff_getElem] at h
    obtain ⟨hk, h1, h2⟩ := h
    have e1 : isA s (nthA l k) = true := by
      unfold nthA
      rw [List.getD_eq_getElem?_getD, List.getElem?_eq_getElem hk]
      exact h1
    have e2 : ∀ j, j < k → isA s (nthA l j) = false := fun j hj => by
      unfold nthA
      rw [List.getD_eq_getElem?_getD, List.getElem?_eq_getElem (by omega)]
      simpa using h2 j hj
    exact ⟨k, hk, idxA_at hk e1 e2, valA_at hk e1 e2⟩
theorem veqA (a b : List UInt8) : ((str a).toList == (str b).toList) = decide (a = b) := by
  rw [ByteArray.toList_eq, ByteArray.toList_eq, str_list, str_list]
  rw [Bool.eq_iff_iff]
  simp

set_option maxHeartbeats 1000000 in
theorem valueOf1_any (n v s : List UInt8) (b : Bool) (B : Nat) (w : World) (hc : w.cell? ⟨B, 0, none⟩ = some (.string (str s))) :
    Calls Tryz.prog 126 #[.agg #[.string (str n), .string (str v), .bool b], .pointer (some ⟨B, 0, none⟩)] w fun e w' => e = .returned (.bool (isA s (n, v, b))) ∧ Below w.heap.size w w' := by
  obtain ⟨w2, hw2⟩ : ∃ w2, w2 = w.alloc (.cells #[.string (str n), .string (str v), .bool b] 66) := ⟨_, rfl⟩
  have R1 : w2.heap[w.heap.size]? = some (.cells #[.string (str n), .string (str v), .bool b] 66 (0, 0)) := by
    rw [hw2]; exact heap_alloc_new w _
  have hb2 : Below w.heap.size w w2 := by rw [hw2]; exact (Below.refl _ w).alloc (Nat.le_refl _) _
  have c0 := Lib.cell_of_heap R1 0
  simp at c0
  have hcB : w2.cell? ⟨B, 0, none⟩ = some (.string (str s)) := by rw [hb2.cell (World.block_lt_of_cell? w _ hc)]; exact hc
  have HQ : Hid (((str n).toList == (str s).toList) = isA s (n, v, b)) := veqA n s
  have HB2 : Hid (Below w.heap.size w w2) := hb2
  generalize str n = N at *
  generalize str s = S at *
  generalize str v = V at *
  generalize isA s (n, v, b) = q at *
  clear R1 hb2 hc
  subst hw2
  go_enter Tryz.func126, Tryz.ntmps126
  go_wp2
  go_ret
  exact ⟨ret_bool HQ.out, HB2.out⟩

set_option maxHeartbeats 2000000 in
theorem IndexFunc_isA (v : Value) (fs : List PrA) (s : List UInt8) (hl : fs.length ≤ 4294967296) (B : Nat) (w : World) (hrd : RdA v fs w) (hc : w.cell? ⟨B, 0, none⟩ = some (.string (str s))) :
    Calls Tryz.prog 63 #[v, .func (.func 126) #[] #[.pointer (some ⟨B, 0, none⟩)]] w fun e w' => e = .returned (.int .i64 (idxA s fs)) ∧ Below w.heap.size w w' := by
  have HR : Hid (RdA v fs w) := hrd
  have HC : Hid (w.cell? ⟨B, 0, none⟩ = some (.string (str s))) := hc
  obtain ⟨a, c, rfl, _⟩ := hrd
  clear hc
  go_enter Tryz.func63, Tryz.ntmps63
  go_wp2
  go_loopw [8] (fun i wr => ∃ k : Nat, k ≤ fs.length ∧ i = .int .i64 k ∧ Hid (∀ j, j < k → isA s (nthA fs j) = false) ∧ Hid (Below w.heap.size w wr)) (fun i _ => fs.length - (intOf i).toNat)
  case atStart => exact ⟨0, Nat.zero_le _, rfl, (fun j hj => by omega : ∀ j, j < 0 → _), Below.refl _ _⟩
  case round =>
    obtain ⟨k, hk, rfl, hall, hbl⟩ := hrel
    by_cases hlt : k < fs.length
    · obtain ⟨a', c', e', hcs⟩ := HR.out.below hbl.out
      injection e' with e1 _ e2
      subst e1 e2
      rcases hcs with h | ⟨g, o, rfl, hlc, hcell⟩
      · rw [h] at hlt; simp at hlt
      obtain ⟨p0, p1, p2⟩ := hcell k hlt
      clear hcell
      have HN : Hid (Calls Tryz.prog 126 #[.agg #[.string (str (nthA fs k).1), .string (str (nthA fs k).2.1), .bool (nthA fs k).2.2], .pointer (some ⟨B, 0, none⟩)] wr fun e w' => e = .returned (.bool (isA s (nthA fs k))) ∧ Below wr.heap.size wr w') :=
        valueOf1_any _ _ s _ B wr (by rw [hbl.out.cell (World.block_lt_of_cell? w _ HC.out)]; exact HC.out)
      have HT : isA s (nthA fs k) = true → Hid (idxA s fs = k) := fun h => idxA_at hlt h hall.out
      have HF : isA s (nthA fs k) = false → Hid (∀ j, j < k + 1 → isA s (nthA fs j) = false) := fun h j hj => by
        by_cases hjk : j = k
        · subst hjk; exact h
        · exact hall.out j (by omega)
      generalize str (nthA fs k).1 = X at p0 HN
      generalize str (nthA fs k).2.1 = Y at p1 HN
      generalize isA s (nthA fs k) = b at HN HT HF
      generalize (nthA fs k).2.2 = Z at p2 HN
      cases b with
      | true =>
        have HT2 := HT rfl
        clear HT HF
        go_wp2_with fail
        refine HN.out.mono ?_
        rintro e w2 ⟨rfl, hb2⟩
        have HB2 : Hid (Below w.heap.size w w2) := bel_trans hbl.out hb2
        clear hb2
        go_wp2
        go_ret
        exact ⟨ret_int HT2.out.symm, HB2.out⟩
      | false =>
        have HF2 := HF rfl
        clear HT HF
        go_wp2_with fail
        refine HN.out.mono ?_
        rintro e w2 ⟨rfl, hb2⟩
        have HB2 : Hid (Below w.heap.size w w2) := bel_trans hbl.out hb2
        clear hb2
        go_wp2
        go_roundw
        case rel => exact ⟨k + 1, by omega, by go_num, HF2, HB2⟩
        case measure => simp [intOf]; omega
    · have HE : Hid (idxA s fs = -1) := idxA_none (fun j hj => hall.out j (by omega))
      go_wp2
      go_ret
      exact ⟨ret_int HE.out.symm, hbl.out⟩

set_option maxHeartbeats 1000000 in
theorem valueOf_any (v : Value) (fs : List PrA) (s : List UInt8) (hl : fs.length ≤ 4294967296) (w : World) (hrd : RdA v fs w) :
    Calls Tryz.prog 78 #[v, .string (str s)] w fun e w' => e = .returned (.string (str (valA fs s))) ∧ Below w.heap.size w w' := by
  have hb1 : Below w.heap.size w (w.alloc (.cells #[.string (str s)] 9)) := (Below.refl _ w).alloc (Nat.le_refl _) _
  have HI : Hid (Calls _ _ _ _ _) := IndexFunc_isA v fs s hl w.heap.size (w.alloc (.cells #[.string (str s)] 9)) (hrd.below hb1) (by simp)
  have HR : Hid (RdA v fs w) := hrd
  have HB1 : Hid (Below _ _ _) := hb1
  obtain ⟨a, c, rfl, _⟩ := hrd
  clear hb1
  generalize str s = S at *
  rcases idx_valA s fs with ⟨k, hk, e1, e2⟩ | ⟨e1, e2⟩
  · rw [e1] at HI
    rw [e2]
    clear e1 e2
    generalize hY : str (nthA fs k).2.1 = Y
    have HY : Hid (_ = Y) := hY
    clear hY
    go_enter Tryz.func78, Tryz.ntmps78
    go_wp2_with fail
    refine HI.out.mono ?_
    rintro e w2 ⟨rfl, hb2⟩
    have HB2 : Hid (Below w.heap.size w w2) := bel_trans HB1.out hb2
    clear hb2
    obtain ⟨a', c', e', hcs⟩ := HR.out.below HB2.out
    injection e' with e1 _ e2
    subst e1 e2
    rcases hcs with h | ⟨g, o, rfl, hlc, hcell⟩
    · rw [h] at hk; simp at hk
    obtain ⟨p0, p1, p2⟩ := hcell k hk
    clear hcell p0 p2
    rw [HY.out] at p1
    go_wp2
    go_ret
    exact ⟨rfl, HB2.out⟩
  · rw [e1] at HI
    rw [e2]
    clear e1 e2
    go_enter Tryz.func78, Tryz.ntmps78
    go_wp2_with fail
    refine HI.out.mono ?_
    rintro e w2 ⟨rfl, hb2⟩
    have HB2 : Hid (Below w.heap.size w w2) := bel_trans HB1.out hb2
    clear hb2
    go_wp2
    go_ret
    exact ⟨rfl, HB2.out⟩

end Hn
end Go.Proofs.YticncpjpkgdnlaaGreatDoor

/-
  handle: Refer.
-/
set_option linter.unusedVariables false
set_option linter.unusedSimpArgs false
set_option maxRecDepth 100000
namespace Go.Proofs.YticncpjpkgdnlaaGreatDoor
open Go.RowKit Go.Shelf
namespace Hn
open Oc _root_.Go.Proofs.YticncpjpkgdnlaaGreatDoor.Fd

theorem bd_iterAt {B b : Nat} {l : List Value} {w : World} (h : Bd B b l w) {k : Nat} {s : ByteArray} {pos : Nat} (hk : w.heap[k]? = some (.stringIter s pos)) (pos' : Nat) : Bd B b l (w.iterAt k s pos') := by
  have one : ∀ p, BdAt B b p l w → BdAt B b p l (w.iterAt k s pos') := by
    intro p h
    obtain ⟨v, hb, o, n⟩ := h
    have hkb : b ≠ k := by
      intro e1
      rw [e1, hk] at hb
      cases hb
    refine ⟨v, (Lib.iterAt_other w k b s pos' hkb).trans hb, ⟨o.1, o.2.imp id fun ⟨g, c, cur, e, hg, hh, r⟩ => ⟨g, c, cur, e, hg, ?_, r⟩⟩, n⟩
    have hkg : g ≠ k := by
      intro e1
      rw [e1, hk] at hh
      cases hh
    exact (Lib.iterAt_other w k g s pos' hkg).trans hh
  exact h.imp (one _) (one _)

/-- The world in the loop: the builder, the iterator. -/
structure WlR (s : ByteArray) (n b : Nat) (w0 wr : World) (pos : Nat) (acc : List UInt8) : Prop where
  bd : Bd (b + 2) b (Lib.byteCells acc) wr
  it : wr.heap[b + 1]? = some (.stringIter s pos)
  bel : Below n w0 wr
  hn : n ≤ b
theorem WlR.size {s : ByteArray} {n b : Nat} {w0 wr : World} {pos : Nat} {acc : List UInt8} (h : WlR s n b w0 wr pos acc) : b + 2 ≤ wr.heap.size := (Array.getElem?_eq_some_iff.1 h.it).1
theorem WlR.next {s : ByteArray} {n b : Nat} {w0 wr : World} {pos : Nat} {acc : List UInt8} (h : WlR s n b w0 wr pos acc) (p2 : Nat) : WlR s n b w0 (wr.iterAt (b + 1) s p2) p2 acc :=
  ⟨bd_iterAt h.bd h.it p2, Lib.iterAt_heap wr (b + 1) s pos p2 h.it, Lib.below_iterAt h.bel (by have := h.hn; omega) s p2, h.hn⟩
theorem WlR.below {s : ByteArray} {n b : Nat} {w0 wr w' : World} {pos : Nat} {acc : List UInt8} (h : WlR s n b w0 wr pos acc) (hb : Below wr.heap.size wr w') : WlR s n b w0 w' pos acc :=
  ⟨h.bd.below hb, (hb.block _ (by have := h.size; omega)).trans h.it, h.bel.trans (hb.mono (by have := h.size; have := h.hn; omega)), h.hn⟩
theorem WlR.write {s : ByteArray} {n b : Nat} {w0 wr w' : World} {pos : Nat} {acc acc' : List UInt8} (h : WlR s n b w0 wr pos acc) (hf : Fr (b + 2) b wr w') (hd : Bd (b + 2) b (Lib.byteCells acc') w') : WlR s n b w0 w' pos acc' :=
  ⟨hd, (hf.block _ (by omega) (by omega)).trans h.it, h.bel.trans (hf.below (by have := h.hn; omega) h.hn), h.hn⟩
theorem WlR.at {s : ByteArray} {n b : Nat} {w0 wr : World} {pos : Nat} {acc : List UInt8} (h : WlR s n b w0 wr pos acc) : wr.iterPos (b + 1) = pos := by
  unfold World.iterPos
  rw [h.it]
theorem bd_write {B b : Nat} {acc : List UInt8} {P : ByteArray} {w : World} (h : Bd B b (Lib.byteCells acc ++ Lib.strCells P) w) : Bd B b (Lib.byteCells (acc ++ P.data.toList)) w := by
  have e := cells_str P.data.toList
  rw [str_self] at e
  rw [cells_app, ← e]
  exact h
/-- How it stands, plainly. -/
structure PlR (ps : List PrA) (l : List UInt8) (R : Option (List UInt8)) (pos fr : Nat) (nm : Bool) (acc : List UInt8) : Prop where
  eq : R = stR ps nm acc (sub l fr pos) (l.drop pos)
  len : acc.length + (pos - fr) ≤ pos * 1048577
  fp : fr ≤ pos
  le : pos ≤ l.length
theorem PlR.open {ps : List PrA} {l : List UInt8} {R : Option (List UInt8)} {pos fr : Nat} {acc : List UInt8} (h : PlR ps l R pos fr false acc) (hp : pos < l.length) (hu : l.getD pos 0 = 123) : PlR ps l R (pos + 1) (pos + 1) true (acc ++ sub l fr pos) := by
  refine ⟨?_, ?_, Nat.le_refl _, hp⟩
  · rw [h.eq, drop_one l pos hp, hu, stR_open, sub_self]
  · have := h.len
    rw [List.length_append, sub_len l fr pos h.le]
    omega
theorem PlR.shut {ps : List PrA} {l : List UInt8} {R : Option (List UInt8)} {pos fr : Nat} {acc : List UInt8} (h : PlR ps l R pos fr true acc) (hp : pos < l.length) (hu : l.getD pos 0 = 125) (hn : isNm (sub l fr pos) = true) (hv : (valA ps (sub l fr pos)).length ≤ 1048576) : PlR ps l R (pos + 1) (pos + 1) false (acc ++ valA ps (sub l fr pos)) := by
  refine ⟨?_, ?_, Nat.le_refl _, hp⟩
  · rw [h.eq, drop_one l pos hp, hu, stR_shut _ _ _ _ hn, sub_self]
  · have := h.len
    rw [List.length_append]
    omega
theorem PlR.bad {ps : List PrA} {l : List UInt8} {R : Option (List UInt8)} {pos fr : Nat} {acc : List UInt8} (h : PlR ps l R pos fr true acc) (hp : pos < l.length) (hu : l.getD pos 0 = 125) (hn : isNm (sub l fr pos) = false) : R = none := by
  rw [h.eq, drop_one l pos hp, hu, stR_bad _ _ _ _ hn]
theorem PlR.bad2 {ps : List PrA} {l : List UInt8} {R : Option (List UInt8)} {pos fr : Nat} {acc : List UInt8} (h : PlR ps l R pos fr false acc) (hp : pos < l.length) (hu : l.getD pos 0 = 125) : R = none := by
  rw [h.eq, drop_one l pos hp, hu, stR_bad2]
theorem PlR.on {ps : List PrA} {s : ByteArray} {R : Option (List UInt8)} {pos fr c wd : Nat} {nm : Bool} {acc : List UInt8} (h : PlR ps s.data.toList R pos fr nm acc) (hp : pos < s.data.toList.length) (hd : Utf8.decode s pos = (c, wd))
    (hc : ((s.data.toList.getD pos 0).toNat < 128 ∧ c = (s.data.toList.getD pos 0).toNat ∧ wd = 1) ∨ (128 ≤ (s.data.toList.getD pos 0).toNat ∧ 128 ≤ c)) (h1 : c ≠ 125) (h2 : nm = false → c ≠ 123) : PlR ps s.data.toList R (pos + wd) fr nm acc := by
  have hsz : s.data.toList.length = s.size := size_list s
  rcases hc with ⟨a1, a2, a3⟩ | ⟨a1, a2⟩
  · subst a3
    have n1 : s.data.toList.getD pos 0 ≠ 125 := fun e => h1 (by rw [a2, e]; rfl)
    have n2 : nm = false → s.data.toList.getD pos 0 ≠ 123 := fun q e => h2 q (by rw [a2, e]; rfl)
    refine ⟨?_, ?_, by have := h.fp; omega, hp⟩
    · rw [h.eq, drop_one _ pos hp, stR_on _ _ _ _ _ _ n1 n2, sub_one _ fr pos h.fp hp]
    · have := h.len
      have := h.fp
      omega
  · have hw := dec_wide s pos (by omega) a1
    have ht := dec_take s pos (by omega) a1
    rw [hd] at hw ht
    dsimp only at hw ht
    refine ⟨?_, ?_, by have := h.fp; omega, by omega⟩
    · rw [h.eq, drop_w _ pos wd, stR_high _ _ _ _ _ _ ht, sub_on _ fr pos wd h.fp h.le]
    · have := h.len
      have := h.fp
      have : 1048577 * (pos + wd) = 1048577 * pos + 1048577 * wd := Nat.mul_add _ _ _
      omega

theorem valA_len {ps : List PrA} (hM : ∀ p ∈ ps, p.2.1.length ≤ 1048576) (n : List UInt8) : (valA ps n).length ≤ 1048576 := by
  unfold valA
  split
  · rename_i p hp
    exact hM p (List.mem_of_find?_eq_some hp)
  · simp

set_option maxHeartbeats 4000000 in
theorem Refer_any (s : ByteArray) (hs : s.size ≤ 1048576) (v : Value) (ps : List PrA) (hM : ∀ p ∈ ps, p.2.1.length ≤ 1048576) (hl : ps.length ≤ 4294967296) (w : World) (hrd : RdA v ps w) :
    Calls Tryz.prog 42 #[.string s, v] w fun e w' => e = .returned (.tuple #[.string (str (refR ps s.data.toList).1), .int .i64 (refR ps s.data.toList).2]) ∧ Below w.heap.size w w' := by
  have hsz : s.data.toList.length = s.size := size_list s
  have HIf : Hid (∀ W, Calls _ _ _ W _) := fun W => IsField_any s (by unfold maxLen; omega) W
  have HTr : Hid (∀ W, Calls _ _ _ W _) := fun W => Trim_any s (by unfold maxLen; omega) W
  have HNm : Hid (∀ (P : ByteArray) W, P.size ≤ 1048576 → Calls Tryz.prog 51 #[.string P] W fun e w' => e = .returned (.bool (isNm P.data.toList)) ∧ Below W.heap.size W w') := fun P W h => isName_any P (by unfold maxLen; omega) W
  have HVl : Hid (∀ (P : ByteArray) W, Below w.heap.size w W → Calls Tryz.prog 78 #[v, .string P] W fun e w' => e = .returned (.string (str (valA ps P.data.toList))) ∧ Below W.heap.size W w') := fun P W h => by
    have := valueOf_any v ps P.data.toList hl W (hrd.below h)
    rw [str_self] at this
    exact this
  have HVL : Hid (∀ n, (valA ps n).length ≤ 1048576) := valA_len hM
  have HWr : Hid (∀ (b : Nat) (acc : List UInt8) (P : ByteArray) W, Bd (b + 2) b (Lib.byteCells acc) W → acc.length + P.size ≤ 140737488355328 → b + 2 ≤ W.heap.size → Calls Tryz.prog 44 #[.pointer (some ⟨b, 0, none⟩), .string P] W fun e w' => e = .returned (.tuple #[.int .i64 P.size, .nilIface]) ∧ Bd (b + 2) b (Lib.byteCells (acc ++ P.data.toList)) w' ∧ Fr (b + 2) b W w') := fun b acc P W h1 h2 h3 =>
    (WriteString_bd (b + 2) b _ P W h1 (by rw [_root_.Go.Proofs.YticncpjpkgdnlaaGreatDoor.Fd.cells_len]; exact h2) h3).mono (fun e w' h => ⟨h.1, bd_write h.2.1, h.2.2⟩)
  have HSt : Hid (∀ (b : Nat) (acc : List UInt8) W, Bd (b + 2) b (Lib.byteCells acc) W → b + 2 ≤ W.heap.size → Calls Tryz.prog 46 #[.pointer (some ⟨b, 0, none⟩)] W fun e w' => e = .returned (.string (str acc)) ∧ Below b W w') := fun b acc W h1 h2 =>
    (String_bd (b + 2) b acc W h1 h2).mono (fun e w' h => ⟨h.1, h.2.1.mono (by omega)⟩)
  have HBad : Hid ((s.data.toList = [] ∨ isFld s.data.toList = false ∨ trim s.data.toList ≠ s.data.toList) → refR ps s.data.toList = ([], 180)) := fun h => if_pos h
  obtain ⟨R, hR⟩ : ∃ R, R = refG ps none s.data.toList := ⟨_, rfl⟩
  have HNo : Hid (R = none → refR ps s.data.toList = ([], 180)) := fun h => by
    unfold refR
    split
    · rfl
    · rw [← hR, h]
  have HOk : Hid (∀ x, R = some x → ¬ (s.data.toList = [] ∨ isFld s.data.toList = false ∨ trim s.data.toList ≠ s.data.toList) → refR ps s.data.toList = (x, 0)) := fun x h hn => by
    unfold refR
    rw [if_neg hn, ← hR, h]
  have HP0 : Hid (PlR ps s.data.toList R 0 0 false []) := by
    refine ⟨?_, by simp, Nat.le_refl _, Nat.zero_le _⟩
    rw [sub_self, hR]
    show _ = (refG ps none (List.drop 0 s.data.toList)).map _
    rw [List.drop_zero]
    simp
  have HTs : Hid ((str (trim s.data.toList)).toList == s.toList) = Hid (decide (trim s.data.toList = s.data.toList) = true) ∨ True := .inr trivial
  have HTq : Hid (((str (trim s.data.toList)).toList == s.toList) = decide (trim s.data.toList = s.data.toList)) := by
    have := veqA (trim s.data.toList) s.data.toList
    rw [str_self] at this
    exact this
  have HTn : Hid (((str (trim s.data.toList)).toList != s.toList) = !decide (trim s.data.toList = s.data.toList)) := by
    show (!((str (trim s.data.toList)).toList == s.toList)) = _
    rw [HTq.out]
  generalize refR ps s.data.toList = Y at *
  clear hR HTs hrd hM
  by_cases hz : s.size = 0
  · have he := empty_of hz
    have HF : Hid (Y = ([], 180)) := HBad.out (.inl (List.length_eq_zero_iff.1 (hsz.trans hz)))
    clear HIf HTr HNm HVl HWr HSt HTq HTn HP0
    go_enter Tryz.func42, Tryz.ntmps42
    go_wp2
    go_ret2
    exact ⟨by rw [HF.out]; rfl, Below.refl _ _⟩
  have he := nonempty_of hz
  have HNe : Hid (s.data.toList ≠ []) := list_ne hz
  generalize hTS : str (trim s.data.toList) = TS at *
  clear hTS
  go_enter Tryz.func42, Tryz.ntmps42
  go_wp2_with fail
  refine (HIf.out _).mono ?_
  rintro e w1 ⟨rfl, hb1⟩
  have HB1 : Hid (Below w.heap.size w w1) := hb1
  clear hb1
  by_cases hfld : isFld s.data.toList = true
  case neg =>
    have hfld : isFld s.data.toList = false := by simpa using hfld
    have HF : Hid (Y = ([], 180)) := HBad.out (.inr (.inl hfld))
    rw [hfld]
    clear hfld
    go_wp2
    go_ret2
    exact ⟨by rw [HF.out]; rfl, HB1.out⟩
  rw [hfld]
  have HFld : Hid (isFld s.data.toList = true) := hfld
  clear hfld
  go_wp2_with fail
  refine (HTr.out _).mono ?_
  rintro e w2 ⟨rfl, hb2⟩
  have HB2 : Hid (Below w.heap.size w w2) := bel_trans HB1.out hb2
  clear hb2
  by_cases htr : trim s.data.toList = s.data.toList
  case neg =>
    have HF : Hid (Y = ([], 180)) := HBad.out (.inr (.inr htr))
    have t1 : (TS.toList == s.toList) = false := by rw [HTq.out]; exact decide_eq_false htr
    have t2 : (TS.toList != s.toList) = true := by rw [HTn.out, decide_eq_false htr]; rfl
    clear htr
    go_wp2
    go_ret2
    exact ⟨by rw [HF.out]; rfl, HB2.out⟩
  have t1 : (TS.toList == s.toList) = true := by rw [HTq.out]; exact decide_eq_true htr
  have t2 : (TS.toList != s.toList) = false := by rw [HTn.out, decide_eq_true htr]; rfl
  have HGd : Hid (¬ (s.data.toList = [] ∨ isFld s.data.toList = false ∨ trim s.data.toList ≠ s.data.toList)) := fun h => by
    rcases h with h | h | h
    · exact HNe.out h
    · rw [HFld.out] at h; cases h
    · exact h htr
  obtain ⟨b, hb⟩ : ∃ b, w2.heap.size = b := ⟨_, rfl⟩
  obtain ⟨w3, hw3⟩ : ∃ w3, w3 = (w2.alloc (.cells #[.pointer none, .slice none 0 0] 58)).iter s 0 := ⟨_, rfl⟩
  have HW3 : Hid (WlR s w.heap.size b w w3 0 []) := by
    have hb3 : b ≤ b := Nat.le_refl _
    refine ⟨?_, ?_, ?_, ?_⟩
    · have h := Bd.new w2 (b + 2)
      rw [hb] at h
      rw [hw3]
      exact h.below ((Below.refl _ _).alloc (Nat.le_refl _) _)
    · have h := World.iter_heap (w2.alloc (.cells #[.pointer none, .slice none 0 0] 58)) s 0
      rw [show (w2.alloc (.cells #[.pointer none, .slice none 0 0] 58)).heap.size = b + 1 by simp [hb]] at h
      rw [hw3]
      exact h
    · rw [hw3]
      have h2 : w.heap.size ≤ w2.heap.size := HB2.out.size
      exact (HB2.out.alloc h2 _).alloc (by simp; omega) _
    · have h2 : w.heap.size ≤ w2.heap.size := HB2.out.size
      omega
  clear HIf HTr HNe HFld HTq HTn HBad htr HB1
  go_wp2
  try rw [← hw3]
  clear hw3 t1 t2 he
  try rw [hb]
  go_loopw [7, 8] (fun fv nv wr => ∃ (pos fr : Nat) (nm : Bool) (acc : List UInt8), fv = .int .i64 fr ∧ nv = .bool nm ∧ Hid (WlR s w.heap.size b w wr pos acc) ∧ Hid (PlR ps s.data.toList R pos fr nm acc)) (fun _ _ wr => s.size - wr.iterPos (b + 1))
  case atStart => exact ⟨0, 0, false, [], rfl, rfl, HW3, HP0⟩
  case round =>
    obtain ⟨pos, fr, nm, acc, rfl, rfl, hw, hp⟩ := hrel
    have hle := hp.out.le
    have hfp := hp.out.fp
    have hln := hp.out.len
    have hat := hw.out.at
    have HMs : Hid (wr.iterPos (b + 1) = pos) := hat
    have hfr : (0 : Int) ≤ (fr : Int) := by omega
    have hfp2 : (fr : Int) ≤ (pos : Int) := by omega
    have hle2 : (pos : Int) ≤ (s.size : Int) := by omega
    have hpz : (pos : Int) ≤ 1048576 := by omega
    have HPl : Hid ((s.extract fr pos).data.toList = sub s.data.toList fr pos) := ext_sub s fr pos
    have HPs : Hid ((s.extract fr pos).size ≤ 1048576 ∧ acc.length + (s.extract fr pos).size ≤ 2000000000000) := by
      have h : (s.extract fr pos).size = pos - fr := by rw [← size_list, ext_sub, sub_len _ _ _ hle]
      rw [h]
      constructor
      · omega
      · omega
    by_cases hlt : pos < s.size
    · obtain ⟨c, wd, hdec, hw1, hc1, hcc⟩ := rune_at s pos hlt
      obtain ⟨wn, hwn⟩ : ∃ wn, wn = wr.iterAt (b + 1) s (pos + wd) := ⟨_, rfl⟩
      have hnx : ∀ ty, (Instr.next (.pointer (some ⟨b + 1, 0, none⟩)) true ty).run Tryz.prog wr = .ok (.tuple #[.bool true, .int .i64 pos, .int .i32 (c : Nat)]) wn := fun ty => by
        have h := Lib.run_next_any_at (P := Tryz.prog) wr (b + 1) s pos ty hw.out.it hlt
        rw [hdec] at h
        rw [hwn]
        exact h
      have HWn : Hid (WlR s w.heap.size b w wn (pos + wd) acc) := (by rw [hwn]; exact hw.out.next _ : WlR _ _ _ _ _ _ _)
      have HU : Hid (∀ n : Nat, n < 128 → c = n → wd = 1 ∧ (s.data.toList.getD pos 0).toNat = n) := fun n hn hcn => by
        rcases hcc with ⟨a1, a2, a3⟩ | ⟨a1, a2⟩
        · exact ⟨a3, by omega⟩
        · omega
      have HOn : Hid (c ≠ 125 → (nm = false → c ≠ 123) → PlR ps s.data.toList R (pos + wd) fr nm acc) := fun h1 h2 => hp.out.on (by omega) hdec hcc h1 h2
      have HPp : Hid (PlR ps s.data.toList R pos fr nm acc) := hp
      have HLt : Hid (pos < s.data.toList.length) := (by omega : pos < s.data.toList.length)
      have HWd : Hid (1 ≤ wd) := hw1
      clear hwn hdec hcc hp hw hat hln hw1
      by_cases h3 : c = 123
      · obtain ⟨rfl, hu⟩ := HU.out 123 (by decide) h3
        have hu2 : s.data.toList.getD pos 0 = 123 := UInt8.toNat_inj.1 hu
        have q3 : ((c : Int) == 123) = true := by simp [h3]
        have q5 : ((c : Int) == 125) = false := by simp [h3]
        cases nm with
        | false =>
          have HPo : Hid (PlR ps s.data.toList R (pos + 1) (pos + 1) true (acc ++ sub s.data.toList fr pos)) := HPp.out.open HLt.out hu2
          clear hu hu2 h3 HOn HPp
          go_wp2_with fail
          generalize hPe : s.extract fr pos = P at *
          clear hPe
          refine (HWr.out b acc P wn HWn.out.bd (by have := HPs.out.2; omega) HWn.out.size).mono ?_
          rintro e w4 ⟨rfl, hd4, hf4⟩
          have HW4 : Hid (WlR s w.heap.size b w w4 (pos + 1) (acc ++ sub s.data.toList fr pos)) := (by rw [HPl.out] at hd4; exact HWn.out.write hf4 hd4 : WlR _ _ _ _ _ _ _)
          have HM4 : Hid (w4.iterPos (b + 1) = pos + 1) := HW4.out.at
          clear hd4 hf4
          go_wp2
          go_roundw
          case rel => exact ⟨pos + 1, pos + 1, true, _, by go_num, rfl, HW4, HPo⟩
          case measure => rw [HMs.out, HM4.out]; omega
        | true =>
          have HPo : Hid (PlR ps s.data.toList R (pos + 1) fr true acc) := HOn.out (by omega) (fun h => by cases h)
          have HM4 : Hid (wn.iterPos (b + 1) = pos + 1) := HWn.out.at
          clear hu hu2 h3 HOn HPp
          go_wp2
          go_roundw
          case rel => exact ⟨pos + 1, fr, true, acc, rfl, rfl, HWn, HPo⟩
          case measure => rw [HMs.out, HM4.out]; omega
      · have q3 : ((c : Int) == 123) = false := by simp; omega
        by_cases h5 : c = 125
        · obtain ⟨rfl, hu⟩ := HU.out 125 (by decide) h5
          have hu2 : s.data.toList.getD pos 0 = 125 := UInt8.toNat_inj.1 hu
          have q5 : ((c : Int) == 125) = true := by simp [h5]
          cases nm with
          | false =>
            have HF : Hid (Y = ([], 180)) := HNo.out (HPp.out.bad2 HLt.out hu2)
            clear hu hu2 h5 HOn HPp
            go_wp2
            go_ret2
            exact ⟨by rw [HF.out]; rfl, HWn.out.bel⟩
          | true =>
            have HSh : Hid (isNm (sub s.data.toList fr pos) = true → PlR ps s.data.toList R (pos + 1) (pos + 1) false (acc ++ valA ps (sub s.data.toList fr pos))) := fun h => HPp.out.shut HLt.out hu2 h (HVL.out _)
            have HBd : Hid (isNm (sub s.data.toList fr pos) = false → Y = ([], 180)) := fun h => HNo.out (HPp.out.bad HLt.out hu2 h)
            have HLn : Hid (acc.length + (pos - fr) ≤ pos * 1048577) := HPp.out.len
            clear hu hu2 h5 HOn HPp
            go_wp2_with fail
            generalize hPe : s.extract fr pos = P at *
            clear hPe
            refine (HNm.out P wn HPs.out.1).mono ?_
            rintro e w4 ⟨rfl, hb4⟩
            have HW4 : Hid (WlR s w.heap.size b w w4 (pos + 1) acc) := HWn.out.below hb4
            clear hb4
            rw [HPl.out]
            by_cases hn : isNm (sub s.data.toList fr pos) = true
            · have HPo : Hid (PlR ps s.data.toList R (pos + 1) (pos + 1) false (acc ++ valA ps (sub s.data.toList fr pos))) := HSh.out hn
              have HVs : Hid ((str (valA ps (sub s.data.toList fr pos))).size ≤ 1048576) := (by rw [str_size]; exact HVL.out _ : _ ≤ _)
              have HVq : Hid ((str (valA ps (sub s.data.toList fr pos))).data.toList = valA ps (sub s.data.toList fr pos)) := str_list _
              rw [hn]
              clear hn HSh HBd
              go_wp2_with fail
              refine (HVl.out P w4 HW4.out.bel).mono ?_
              rintro e w5 ⟨rfl, hb5⟩
              have HW5 : Hid (WlR s w.heap.size b w w5 (pos + 1) acc) := HW4.out.below hb5
              clear hb5
              rw [HPl.out]
              generalize str (valA ps (sub s.data.toList fr pos)) = V at *
              go_wp2_with fail
              refine (HWr.out b acc V w5 HW5.out.bd (by have := HPs.out.2; have := HVs.out; omega) HW5.out.size).mono ?_
              rintro e w6 ⟨rfl, hd6, hf6⟩
              have HW6 : Hid (WlR s w.heap.size b w w6 (pos + 1) (acc ++ valA ps (sub s.data.toList fr pos))) := (by rw [HVq.out] at hd6; exact HW5.out.write hf6 hd6 : WlR _ _ _ _ _ _ _)
              have HM6 : Hid (w6.iterPos (b + 1) = pos + 1) := HW6.out.at
              clear hd6 hf6
              go_wp2
              go_roundw
              case rel => exact ⟨pos + 1, pos + 1, false, _, by go_num, rfl, HW6, HPo⟩
              case measure => rw [HMs.out, HM6.out]; omega
            · have hn : isNm (sub s.data.toList fr pos) = false := by simpa using hn
              have HF : Hid (Y = ([], 180)) := HBd.out hn
              rw [hn]
              clear hn HSh HBd
              go_wp2
              go_ret2
              exact ⟨by rw [HF.out]; rfl, HW4.out.bel⟩
        · have q5 : ((c : Int) == 125) = false := by simp; omega
          have HPo : Hid (PlR ps s.data.toList R (pos + wd) fr nm acc) := HOn.out h5 (fun _ => h3)
          have HM4 : Hid (wn.iterPos (b + 1) = pos + wd) := HWn.out.at
          clear h3 h5 HOn HPp
          go_wp2
          go_roundw
          case rel => exact ⟨pos + wd, fr, nm, acc, rfl, rfl, HWn, HPo⟩
          case measure => rw [HMs.out, HM4.out]; have := HWd.out; omega
    · have hnx : ∀ ty, (Instr.next (.pointer (some ⟨b + 1, 0, none⟩)) true ty).run Tryz.prog wr = _ := fun ty => Lib.run_next_end_at wr (b + 1) s pos ty hw.out.it hlt
      obtain rfl : pos = s.size := by omega
      have hdr : s.data.toList.drop s.size = [] := by rw [← hsz]; exact List.drop_length
      cases nm with
      | true =>
        have HF : Hid (Y = ([], 180)) := HNo.out (by rw [hp.out.eq, hdr]; rfl)
        have HBl : Hid (Below w.heap.size w wr) := hw.out.bel
        clear hdr hln hat
        go_wp2
        go_ret2
        exact ⟨by rw [HF.out]; rfl, HBl.out⟩
      | false =>
        have HF : Hid (Y = (acc ++ sub s.data.toList fr s.size, 0)) := HOk.out _ (by rw [hp.out.eq, hdr, stR_end]) HGd.out
        have HWw : Hid (WlR s w.heap.size b w wr s.size acc) := hw
        clear hdr hln hat
        go_wp2_with fail
        generalize hPe : s.extract fr s.size = P at *
        clear hPe
        refine (HWr.out b acc P wr HWw.out.bd (by have := HPs.out.2; omega) HWw.out.size).mono ?_
        rintro e w4 ⟨rfl, hd4, hf4⟩
        have HW4 : Hid (WlR s w.heap.size b w w4 s.size (acc ++ sub s.data.toList fr s.size)) := (by rw [HPl.out] at hd4; exact HWw.out.write hf4 hd4 : WlR _ _ _ _ _ _ _)
        clear hd4 hf4
        go_wp2_with fail
        refine (HSt.out b _ w4 HW4.out.bd HW4.out.size).mono ?_
        rintro e w5 ⟨rfl, hb5⟩
        have HB5 : Hid (Below w.heap.size w w5) := HW4.out.bel.trans (hb5.mono HW4.out.hn)
        clear hb5
        generalize hZ : str (acc ++ sub s.data.toList fr s.size) = Z at *
        have HZ : Hid (str (acc ++ sub s.data.toList fr s.size) = Z) := hZ
        clear hZ
        go_wp2
        go_ret2
        refine ⟨?_, HB5.out⟩
        rw [HF.out]
        dsimp only
        rw [HZ.out]
        rfl

end Hn
end Go.Proofs.YticncpjpkgdnlaaGreatDoor
