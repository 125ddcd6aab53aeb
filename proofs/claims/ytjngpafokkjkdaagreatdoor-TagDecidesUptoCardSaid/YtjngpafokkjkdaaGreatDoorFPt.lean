/-
  check, PrintLine, Print; the document's.
-/
import Derived.Test.YtjngpafokkjkdaaGreatDoorFBd
import Derived.Test.YtjngpafokkjkdaaGreatDoorFHd
set_option linter.unusedVariables false
set_option linter.unusedSimpArgs false
namespace Go.Proofs.YtjngpafokkjkdaaGreatDoor
open Go.RowKit Go.Shelf
namespace Fd
open Oc Tg

/-- What is not right of a field. -/
def chkZ (p : Fl) : Int := if isName p.1 then if isValue p.2 then 0 else 61 else 60
def lineP (p : Fl) : List UInt8 := if p.2 = [] then p.1 ++ [58] else p.1 ++ [58] ++ [32] ++ p.2
def printL (p : Fl) : List UInt8 × Int := if chkZ p = 0 then (lineP p, 0) else ([], chkZ p)
def printG : List Fl → List UInt8 → List UInt8 × Int
  | [], acc => (acc, 0)
  | p :: t, acc => if chkZ p = 0 then printG t (acc ++ lineP p ++ [13, 10]) else ([], chkZ p)
def printT (t : List Fl) : List UInt8 × Int := if 100 < t.length then ([], 65) else printG t []
theorem chk_cases (p : Fl) : (chkZ p = 0 ∧ isName p.1 = true ∧ isValue p.2 = true) ∨ (chkZ p = 61 ∧ isName p.1 = true ∧ isValue p.2 = false) ∨ (chkZ p = 60 ∧ isName p.1 = false) := by
  unfold chkZ
  cases h1 : isName p.1 with
  | false => exact .inr (.inr ⟨rfl, rfl⟩)
  | true =>
    cases h2 : isValue p.2 with
    | false => exact .inr (.inl ⟨rfl, rfl, rfl⟩)
    | true => exact .inl ⟨rfl, rfl, rfl⟩
theorem drop_nth (t : List Fl) (k : Nat) (h : k < t.length) : t.drop k = nth t k :: t.drop (k + 1) := by
  rw [List.drop_eq_getElem_cons h]
  unfold nth
  rw [List.getD_eq_getElem?_getD, List.getElem?_eq_getElem h]
  rfl
theorem lineP_len (p : Fl) : (lineP p).length ≤ szF p := by
  unfold lineP szF
  split
  · simp; omega
  · simp; omega
theorem str_app (a b : List UInt8) : str a ++ str b = str (a ++ b) := by
  apply eq_list
  rw [ByteArray.data_append, Array.toList_append, str_list, str_list, str_list]
theorem join_str (a b : ByteArray) : (a ++ b) = str (a.data.toList ++ b.data.toList) := by
  conv => lhs; rw [← str_self a, ← str_self b]
  rw [str_app]

end Fd
end Go.Proofs.YtjngpafokkjkdaaGreatDoor
