import Derived.Test.YtdcfhnbagldilaaGreatDoorMgG
import Derived.Test.YtdcfhnbagldilaaGreatDoorMgF
import Derived.Test.YtdcfhnbagldilaaGreatDoorMgS
import Derived.Test.YtdcfhnbagldilaaGreatDoorProg
set_option linter.unusedVariables false
set_option linter.unusedSimpArgs false
namespace Go.Proofs.YtdcfhnbagldilaaGreatDoor
open Go.RowKit Go.Shelf
namespace Oc
end Oc
end Go.Proofs.YtdcfhnbagldilaaGreatDoor
set_option linter.unusedVariables false
set_option linter.unusedSimpArgs false
namespace Go.Proofs.YtdcfhnbagldilaaGreatDoor
open Go.RowKit Go.Shelf
namespace Oc
end Oc
end Go.Proofs.YtdcfhnbagldilaaGreatDoor
set_option linter.unusedVariables false
set_option linter.unusedSimpArgs false
namespace Go.Proofs.YtdcfhnbagldilaaGreatDoor
open Go.RowKit Go.Shelf
namespace Oc
end Oc
end Go.Proofs.YtdcfhnbagldilaaGreatDoor
set_option linter.unusedVariables false
set_option linter.unusedSimpArgs false
namespace Go.Proofs.YtdcfhnbagldilaaGreatDoor
namespace Oc
def prt1 (p : Prm) : Option (List UInt8) :=
  if isTok p.1 = false then none
  else if p.2.2 = false then (if p.2.1 = [] then some (59 :: 32 :: p.1) else none)
  else if isTok p.2.1 = true then some (59 :: 32 :: (p.1 ++ 61 :: p.2.1))
  else if isFld p.2.1 = true then some (59 :: 32 :: (p.1 ++ 61 :: qText p.2.1)) else none
def prts : List Prm → Option (List UInt8)
  | [] => some []
  | p :: r => match prt1 p with | none => none | some a => (prts r).map (a ++ ·)
def printR (t : List Prm) : List UInt8 × Int := match prts t with | some x => (x, 0) | none => ([], 15)
def szP (p : Prm) : Nat := p.1.length + p.2.1.length + 4
def sumP (t : List Prm) : Nat := (t.map szP).sum
def Stops (z : List UInt8) : Prop := z = [] ∨ ∃ y, z = 59 :: y
theorem qText_len (v : List UInt8) : (qText v).length ≤ 2 * v.length + 2 := by
  have := qBody_le v
  unfold qText
  simp
  omega
theorem prt1_len {p : Prm} {x : List UInt8} (h : prt1 p = some x) : x.length ≤ 2 * szP p := by
  have := qText_len p.2.1
  unfold prt1 at h
  unfold szP
  (repeat' split at h) <;> first | (cases h; simp; omega) | cases h
theorem drop_nth (t : List Prm) (k : Nat) (h : k < t.length) : t.drop k = nth t k :: t.drop (k + 1) := by
  rw [List.drop_eq_getElem_cons h]
  unfold nth
  rw [List.getD_eq_getElem?_getD, List.getElem?_eq_getElem h]
  rfl
theorem sumP_drop (t : List Prm) (k : Nat) (h : k < t.length) : sumP (t.drop k) = szP (nth t k) + sumP (t.drop (k + 1)) := by
  rw [drop_nth t k h]; rfl
theorem prts_step {t : List Prm} {k : Nat} {acc a : List UInt8} (h : k < t.length) (hst : prts t = (prts (t.drop k)).map (acc ++ ·)) (ha : prt1 (nth t k) = some a) :
    prts t = (prts (t.drop (k + 1))).map ((acc ++ a) ++ ·) := by
  rw [hst, drop_nth t k h, prts, ha]
  simp only [Option.map_map]
  congr 1
  funext y
  simp
theorem prts_bad {t : List Prm} {k : Nat} {acc : List UInt8} (h : k < t.length) (hst : prts t = (prts (t.drop k)).map (acc ++ ·)) (ha : prt1 (nth t k) = none) : printR t = ([], 15) := by
  unfold printR
  rw [hst, drop_nth t k h, prts, ha]
  rfl
theorem prts_end {t : List Prm} {acc : List UInt8} (hst : prts t = (prts (t.drop t.length)).map (acc ++ ·)) : prts t = some acc := by
  rw [hst, List.drop_length, prts]
  simp
theorem sumP_append (a b : List Prm) : sumP (a ++ b) = sumP a + sumP b := by simp [sumP]
theorem nth_sz (t : List Prm) (k : Nat) (h : k < t.length) : szP (nth t k) ≤ sumP t := by
  have h1 := sumP_append (t.take k) (t.drop k)
  rw [List.take_append_drop, sumP_drop t k h] at h1
  omega
end Oc
end Go.Proofs.YtdcfhnbagldilaaGreatDoor
namespace Go.Proofs
end Go.Proofs
