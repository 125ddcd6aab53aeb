/-
  The document's Print; the law TargetPrints.
-/
import Derived.Test.YtpnijigjlhfklaaGreatDoorGPzd
set_option linter.unusedVariables false
set_option linter.unusedSimpArgs false
set_option maxRecDepth 100000
namespace Go.Proofs.YtpnijigjlhfklaaGreatDoor
open Go.RowKit Go.Shelf
namespace Tg
open Oc

theorem txtR_len (form : Int) (host : List UInt8) (port : Int) (path query : List UInt8) (hq : Bool) (c0 : -9223372036854775808 ≤ port) (c1 : port ≤ 9223372036854775807) : (txtR form host port path query hq).1.length ≤ 7 ∧ (txtR form host port path query hq).2.length ≤ host.length + path.length + query.length + 40 := by
  unfold txtR
  split
  · exact wrtR_len form host port path query hq c0 c1
  · exact ⟨by decide, by show 1 ≤ _; omega⟩
def prxR (form : Int) (host : List UInt8) (port : Int) (path query : List UInt8) (hq : Bool) (y : PRes) : List UInt8 × Int :=
  if y.err = 0 ∧ y.form = form ∧ y.host = host ∧ y.port = port ∧ y.path = path ∧ y.query = query ∧ y.hasq = hq then ((txtR form host port path query hq).2, 0) else ([], 50)
theorem prx_prn (form : Int) (host : List UInt8) (port : Int) (path query : List UInt8) (hq : Bool) :
    prxR form host port path query hq (parP (txtR form host port path query hq).1 (txtR form host port path query hq).2) = prnR form host port path query hq (parP (wrtR form host port path query hq).1 (wrtR form host port path query hq).2) := by
  by_cases h : form = 1 ∨ form = 2 ∨ form = 3
  · have e : txtR form host port path query hq = wrtR form host port path query hq := by unfold txtR; rw [if_pos h]
    unfold prxR prnR
    rw [e]
  · have e : txtR form host port path query hq = (optL, [42]) := by unfold txtR; rw [if_neg h]
    have h1 : form ≠ 1 := fun x => h (.inl x)
    have h2 : form ≠ 2 := fun x => h (.inr (.inl x))
    have h3 : form ≠ 3 := fun x => h (.inr (.inr x))
    by_cases h4 : form = 4
    · have e2 : wrtR form host port path query hq = (optL, [42]) := by unfold wrtR; rw [if_neg h1, if_neg h2, if_neg h3, if_pos h4]
      unfold prxR prnR
      rw [e, e2]
    · have e2 : wrtR form host port path query hq = (getL, []) := by unfold wrtR; rw [if_neg h1, if_neg h2, if_neg h3, if_neg h4]
      have y1 : parP optL [42] = ⟨4, [], -1, [], [], false, 0, 0⟩ := by
        unfold parP
        rw [if_neg (by simp), if_neg (by decide), if_neg (by decide), if_pos ⟨rfl, rfl⟩]
      have y2 : parP getL [] = wrongP 0 50 := by unfold parP; rw [if_pos rfl]
      unfold prxR prnR
      rw [e, e2, y1, y2]
      rw [if_neg (fun x => h4 x.2.1.symm), if_neg (fun x => by have := x.1; revert this; decide)]

end Tg
end Go.Proofs.YtpnijigjlhfklaaGreatDoor
