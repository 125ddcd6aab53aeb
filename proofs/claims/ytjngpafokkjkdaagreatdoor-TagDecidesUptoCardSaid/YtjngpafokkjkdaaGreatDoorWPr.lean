/-
  The law TagPrints.
-/
import Derived.Test.YtjngpafokkjkdaaGreatDoorTSm
import Derived.Deep.RegionHeld3
set_option linter.unusedVariables false
set_option linter.unusedSimpArgs false
namespace Go.Proofs.YtjngpafokkjkdaaGreatDoor
open Go.RowKit Go.Shelf
namespace Tt
open Oc Tg

set_option maxRecDepth 100000 in
set_option maxHeartbeats 1000000 in
theorem rAlike_any (t u : Tg1) (w : World) :
    Calls Tryz.prog 32 #[.agg #[.bool t.1, .string (str t.2)], .agg #[.bool u.1, .string (str u.2)]] w fun e w' => e = .returned (.bool (lkA t u)) ∧ Below w.heap.size w w' := by
  have HE : Hid (_ = lkA t u) := same_text t.2 u.2
  obtain ⟨tb, tl⟩ := t
  obtain ⟨ub, ul⟩ := u
  dsimp only at *
  generalize str tl = X at *
  generalize str ul = Y at *
  go_enter Tryz.func32, Tryz.ntmps32
  go_wp2
  go_ret
  refine ⟨ret_bool HE.out, ?_⟩
  repeat (first | exact Below.refl _ _ | refine Below.alloc ?_ (by simp) _)

set_option maxRecDepth 100000 in
set_option maxHeartbeats 1000000 in
theorem rStrong_any (t u : Tg1) (w : World) :
    Calls Tryz.prog 25 #[.agg #[.bool t.1, .string (str t.2)], .agg #[.bool u.1, .string (str u.2)]] w fun e w' => e = .returned (.bool (lkS t u)) ∧ Below w.heap.size w w' := by
  have HE : Hid (lkS t u = (!t.1 && (!u.1 && decide (t.2 = u.2)))) := (rfl : _ = _)
  have HQ : Hid (_ = _) := same_text t.2 u.2
  have HB : Hid (∀ a b, Below w.heap.size w ((w.alloc a).alloc b)) := fun a b => ((Below.refl _ w).alloc (Nat.le_refl _) _).alloc (by simp) _
  generalize lkS t u = y at *
  obtain ⟨tb, tl⟩ := t
  obtain ⟨ub, ul⟩ := u
  dsimp only at *
  generalize decide (tl = ul) = q at *
  generalize str tl = X at *
  generalize str ul = Y at *
  cases tb with
  | true =>
    go_enter Tryz.func25, Tryz.ntmps25
    go_wp2
    go_ret
    exact ⟨ret_bool HE.out.symm, HB.out _ _⟩
  | false =>
    cases ub with
    | true =>
      go_enter Tryz.func25, Tryz.ntmps25
      go_wp2
      go_ret
      exact ⟨ret_bool HE.out.symm, HB.out _ _⟩
    | false =>
      go_enter Tryz.func25, Tryz.ntmps25
      go_wp2
      go_ret
      exact ⟨ret_bool (by rw [HE.out, HQ.out]; simp), HB.out _ _⟩

end Tt
end Go.Proofs.YtjngpafokkjkdaaGreatDoor
